/-
  Package macro: letter, named; strings.Compare, the closure that find hands to sort.Find, sort.Find, find.
  slices.Grow, slices.Concat of macros; package macro: join.
-/
import Derived.Test.YtmnbepapgghdaaaGreatK08
import Derived.Lib.Bytealg
import Derived.BigQuiet
import Derived.Lib.AppendZerosOnto
namespace Go.Proofs.YtmnbepapgghdaaaGreat
open Go.RowKit

theorem letter7_any (x : Int) (w : World) : Calls Tryz.prog 116 #[.int .u8 x] w fun e w' => e = .returned (.bool (ltrI x)) ∧ w = w' := by
  rcases ltr_ways x with ⟨h1, h2, h⟩ | ⟨h1, h⟩ | ⟨h1, h2, h⟩ | ⟨h1, h2, h⟩ | ⟨h1, h⟩ <;> (
    have H := Lib.hid h
    generalize ltrI x = v at *
    clear h
    try (have d1 : decide (x ≤ 122) = false := decide_eq_false (by omega))
    try (have d2 : decide (x ≤ 90) = false := decide_eq_false (by omega))
    go_enter Tryz.func116, Tryz.ntmps116
    go_wp2
    go_ret
    exact ⟨ret_bool H.out.symm, rfl⟩)
theorem name_all {s : By} (h : s.all ltr = true) (h1 : 1 ≤ s.length) (h2 : s.length ≤ 20) : nameB s = true := by
  unfold nameB; rw [h, decide_eq_true ⟨h1, h2⟩]; rfl
theorem name_size {s : By} (h : ¬ (1 ≤ s.length ∧ s.length ≤ 20)) : nameB s = false := by
  unfold nameB; rw [decide_eq_false h, Bool.and_false]
set_option maxRecDepth 100000 in
set_option maxHeartbeats 2000000 in
theorem named_any (s : ByteArray) (w : World) (hs : s.size ≤ 4611686018427387904) :
    Calls Tryz.prog 95 #[.string s] w fun e w' => e = .returned (.bool (nameB s.data.toList)) ∧ w = w' := by
  obtain ⟨V, hV⟩ : ∃ V, nameB s.data.toList = V := ⟨_, rfl⟩
  rw [hV]
  by_cases h0 : s.size = 0
  · have HV := Lib.hid ((name_size (s := s.data.toList) (by rw [size_list]; omega)).symm.trans hV)
    clear hV
    have q : ((s.size : Int) == 0) = true := by rw [beq_iff_eq]; omega
    go_enter Tryz.func95, Tryz.ntmps95
    go_wp2
    go_ret
    exact ⟨ret_bool HV.out, rfl⟩
  · have q : ((s.size : Int) == 0) = false := by rw [beq_eq_false_iff_ne]; omega
    by_cases h20 : 20 < s.size
    · have HV := Lib.hid ((name_size (s := s.data.toList) (by rw [size_list]; omega)).symm.trans hV)
      clear hV
      go_enter Tryz.func95, Tryz.ntmps95
      go_wp2
      go_ret
      exact ⟨ret_bool HV.out, rfl⟩
    · have HV := Lib.hid hV
      clear hV
      go_enter Tryz.func95, Tryz.ntmps95
      go_wp2
      go_loop [14] (fun i => ∃ k : Nat, k ≤ s.size ∧ i = .int .i64 k ∧ Hid ((s.data.toList.take k).all ltr = true)) (fun i => s.size - (intOf i).toNat)
      case atStart => exact ⟨0, Nat.zero_le _, rfl, Lib.hid rfl⟩
      case round =>
        obtain ⟨k, hk, rfl, HA⟩ := hrel
        by_cases hlt : k < s.size
        · have HS := Lib.hid (take_step s k hlt)
          have hat : Hid (s.data.toList[k]? = some s[k]) := Lib.hid (List.getElem?_eq_getElem (by rw [size_list]; exact hlt))
          obtain ⟨x, hx⟩ : ∃ x : Int, (s[k].toNat : Int) = x := ⟨_, rfl⟩
          have HL := Lib.hid (ltr_int s[k])
          rw [hx] at HL
          have C := Lib.hid (letter7_any x w)
          generalize ltrI x = v at *
          cases v
          · go_wp2_with fail
            refine C.out.mono ?_
            rintro e w' ⟨rfl, rfl⟩
            go_wp2
            go_ret
            exact ⟨ret_bool ((name_stop hat.out HL.out).symm.trans HV.out), rfl⟩
          · go_wp2_with fail
            refine C.out.mono ?_
            rintro e w' ⟨rfl, rfl⟩
            go_wp2
            go_round
            case rel => exact ⟨k + 1, by omega, by go_num, Lib.hid (by rw [HS.out, List.all_append, HA.out]; simp [HL.out])⟩
            case measure => simp [intOf]; omega
        · have hfin := HA.out
          rw [List.take_of_length_le (by rw [size_list]; omega)] at hfin
          have HE := Lib.hid ((name_all hfin (by rw [size_list]; omega) (by rw [size_list]; omega)).symm.trans HV.out)
          clear hfin HA
          go_wp2
          go_ret
          exact ⟨ret_bool HE.out, rfl⟩
set_option maxHeartbeats 1000000 in
set_option maxRecDepth 100000 in
theorem cmpStr_any (a b : List UInt8) (w : World) :
    Calls Tryz.prog 121 #[.string ⟨a.toArray⟩, .string ⟨b.toArray⟩] w fun e w' => e = .returned (.int .i64 (Lib.compareBytes a b)) ∧ w = w' := by
  go_enter Tryz.func121, Tryz.ntmps121
  go_wp2
  rw [run_callFunc_extern Tryz.func129 (by kernel_rfl) (by kernel_rfl) (by kernel_rfl) (e := Extern.BytealgCompare.compare) (by kernel_rfl), Lib.run_compareString]
  simp only [Result.andThen]
  rw [Oper.upon_value]
  go_wp2
  go_ret
  exact ⟨rfl, rfl⟩
set_option maxRecDepth 100000 in
set_option maxHeartbeats 1000000 in
theorem compare_any (a b : List UInt8) (w : World) :
    Calls Tryz.prog 105 #[.string ⟨a.toArray⟩, .string ⟨b.toArray⟩] w fun e w' => e = .returned (.int .i64 (Lib.compareBytes a b)) ∧ w = w' := by
  go_enter Tryz.func105, Tryz.ntmps105
  go_wp2_with (go_at_call 121; refine (cmpStr_any _ _ _).mono ?_; rintro e w' ⟨rfl, rfl⟩)
  go_ret
  exact ⟨rfl, rfl⟩

set_option maxRecDepth 100000 in
set_option maxHeartbeats 1000000 in
theorem clos_any (p q : Nat) (A : Option Addr) (c k : Nat) (fs : List Ml) (f : Ml) (n : List UInt8) (w : World) (hr : RdM w A fs) (hc : fs.length ≤ 100000)
    (hp : w.cell? ⟨p, 0, none⟩ = some (.string ⟨n.toArray⟩)) (hq : w.cell? ⟨q, 0, none⟩ = some (.slice A fs.length c)) (hf : Hid (fs[k]? = some f)) (hk : k < fs.length) :
    Calls Tryz.prog 117 #[.int .i64 k, .pointer (some ⟨p, 0, none⟩), .pointer (some ⟨q, 0, none⟩)] w fun e w' => e = .returned (.int .i64 (Lib.compareBytes n f.1)) ∧ ∃ m, w' = w.drewN m := by
  obtain ⟨b, o, rfl, hcell⟩ := hr.cells (by omega)
  obtain ⟨B, d, c1, c2, c3, _⟩ := hcell k f hf.out
  clear hcell hr
  have i1 : (k : Int) < (fs.length : Int) := by omega
  go_enter Tryz.func117, Tryz.ntmps117
  go_wp2_with fail
  go_quiet ((go_at_call 105; exact quiet_left (compare_any _ _ _)))
  go_wp2
  go_ret
  exact ⟨rfl, _, rfl⟩
  where
  quiet_left {P : Program} {f : FuncId} {args : Array Value} {w : World} {n : Nat} {v : Value}
    (h : Calls P f args (w.drewN n) fun e w' => e = .returned v ∧ w.drewN n = w') : Calls P f args (w.drewN n) fun e w'' => e = .returned v ∧ ∃ m, w'' = w.drewN m :=
  h.mono fun _ _ ⟨he, hm⟩ => ⟨he, n, hm.symm⟩

theorem cb_le {n m : List UInt8} (h : Op.bytesLess m n = false) : (Lib.compareBytes n m = -1 ∧ m ≠ n) ∨ (Lib.compareBytes n m = 0 ∧ m = n) := by
  rcases bl_tri n m with k | k | k
  · exact .inl ⟨cb_lt k, (bl_ne k).symm⟩
  · subst k; exact .inr ⟨cb_self _, rfl⟩
  · rw [k] at h; cases h
theorem get_of {fs : List Ml} {k : Nat} {f : Ml} (h : fs[k]? = some f) (hk : k < fs.length) : fs[k] = f := by
  rw [List.getElem?_eq_getElem hk] at h; exact Option.some.inj h
theorem lo_step {fs : List Ml} {n : List UInt8} {h : Nat} {f : Ml} (hs : Sorted fs) (hf : fs[h]? = some f) (hl : Op.bytesLess f.1 n = true) : ∀ t (q : t < fs.length), t < h + 1 → Op.bytesLess fs[t].1 n = true := fun t q k => by
  have hh : h < fs.length := by
    rcases Nat.lt_or_ge h fs.length with z | z
    · exact z
    · rw [List.getElem?_eq_none z] at hf; cases hf
  have e := get_of hf hh
  rcases Nat.lt_or_ge t h with z | z
  · have := hs.at z hh
    rw [e] at this
    exact bl_trans this hl
  · obtain rfl : t = h := by omega
    rw [e]; exact hl
theorem hi_step {fs : List Ml} {n : List UInt8} {h : Nat} {f : Ml} (hs : Sorted fs) (hf : fs[h]? = some f) (hl : Op.bytesLess f.1 n = false) : ∀ t (q : t < fs.length), h ≤ t → Op.bytesLess fs[t].1 n = false := fun t q k => by
  have e := get_of hf (by omega)
  rcases Nat.lt_or_ge h t with z | z
  · have := hs.at z q
    rw [e] at this
    cases k2 : Op.bytesLess fs[t].1 n
    · rfl
    · rw [bl_trans this k2] at hl; cases hl
  · obtain rfl : t = h := by omega
    rw [e]; exact hl

theorem ret_find {i j : Nat} {a b : Bool} (h : j = i) (k : b = a) : Ending.returned (.tuple #[.int .i64 (i : Int), .bool a]) = .returned (.tuple #[.int .i64 (j : Int), .bool b]) := by rw [h, k]
set_option maxRecDepth 100000 in
set_option maxHeartbeats 1000000 in
theorem sfind_any (p q : Nat) (A : Option Addr) (c : Nat) (fs : List Ml) (n : List UInt8) (w : World) (hr : RdM w A fs) (hc : fs.length ≤ 100000) (hs : Hid (Sorted fs))
    (hp : w.cell? ⟨p, 0, none⟩ = some (.string ⟨n.toArray⟩)) (hq : w.cell? ⟨q, 0, none⟩ = some (.slice A fs.length c)) :
    Calls Tryz.prog 103 #[.int .i64 fs.length, .func (Fn.func 117) #[] #[.pointer (some ⟨p, 0, none⟩), .pointer (some ⟨q, 0, none⟩)]] w fun e w' => e = .returned (.tuple #[.int .i64 (plc fs n), .bool (hasL fs n)]) ∧ ∃ m, w' = w.drewN m := by
  go_enter Tryz.func103, Tryz.ntmps103
  go_wp2
  go_loopw [4, 6] (fun x y wr => ∃ i j m : Nat, i ≤ j ∧ j ≤ fs.length ∧ x = .int .i64 i ∧ y = .int .i64 j ∧ (∀ t (h : t < fs.length), t < i → Op.bytesLess fs[t].1 n = true) ∧ (∀ t (h : t < fs.length), j ≤ t → Op.bytesLess fs[t].1 n = false) ∧ wr = w.drewN m) (fun x y _ => (intOf y).toNat - (intOf x).toNat)
  case atStart => exact ⟨0, fs.length, 0, Nat.zero_le _, Nat.le_refl _, rfl, rfl, (fun t _ h => absurd h (by omega)), (fun t h k => absurd h (by omega)), rfl⟩
  case round =>
    obtain ⟨i, j, m, hij, hj, rfl, rfl, hlo, hhi, rfl⟩ := hrel
    have Hlo := Lib.hid hlo
    have Hhi := Lib.hid hhi
    clear hlo hhi
    by_cases hlt : i < j
    · obtain ⟨h, hh⟩ : ∃ h, h = (i + j) / 2 := ⟨_, rfl⟩
      have HE := Lib.hid (show ((i : Int) + (j : Int)) / 2 = (h : Int) by omega)
      have hh1 : i ≤ h := by omega
      have hh2 : h < j := by omega
      clear hh
      obtain ⟨f, hf⟩ : ∃ f, fs[h]? = some f := ⟨_, List.getElem?_eq_getElem (by omega)⟩
      have HF := Lib.hid hf
      clear hf
      have HC := Lib.hid (fun m => clos_any p q A c h fs f n (w.drewN m) (hr.drewN m) hc hp hq HF (by omega))
      clear hr
      cases hl : Op.bytesLess f.1 n
      · have HL := Lib.hid hl
        clear hl
        rcases cb_le HL.out with ⟨e1, _⟩ | ⟨e1, _⟩
        all_goals
          have E1 := Lib.hid e1
          clear e1
          go_wp2_with fail
          rw [HE.out]
          refine (HC.out m).mono ?_
          rw [E1.out]
          rintro e w1 ⟨rfl, m1, rfl⟩
          go_wp2
          go_roundw
          case rel => exact ⟨i, h, _, by omega, by omega, rfl, rfl, Hlo.out, hi_step hs.out HF.out HL.out, rfl⟩
          case measure => simp [intOf]; omega
      · have HL := Lib.hid hl
        clear hl
        have E1 := Lib.hid (cb_gt HL.out)
        go_wp2_with fail
        rw [HE.out]
        refine (HC.out m).mono ?_
        rw [E1.out]
        rintro e w1 ⟨rfl, m1, rfl⟩
        go_wp2
        go_roundw
        case rel => exact ⟨h + 1, j, _, by omega, by omega, by go_num, rfl, lo_step hs.out HF.out HL.out, Hhi.out, rfl⟩
        case measure => simp [intOf]; omega
    · obtain rfl : i = j := by omega
      have hpl := plc_unique hs.out hj Hlo.out Hhi.out
      have HP := Lib.hid hpl
      by_cases hl : i < fs.length
      · obtain ⟨f, hf⟩ : ∃ f, fs[i]? = some f := ⟨_, List.getElem?_eq_getElem (by omega)⟩
        have e := get_of hf hl
        have hle : Op.bytesLess f.1 n = false := by have := Hhi.out i hl (Nat.le_refl _); rwa [e] at this
        have hhas : hasL fs n = (f.1 == n) := by
          have := hasL_plc hs.out (n := n) (by omega)
          rw [this]
          subst hpl
          rw [e]
        have HF := Lib.hid hf
        have HH := Lib.hid hhas
        have HC := Lib.hid (fun m => clos_any p q A c i fs f n (w.drewN m) (hr.drewN m) hc hp hq HF (by omega))
        clear hf e hhas hpl hr
        rcases cb_le hle with ⟨e1, e2⟩ | ⟨e1, e2⟩
        · have E1 := Lib.hid e1
          have E2 := Lib.hid e2
          clear e1 e2 hle
          go_wp2_with fail
          refine (HC.out m).mono ?_
          rw [E1.out]
          rintro e w1 ⟨rfl, m1, rfl⟩
          go_wp2
          go_ret2
          exact ⟨ret_find HP.out (HH.out.trans (beq_eq_false_iff_ne.2 E2.out)), _, by first | rfl | exact World.drewN_drewN _ _ _⟩
        · have E1 := Lib.hid e1
          have E2 := Lib.hid e2
          clear e1 e2 hle
          go_wp2_with fail
          refine (HC.out m).mono ?_
          rw [E1.out]
          rintro e w1 ⟨rfl, m1, rfl⟩
          go_wp2
          go_ret2
          exact ⟨ret_find HP.out (HH.out.trans (beq_iff_eq.2 E2.out)), _, by first | rfl | exact World.drewN_drewN _ _ _⟩
      · have HH := Lib.hid (hasL_plc_end (fs := fs) (n := n) (by omega))
        clear hpl
        go_wp2
        go_ret2
        exact ⟨ret_find HP.out HH.out, _, rfl⟩

theorem two_cells {w : World} (a b : Value) (t u : TypeId) : ((w.alloc (.cells #[a] t)).alloc (.cells #[b] u)).cell? ⟨w.heap.size, 0, none⟩ = some a ∧ ((w.alloc (.cells #[a] t)).alloc (.cells #[b] u)).cell? ⟨w.heap.size + 1, 0, none⟩ = some b := by
  refine ⟨?_, ?_⟩
  · rw [World.cell?_alloc_past _ _ _ (by simp), World.cell?_alloc_new]; rfl
  · rw [World.cell?_alloc_at _ _ _ _ (by simp)]; rfl
set_option maxRecDepth 100000 in
set_option maxHeartbeats 1000000 in
theorem find_any (A : Option Addr) (c : Nat) (fs : List Ml) (n : List UInt8) (w : World) (hr : RdM w A fs) (hc : fs.length ≤ 100000) (hs : Hid (Sorted fs)) :
    Calls Tryz.prog 96 #[.slice A fs.length c, .string ⟨n.toArray⟩] w fun e w' => e = .returned (.tuple #[.int .i64 (plc fs n), .bool (hasL fs n)]) ∧ Below w.heap.size w w' := by
  have hb := bch (one_below w (.cells #[.slice A fs.length c] 66)) (one_below _ (.cells #[.string ⟨n.toArray⟩] 9))
  obtain ⟨h1, h2⟩ := two_cells (w := w) (.slice A fs.length c) (.string ⟨n.toArray⟩) 66 9
  have HC := Lib.hid (sfind_any (w.heap.size + 1) w.heap.size A c fs n _ (hr.below hb) hc hs h2 h1)
  clear h1 h2
  go_enter Tryz.func96, Tryz.ntmps96
  go_wp2_with fail
  refine HC.out.mono ?_
  rintro e w1 ⟨rfl, m, rfl⟩
  go_wp2
  go_ret2
  exact ⟨rfl, bch hb (drewN_below _ _)⟩
end Go.Proofs.YtmnbepapgghdaaaGreat

namespace Go.Proofs.YtmnbepapgghdaaaGreat
open Go.RowKit

theorem grown_own (w : World) (k : Nat) (hk : k ≤ 200000) (z : Value) (hz : z.cells.size = 3) :
    OwnM 137 (w.drew.alloc (.cells (([] : List Value).toArray ++ Builtin.zeroCells z.cells k ++ Builtin.zeroCells z.cells (grownCap w k 0 137 - k)) 137)) w.heap.size (some ⟨w.heap.size, 0, none⟩) (grownCap w k 0 137) [] := by
  have h1 := grownCap_ge w k 0 137
  have h2 := grownCap_le_maxLen w k 0 137 (by unfold maxLen; omega)
  refine ⟨[], ⟨by simp, .inr ⟨w.heap.size, grownCap w k 0 137, _, rfl, Nat.le_refl _, heap_alloc_new w.drew _, Nat.zero_le _, h2, ?_, by simp⟩⟩, rfl⟩
  simp only [List.toArray, Array.size_append, size_zeroCells, hz]
  simp
  omega
set_option maxRecDepth 100000 in
set_option maxHeartbeats 1000000 in
theorem grow_any (n : Nat) (w : World) (hn : n ≤ 200000) : Calls Tryz.prog 128 #[.slice none 0 0, .int .i64 n] w (ResM 137 w []) := by
  by_cases h0 : n = 0
  · subst h0
    go_enter Tryz.func128, Tryz.ntmps128
    go_wp2
    go_ret
    exact ⟨none, 0, rfl, ownM_nil _ _ _, Below.refl _ _⟩
  · have hp : 0 < n := by omega
    obtain ⟨i0, hi, hz0, hz1, hz2⟩ := info_parts Tryz.infoM137
    have hrun := fun ty => Lib.run_append_grow_zeros (P := Tryz.prog) w 66 3 ty 137 i0 _ .i64 .i64 Tryz.underlying66 Tryz.underlying3 hi hz0 none 0 0 [] (by rw [hz1]; exact run_firstCells_none w.drew 3 0 0 0) n hp (by rw [hz1]; decide) (by omega) (by omega)
      (by rw [hz2]; omega) (by rw [hz2]; exact growslice_fits (by omega) (by omega))
    simp only [Nat.zero_add] at hrun
    have hown := grown_own w n hn (.agg #[.string ⟨#[]⟩, .int .i64 0, .slice none 0 0]) rfl
    have hb : Below w.heap.size w (w.drew.alloc (.cells (([] : List Value).toArray ++ Builtin.zeroCells (Value.agg #[.string ⟨#[]⟩, .int .i64 0, .slice none 0 0]).cells n ++ Builtin.zeroCells (Value.agg #[.string ⟨#[]⟩, .int .i64 0, .slice none 0 0]).cells (grownCap w n 0 137 - n)) 137)) := (Below.refl _ _).drew.alloc (Nat.le_refl _) _
    have hG := grownCap_ge w n 0 137
    generalize w.drew.alloc (.cells (([] : List Value).toArray ++ Builtin.zeroCells (Value.agg #[.string ⟨#[]⟩, .int .i64 0, .slice none 0 0]).cells n ++ Builtin.zeroCells (Value.agg #[.string ⟨#[]⟩, .int .i64 0, .slice none 0 0]).cells (grownCap w n 0 137 - n)) 137) = W at hrun hown hb
    generalize grownCap w n 0 137 = G at hrun hown hG
    have hcap := hown.cap
    obtain ⟨_, hG2⟩ := hcap
    clear h0 hi hz0 hz1 hz2
    go_enter Tryz.func128, Tryz.ntmps128
    go_wp2_with (at_builtin; refine Lib.wpList_append_run _ rfl _ _ _ _ rfl _ _ rfl rfl _ _ (hrun _) ?_)
    all_goals (go_ret; exact ⟨_, _, rfl, hown, hb⟩)
/-- A list of slices: where each lies, its capacity, what it reads as. -/
abbrev Pc := Option Addr × Nat × List Ml
def cat (ps : List Pc) : List Ml := ps.flatMap fun p => p.2.2
def Pcs (w : World) (b : Nat) (ps : List Pc) : Prop := ∀ i p, ps[i]? = some p → w.cell? ⟨b, i, none⟩ = some (.slice p.1 p.2.2.length p.2.1) ∧ RdM w p.1 p.2.2
theorem Pcs.below {w w' : World} {b : Nat} {ps : List Pc} (h : Pcs w b ps) (hb : Below w.heap.size w w') : Pcs w' b ps := fun i p hi => ⟨cell_below hb (h i p hi).1, (h i p hi).2.below hb⟩
theorem cat_step {ps : List Pc} {k : Nat} {p : Pc} (h : ps[k]? = some p) : cat (ps.take (k + 1)) = cat (ps.take k) ++ p.2.2 := by
  rw [List.take_add_one, h]; simp [cat]
theorem cat_le (ps : List Pc) (k : Nat) : (cat (ps.take k)).length ≤ (cat ps).length := by
  have : (cat (ps.take k ++ ps.drop k)).length = (cat (ps.take k)).length + (cat (ps.drop k)).length := by unfold cat; rw [List.flatMap_append, List.length_append]
  rw [List.take_append_drop] at this
  omega
theorem cat_all {ps : List Pc} {k : Nat} (h : ps.length ≤ k) : cat (ps.take k) = cat ps := by rw [List.take_of_length_le h]

set_option maxRecDepth 100000 in
set_option maxHeartbeats 2000000 in
theorem concat_any (b c : Nat) (ps : List Pc) (w : World) (hp : Pcs w b ps) (hn : ps.length ≤ 100) (hc : (cat ps).length ≤ 100000) :
    Calls Tryz.prog 118 #[.slice (some ⟨b, 0, none⟩) ps.length c] w (ResM 137 w (cat ps)) := by
  go_enter Tryz.func118, Tryz.ntmps118
  go_wp2
  go_loop [3, 11] (fun s i => ∃ k m : Nat, k ≤ ps.length ∧ i = .int .i64 k ∧ s = .int .i64 m ∧ m = (cat (ps.take k)).length) (fun _ i => ps.length - (intOf i).toNat)
  case atStart => exact ⟨0, 0, Nat.zero_le _, rfl, rfl, rfl⟩
  case round =>
    obtain ⟨k, m, hk, rfl, rfl, hm⟩ := hrel
    have hm1 : m ≤ 100000 := by have := cat_le ps k; omega
    have HM := Lib.hid hm
    clear hm
    by_cases hlt : k < ps.length
    · obtain ⟨p, hpk⟩ : ∃ p, ps[k]? = some p := ⟨_, List.getElem?_eq_getElem hlt⟩
      have c1 := (hp k p hpk).1
      have hst := cat_step hpk
      have hle : m + p.2.2.length ≤ 100000 := by
        have := cat_le ps (k + 1)
        rw [hst, List.length_append, ← HM.out] at this
        omega
      have HST := Lib.hid hst
      clear hst hpk
      have HP := Lib.hid hp
      clear hp
      go_wp2
      go_round
      case rel => exact ⟨k + 1, m + p.2.2.length, by omega, by go_num, by go_num, by rw [HST.out, List.length_append, HM.out]⟩
      case measure => simp [intOf]; omega
    · have hall := HM.out
      rw [cat_all (by omega)] at hall
      have HA := Lib.hid hall
      have HP := Lib.hid hp
      clear hall hp
      go_wp2_with fail
      refine (grow_any m _ (by omega)).mono ?_
      rintro e w1 ⟨A0, c0, rfl, hown0, hb0⟩
      go_wp2_with fail
      go_loopw [6, 27] (fun v i wr => ∃ (k : Nat) (A : Option Addr) (c : Nat) (xs : List Ml), k ≤ ps.length ∧ i = .int .i64 k ∧ v = .slice A xs.length c ∧ xs = cat (ps.take k) ∧ OwnM 137 wr w.heap.size A c xs ∧ Below w.heap.size w wr) (fun _ i _ => ps.length - (intOf i).toNat)
      case atStart => exact ⟨0, A0, c0, [], Nat.zero_le _, rfl, rfl, rfl, hown0, hb0⟩
      case round =>
        obtain ⟨k, A, c, xs, hk, rfl, rfl, hx, hown, hb⟩ := hrel
        have hxl : xs.length ≤ 100000 := by have := cat_le ps k; rw [hx]; omega
        have HX := Lib.hid hx
        clear hx
        by_cases hlt : k < ps.length
        · obtain ⟨p, hpk⟩ : ∃ p, ps[k]? = some p := ⟨_, List.getElem?_eq_getElem hlt⟩
          have c1 := cell_below hb (HP.out k p hpk).1
          have hr := (HP.out k p hpk).2.later hb (fun g hg => hown.ge g hg)
          have hst := cat_step hpk
          have hle : xs.length + p.2.2.length ≤ 100000 := by
            have := cat_le ps (k + 1)
            rw [hst, List.length_append, ← HX.out] at this
            omega
          have HST := Lib.hid hst
          clear hst hpk
          go_wp2_with (at_builtin; refine wpList_append_m 66 137 Tryz.underlying66 Tryz.infoM137 _ rfl _ _ rfl w.heap.size A c xs rfl hown p.1 _ p.2.1 p.2.2 rfl rfl hr (by omega) hb.size _ rfl ?_; intro A1 c1 w2 hown2 hb2)
          go_roundw
          case rel => exact ⟨k + 1, A1, c1, xs ++ p.2.2, by omega, by go_num, by rw [List.length_append], by rw [HST.out, HX.out], hown2, hb.trans hb2⟩
          case measure => simp [intOf]; omega
        · go_wp2
          go_ret
          have e := HX.out
          rw [cat_all (by omega)] at e
          subst e
          exact ⟨A, c, rfl, hown, hb⟩

theorem three_read {w : World} {b : Nat} {A1 A2 A3 : Option Addr} {c1 c2 c3 : Nat} {f1 f2 f3 : List Ml} (h1 : w.cell? ⟨b, 0, none⟩ = some (.slice A1 f1.length c1)) (h2 : w.cell? ⟨b, 1, none⟩ = some (.slice A2 f2.length c2)) (h3 : w.cell? ⟨b, 2, none⟩ = some (.slice A3 f3.length c3))
    (r1 : RdM w A1 f1) (r2 : RdM w A2 f2) (r3 : RdM w A3 f3) : Pcs w b [(A1, c1, f1), (A2, c2, f2), (A3, c3, f3)] := fun i p hi => by
  match i, hi with
  | 0, hi => simp at hi; subst hi; exact ⟨h1, r1⟩
  | 1, hi => simp at hi; subst hi; exact ⟨h2, r2⟩
  | 2, hi => simp at hi; subst hi; exact ⟨h3, r3⟩
  | i + 3, hi => simp at hi
theorem two_read {w : World} {b : Nat} {A1 A2 : Option Addr} {c1 c2 : Nat} {f1 f2 : List Ml} (h1 : w.cell? ⟨b, 0, none⟩ = some (.slice A1 f1.length c1)) (h2 : w.cell? ⟨b, 1, none⟩ = some (.slice A2 f2.length c2))
    (r1 : RdM w A1 f1) (r2 : RdM w A2 f2) : Pcs w b [(A1, c1, f1), (A2, c2, f2)] := fun i p hi => by
  match i, hi with
  | 0, hi => simp at hi; subst hi; exact ⟨h1, r1⟩
  | 1, hi => simp at hi; subst hi; exact ⟨h2, r2⟩
  | i + 2, hi => simp at hi
theorem cat3 (A1 A2 A3 : Option Addr) (c1 c2 c3 : Nat) (f1 f2 f3 : List Ml) : cat [(A1, c1, f1), (A2, c2, f2), (A3, c3, f3)] = f1 ++ (f2 ++ f3) := by simp [cat]
theorem cat2 (A1 A2 : Option Addr) (c1 c2 : Nat) (f1 f2 : List Ml) : cat [(A1, c1, f1), (A2, c2, f2)] = f1 ++ f2 := by simp [cat]


theorem Rd.grown_some {w w' : World} {g : Nat} {B : Option Addr} {l : List Tok} (h : Rd w B l) (hg : w.grownBy w' (some g)) (hf : 0 < l.length → Far (some g) B) : Rd w' B l := h.grown hg hf
theorem OwnM.store {t : TypeId} {w : World} {base g c : Nat} {ms : List Ml} (h : OwnM t w base (some ⟨g, 0, none⟩) c ms) {i : Nat} {m : Ml} {B : Option Addr} {d : Nat} (hi : ms[i]? = some m) (hr : Rd w B m.2.2) (hf : 0 < m.2.2.length → Far (some g) B) :
    OwnM t (w.setCell ⟨g, i * 3 + 2, none⟩ (.slice B m.2.2.length d)) base (some ⟨g, 0, none⟩) c ms := by
  obtain ⟨cs, hown, hh⟩ := h
  obtain ⟨h1, h2⟩ := hown.stored (i * 3 + 2) (.slice B m.2.2.length d)
  exact ⟨_, h1, (hh.put B d hi hr hf).map fun B l r f => ⟨r.grown h2 f, f⟩⟩
theorem OwnM.frozen {t : TypeId} {w : World} {base g c : Nat} {ms : List Ml} (h : OwnM t w base (some ⟨g, 0, none⟩) c ms) (j : Nat) : w.frozen? ⟨g, j, none⟩ = false := by
  obtain ⟨cs, hown, _⟩ := h
  exact hown.frozenAt j
theorem OwnM.addr {t : TypeId} {w : World} {base c : Nat} {A : Option Addr} {ms : List Ml} (h : OwnM t w base A c ms) (h0 : 0 < ms.length) : ∃ g, A = some ⟨g, 0, none⟩ ∧ base ≤ g ∧ g < w.heap.size := by
  obtain ⟨cs, hown, _⟩ := h
  obtain ⟨g, cap, hv, h1, h2⟩ := World.ownsRow.form hown h0
  simp only [Value.slice.injEq] at hv
  exact ⟨g, hv.1, h1, h2⟩
set_option maxRecDepth 100000 in
set_option maxHeartbeats 4000000 in
theorem join_any (b c : Nat) (ps : List Pc) (w : World) (hp : Pcs w b ps) (hn : ps.length ≤ 100) (hc : (cat ps).length ≤ 100000) (hz : Hid (∀ m ∈ cat ps, m.2.2.length ≤ 200000)) :
    Calls Tryz.prog 97 #[.slice (some ⟨b, 0, none⟩) ps.length c] w (ResM 137 w (cat ps)) := by
  have C := Lib.hid (concat_any b c ps w hp hn hc)
  generalize cat ps = ms at *
  clear hp
  go_enter Tryz.func97, Tryz.ntmps97
  go_wp2_with fail
  refine C.out.mono ?_
  rintro e w1 ⟨A, d, rfl, ho, hb⟩
  have HO := Lib.hid ho
  have HB := Lib.hid hb
  clear ho hb C
  go_wp2_with fail
  go_loopw [9] (fun i wr => ∃ k : Nat, i = .int .i64 k ∧ k ≤ ms.length ∧ Hid (OwnM 137 wr w.heap.size A d ms) ∧ Hid (Below w.heap.size w wr)) (fun i _ => ms.length - (intOf i).toNat)
  case atStart => exact ⟨0, rfl, Nat.zero_le _, HO, HB⟩
  case round =>
    clear HO HB
    obtain ⟨k, rfl, hk, HO, HB⟩ := hrel
    by_cases hlt : k < ms.length
    · obtain ⟨g, rfl, hg1, hg2⟩ := HO.out.addr (by omega)
      obtain ⟨b2, o2, e2, hcell⟩ := HO.out.rd.cells (by omega)
      cases e2
      obtain ⟨m, hm⟩ : ∃ m, ms[k]? = some m := ⟨_, List.getElem?_eq_getElem hlt⟩
      obtain ⟨B, dd, c1, c2, c3, hrd⟩ := hcell k m hm
      rw [Nat.zero_add] at c1 c2 c3
      have hml := hz.out m (List.mem_of_getElem? hm)
      have CF := Lib.hid (fresh_any B _ dd m.2.2 wr hrd rfl hml)
      have i1 : (k : Int) < (ms.length : Int) := by omega
      have HM := Lib.hid hm
      clear hcell hm hrd c1 c2
      go_wp2_with fail
      refine CF.out.mono ?_
      rintro e w2 ⟨B2, d2, rfl, ho2, hb2⟩
      have HO2 := HO.out.below hb2
      have fz := HO2.frozen (k * 3 + 2)
      have hfar := own_far ho2 (g := some g) (fun q e => by cases e; exact hg2)
      have HO3 := Lib.hid (HO2.store (d := d2) HM.out ho2.rd hfar)
      have HB3 := Lib.hid ((bch HB.out hb2).setCell hg1 (p := ⟨g, k * 3 + 2, none⟩) (.slice B2 m.2.2.length d2))
      have c4 := cell_below hb2 c3
      clear HO2 hfar ho2 hb2 CF c3 HO HB
      go_wp2_with fail
      go_roundw
      case rel => exact ⟨k + 1, by go_num, by omega, HO3, HB3⟩
      case measure => simp [intOf]; omega
    · have i1 : ¬ (k : Int) < (ms.length : Int) := by omega
      go_wp2
      go_ret
      exact ⟨A, d, rfl, HO.out, HB.out⟩
end Go.Proofs.YtmnbepapgghdaaaGreat

/-
  Package macro: letter, named; strings.Compare, the closure that find hands to sort.Find, sort.Find, find.
-/
import Derived.Test.YtjneeikkakekjaaDoorNJ
import Derived.Lib.Bytealg
import Derived.BigQuiet
namespace Go.Proofs.YtjneeikkakekjaaDoor
open Go.RowKit

theorem letter7_any (x : Int) (w : World) : Calls Tryd.prog 61 #[.int .u8 x] w fun e w' => e = .returned (.bool (ltrI x)) ∧ w = w' := by
  rcases ltr_ways x with ⟨h1, h2, h⟩ | ⟨h1, h⟩ | ⟨h1, h2, h⟩ | ⟨h1, h2, h⟩ | ⟨h1, h⟩ <;> (
    have H := Lib.hid h
    generalize ltrI x = v at *
    clear h
    try (have d1 : decide (x ≤ 122) = false := decide_eq_false (by omega))
    try (have d2 : decide (x ≤ 90) = false := decide_eq_false (by omega))
    go_enter Tryd.func61, Tryd.ntmps61
    go_wp2
    go_ret
    exact ⟨ret_bool H.out.symm, rfl⟩)
theorem name_all {s : By} (h : s.all ltr = true) (h1 : 1 ≤ s.length) (h2 : s.length ≤ 20) : nameB s = true := by
  unfold nameB; rw [h, decide_eq_true ⟨h1, h2⟩]; rfl
theorem name_size {s : By} (h : ¬ (1 ≤ s.length ∧ s.length ≤ 20)) : nameB s = false := by
  unfold nameB; rw [decide_eq_false h, Bool.and_false]
set_option maxRecDepth 100000 in
set_option maxHeartbeats 2000000 in
theorem named_any (s : ByteArray) (w : World) (hs : s.size ≤ 4611686018427387904) :
    Calls Tryd.prog 48 #[.string s] w fun e w' => e = .returned (.bool (nameB s.data.toList)) ∧ w = w' := by
  obtain ⟨V, hV⟩ : ∃ V, nameB s.data.toList = V := ⟨_, rfl⟩
  rw [hV]
  by_cases h0 : s.size = 0
  · have HV := Lib.hid ((name_size (s := s.data.toList) (by rw [size_list]; omega)).symm.trans hV)
    clear hV
    have q : ((s.size : Int) == 0) = true := by rw [beq_iff_eq]; omega
    go_enter Tryd.func48, Tryd.ntmps48
    go_wp2
    go_ret
    exact ⟨ret_bool HV.out, rfl⟩
  · have q : ((s.size : Int) == 0) = false := by rw [beq_eq_false_iff_ne]; omega
    by_cases h20 : 20 < s.size
    · have HV := Lib.hid ((name_size (s := s.data.toList) (by rw [size_list]; omega)).symm.trans hV)
      clear hV
      go_enter Tryd.func48, Tryd.ntmps48
      go_wp2
      go_ret
      exact ⟨ret_bool HV.out, rfl⟩
    · have HV := Lib.hid hV
      clear hV
      go_enter Tryd.func48, Tryd.ntmps48
      go_wp2
      go_loop [14] (fun i => ∃ k : Nat, k ≤ s.size ∧ i = .int .i64 k ∧ Hid ((s.data.toList.take k).all ltr = true)) (fun i => s.size - (intOf i).toNat)
      case atStart => exact ⟨0, Nat.zero_le _, rfl, Lib.hid rfl⟩
      case round =>
        obtain ⟨k, hk, rfl, HA⟩ := hrel
        by_cases hlt : k < s.size
        · have HS := Lib.hid (take_step s k hlt)
          have hat : Hid (s.data.toList[k]? = some s[k]) := Lib.hid (List.getElem?_eq_getElem (by rw [size_list]; exact hlt))
          obtain ⟨x, hx⟩ : ∃ x : Int, (s[k].toNat : Int) = x := ⟨_, rfl⟩
          have HL := Lib.hid (ltr_int s[k])
          rw [hx] at HL
          have C := Lib.hid (letter7_any x w)
          generalize ltrI x = v at *
          cases v
          · go_wp2_with fail
            refine C.out.mono ?_
            rintro e w' ⟨rfl, rfl⟩
            go_wp2
            go_ret
            exact ⟨ret_bool ((name_stop hat.out HL.out).symm.trans HV.out), rfl⟩
          · go_wp2_with fail
            refine C.out.mono ?_
            rintro e w' ⟨rfl, rfl⟩
            go_wp2
            go_round
            case rel => exact ⟨k + 1, by omega, by go_num, Lib.hid (by rw [HS.out, List.all_append, HA.out]; simp [HL.out])⟩
            case measure => simp [intOf]; omega
        · have hfin := HA.out
          rw [List.take_of_length_le (by rw [size_list]; omega)] at hfin
          have HE := Lib.hid ((name_all hfin (by rw [size_list]; omega) (by rw [size_list]; omega)).symm.trans HV.out)
          clear hfin HA
          go_wp2
          go_ret
          exact ⟨ret_bool HE.out, rfl⟩
set_option maxHeartbeats 1000000 in
set_option maxRecDepth 100000 in
theorem cmpStr_any (a b : List UInt8) (w : World) :
    Calls Tryd.prog 75 #[.string ⟨a.toArray⟩, .string ⟨b.toArray⟩] w fun e w' => e = .returned (.int .i64 (Lib.compareBytes a b)) ∧ w = w' := by
  go_enter Tryd.func75, Tryd.ntmps75
  go_wp2
  rw [run_callFunc_extern Tryd.func82 (by kernel_rfl) (by kernel_rfl) (by kernel_rfl) (e := Extern.BytealgCompare.compare) (by kernel_rfl), Lib.run_compareString]
  simp only [Result.andThen]
  rw [Oper.upon_value]
  go_wp2
  go_ret
  exact ⟨rfl, rfl⟩
set_option maxHeartbeats 1000000 in
theorem compare_any (a b : List UInt8) (w : World) :
    Calls Tryd.prog 59 #[.string ⟨a.toArray⟩, .string ⟨b.toArray⟩] w fun e w' => e = .returned (.int .i64 (Lib.compareBytes a b)) ∧ w = w' := by
  go_enter Tryd.func59, Tryd.ntmps59
  go_wp2_with (go_at_call 75; refine (cmpStr_any _ _ _).mono ?_; rintro e w' ⟨rfl, rfl⟩)
  go_ret
  exact ⟨rfl, rfl⟩

set_option maxHeartbeats 1000000 in
theorem clos_any (p q : Nat) (A : Option Addr) (c k : Nat) (fs : List Ml) (f : Ml) (n : List UInt8) (w : World) (hr : RdM w A fs) (hc : fs.length ≤ 100000)
    (hp : w.cell? ⟨p, 0, none⟩ = some (.string ⟨n.toArray⟩)) (hq : w.cell? ⟨q, 0, none⟩ = some (.slice A fs.length c)) (hf : Hid (fs[k]? = some f)) (hk : k < fs.length) :
    Calls Tryd.prog 58 #[.int .i64 k, .pointer (some ⟨p, 0, none⟩), .pointer (some ⟨q, 0, none⟩)] w fun e w' => e = .returned (.int .i64 (Lib.compareBytes n f.1)) ∧ ∃ m, w' = w.drewN m := by
  obtain ⟨b, o, rfl, hcell⟩ := hr.cells (by omega)
  obtain ⟨B, d, c1, c2, c3, _⟩ := hcell k f hf.out
  clear hcell hr
  have i1 : (k : Int) < (fs.length : Int) := by omega
  go_enter Tryd.func58, Tryd.ntmps58
  go_wp2_with fail
  go_quiet ((go_at_call 59; exact quiet_left (compare_any _ _ _)))
  go_wp2
  go_ret
  exact ⟨rfl, _, rfl⟩
  where
  quiet_left {P : Program} {f : FuncId} {args : Array Value} {w : World} {n : Nat} {v : Value}
    (h : Calls P f args (w.drewN n) fun e w' => e = .returned v ∧ w.drewN n = w') : Calls P f args (w.drewN n) fun e w'' => e = .returned v ∧ ∃ m, w'' = w.drewN m :=
  h.mono fun _ _ ⟨he, hm⟩ => ⟨he, n, hm.symm⟩

theorem cb_le {n m : List UInt8} (h : Op.bytesLess m n = false) : (Lib.compareBytes n m = -1 ∧ m ≠ n) ∨ (Lib.compareBytes n m = 0 ∧ m = n) := by
  rcases bl_tri n m with k | k | k
  · exact .inl ⟨cb_lt k, (bl_ne k).symm⟩
  · subst k; exact .inr ⟨cb_self _, rfl⟩
  · rw [k] at h; cases h
theorem get_of {fs : List Ml} {k : Nat} {f : Ml} (h : fs[k]? = some f) (hk : k < fs.length) : fs[k] = f := by
  rw [List.getElem?_eq_getElem hk] at h; exact Option.some.inj h
theorem lo_step {fs : List Ml} {n : List UInt8} {h : Nat} {f : Ml} (hs : Sorted fs) (hf : fs[h]? = some f) (hl : Op.bytesLess f.1 n = true) : ∀ t (q : t < fs.length), t < h + 1 → Op.bytesLess fs[t].1 n = true := fun t q k => by
  have hh : h < fs.length := by
    rcases Nat.lt_or_ge h fs.length with z | z
    · exact z
    · rw [List.getElem?_eq_none z] at hf; cases hf
  have e := get_of hf hh
  rcases Nat.lt_or_ge t h with z | z
  · have := hs.at z hh
    rw [e] at this
    exact bl_trans this hl
  · obtain rfl : t = h := by omega
    rw [e]; exact hl
theorem hi_step {fs : List Ml} {n : List UInt8} {h : Nat} {f : Ml} (hs : Sorted fs) (hf : fs[h]? = some f) (hl : Op.bytesLess f.1 n = false) : ∀ t (q : t < fs.length), h ≤ t → Op.bytesLess fs[t].1 n = false := fun t q k => by
  have e := get_of hf (by omega)
  rcases Nat.lt_or_ge h t with z | z
  · have := hs.at z q
    rw [e] at this
    cases k2 : Op.bytesLess fs[t].1 n
    · rfl
    · rw [bl_trans this k2] at hl; cases hl
  · obtain rfl : t = h := by omega
    rw [e]; exact hl

theorem ret_find {i j : Nat} {a b : Bool} (h : j = i) (k : b = a) : Ending.returned (.tuple #[.int .i64 (i : Int), .bool a]) = .returned (.tuple #[.int .i64 (j : Int), .bool b]) := by rw [h, k]
set_option maxHeartbeats 1000000 in
theorem sfind_any (p q : Nat) (A : Option Addr) (c : Nat) (fs : List Ml) (n : List UInt8) (w : World) (hr : RdM w A fs) (hc : fs.length ≤ 100000) (hs : Hid (Sorted fs))
    (hp : w.cell? ⟨p, 0, none⟩ = some (.string ⟨n.toArray⟩)) (hq : w.cell? ⟨q, 0, none⟩ = some (.slice A fs.length c)) :
    Calls Tryd.prog 57 #[.int .i64 fs.length, .func (Fn.func 58) #[] #[.pointer (some ⟨p, 0, none⟩), .pointer (some ⟨q, 0, none⟩)]] w fun e w' => e = .returned (.tuple #[.int .i64 (plc fs n), .bool (hasL fs n)]) ∧ ∃ m, w' = w.drewN m := by
  go_enter Tryd.func57, Tryd.ntmps57
  go_wp2
  go_loopw [4, 6] (fun x y wr => ∃ i j m : Nat, i ≤ j ∧ j ≤ fs.length ∧ x = .int .i64 i ∧ y = .int .i64 j ∧ (∀ t (h : t < fs.length), t < i → Op.bytesLess fs[t].1 n = true) ∧ (∀ t (h : t < fs.length), j ≤ t → Op.bytesLess fs[t].1 n = false) ∧ wr = w.drewN m) (fun x y _ => (intOf y).toNat - (intOf x).toNat)
  case atStart => exact ⟨0, fs.length, 0, Nat.zero_le _, Nat.le_refl _, rfl, rfl, (fun t _ h => absurd h (by omega)), (fun t h k => absurd h (by omega)), rfl⟩
  case round =>
    obtain ⟨i, j, m, hij, hj, rfl, rfl, hlo, hhi, rfl⟩ := hrel
    have Hlo := Lib.hid hlo
    have Hhi := Lib.hid hhi
    clear hlo hhi
    by_cases hlt : i < j
    · obtain ⟨h, hh⟩ : ∃ h, h = (i + j) / 2 := ⟨_, rfl⟩
      have HE := Lib.hid (show ((i : Int) + (j : Int)) / 2 = (h : Int) by omega)
      have hh1 : i ≤ h := by omega
      have hh2 : h < j := by omega
      clear hh
      obtain ⟨f, hf⟩ : ∃ f, fs[h]? = some f := ⟨_, List.getElem?_eq_getElem (by omega)⟩
      have HF := Lib.hid hf
      clear hf
      have HC := Lib.hid (fun m => clos_any p q A c h fs f n (w.drewN m) (hr.drewN m) hc hp hq HF (by omega))
      clear hr
      cases hl : Op.bytesLess f.1 n
      · have HL := Lib.hid hl
        clear hl
        rcases cb_le HL.out with ⟨e1, _⟩ | ⟨e1, _⟩
        all_goals
          have E1 := Lib.hid e1
          clear e1
          go_wp2_with fail
          rw [HE.out]
          refine (HC.out m).mono ?_
          rw [E1.out]
          rintro e w1 ⟨rfl, m1, rfl⟩
          go_wp2
          go_roundw
          case rel => exact ⟨i, h, _, by omega, by omega, rfl, rfl, Hlo.out, hi_step hs.out HF.out HL.out, rfl⟩
          case measure => simp [intOf]; omega
      · have HL := Lib.hid hl
        clear hl
        have E1 := Lib.hid (cb_gt HL.out)
        go_wp2_with fail
        rw [HE.out]
        refine (HC.out m).mono ?_
        rw [E1.out]
        rintro e w1 ⟨rfl, m1, rfl⟩
        go_wp2
        go_roundw
        case rel => exact ⟨h + 1, j, _, by omega, by omega, by go_num, rfl, lo_step hs.out HF.out HL.out, Hhi.out, rfl⟩
        case measure => simp [intOf]; omega
    · obtain rfl : i = j := by omega
      have hpl := plc_unique hs.out hj Hlo.out Hhi.out
      have HP := Lib.hid hpl
      by_cases hl : i < fs.length
      · obtain ⟨f, hf⟩ : ∃ f, fs[i]? = some f := ⟨_, List.getElem?_eq_getElem (by omega)⟩
        have e := get_of hf hl
        have hle : Op.bytesLess f.1 n = false := by have := Hhi.out i hl (Nat.le_refl _); rwa [e] at this
        have hhas : hasL fs n = (f.1 == n) := by
          have := hasL_plc hs.out (n := n) (by omega)
          rw [this]
          subst hpl
          rw [e]
        have HF := Lib.hid hf
        have HH := Lib.hid hhas
        have HC := Lib.hid (fun m => clos_any p q A c i fs f n (w.drewN m) (hr.drewN m) hc hp hq HF (by omega))
        clear hf e hhas hpl hr
        rcases cb_le hle with ⟨e1, e2⟩ | ⟨e1, e2⟩
        · have E1 := Lib.hid e1
          have E2 := Lib.hid e2
          clear e1 e2 hle
          go_wp2_with fail
          refine (HC.out m).mono ?_
          rw [E1.out]
          rintro e w1 ⟨rfl, m1, rfl⟩
          go_wp2
          go_ret2
          exact ⟨ret_find HP.out (HH.out.trans (beq_eq_false_iff_ne.2 E2.out)), _, by first | rfl | exact World.drewN_drewN _ _ _⟩
        · have E1 := Lib.hid e1
          have E2 := Lib.hid e2
          clear e1 e2 hle
          go_wp2_with fail
          refine (HC.out m).mono ?_
          rw [E1.out]
          rintro e w1 ⟨rfl, m1, rfl⟩
          go_wp2
          go_ret2
          exact ⟨ret_find HP.out (HH.out.trans (beq_iff_eq.2 E2.out)), _, by first | rfl | exact World.drewN_drewN _ _ _⟩
      · have HH := Lib.hid (hasL_plc_end (fs := fs) (n := n) (by omega))
        clear hpl
        go_wp2
        go_ret2
        exact ⟨ret_find HP.out HH.out, _, rfl⟩

theorem two_cells {w : World} (a b : Value) (t u : TypeId) : ((w.alloc (.cells #[a] t)).alloc (.cells #[b] u)).cell? ⟨w.heap.size, 0, none⟩ = some a ∧ ((w.alloc (.cells #[a] t)).alloc (.cells #[b] u)).cell? ⟨w.heap.size + 1, 0, none⟩ = some b := by
  refine ⟨?_, ?_⟩
  · rw [World.cell?_alloc_past _ _ _ (by simp), World.cell?_alloc_new]; rfl
  · rw [World.cell?_alloc_at _ _ _ _ (by simp)]; rfl
set_option maxHeartbeats 1000000 in
theorem find_any (A : Option Addr) (c : Nat) (fs : List Ml) (n : List UInt8) (w : World) (hr : RdM w A fs) (hc : fs.length ≤ 100000) (hs : Hid (Sorted fs)) :
    Calls Tryd.prog 46 #[.slice A fs.length c, .string ⟨n.toArray⟩] w fun e w' => e = .returned (.tuple #[.int .i64 (plc fs n), .bool (hasL fs n)]) ∧ Below w.heap.size w w' := by
  have hb := bch (one_below w (.cells #[.slice A fs.length c] 51)) (one_below _ (.cells #[.string ⟨n.toArray⟩] 9))
  obtain ⟨h1, h2⟩ := two_cells (w := w) (.slice A fs.length c) (.string ⟨n.toArray⟩) 51 9
  have HC := Lib.hid (sfind_any (w.heap.size + 1) w.heap.size A c fs n _ (hr.below hb) hc hs h2 h1)
  clear h1 h2
  go_enter Tryd.func46, Tryd.ntmps46
  go_wp2_with fail
  refine HC.out.mono ?_
  rintro e w1 ⟨rfl, m, rfl⟩
  go_wp2
  go_ret2
  exact ⟨rfl, bch hb (drewN_below _ _)⟩
end Go.Proofs.YtjneeikkakekjaaDoor

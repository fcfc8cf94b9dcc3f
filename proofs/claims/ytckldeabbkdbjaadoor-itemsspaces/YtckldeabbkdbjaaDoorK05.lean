/-
  Contracts of the document's answer's Same, and of the laws' One, Refs and Cut; two tokens compared; a text cut off.
  Contracts of the document's own answers of layer 7: Group, Word, Squeezed, Flat, Named.
  Contracts of the document's own answers of layer 7: Squeezed, Flat, Named.
  Words for lists of lists of tokens: one that reads, a row of one's own, append of a list. Contracts of the law's Lists and of the document's.
  Contracts of the document's own answers of layer 7: Lists, Named.
-/
import Derived.Test.YtckldeabbkdbjaaDoorK04
import Derived.BigQuiet
import Derived.Test.YtckldeabbkdbjaaDoorK01
import Derived.Maps.AppendAt
namespace Go.Proofs.YtckldeabbkdbjaaDoor
open Go.RowKit

theorem tk_eqIn37 (f g : Tok) (w : World) :
    (Op.equalIn 10000 48 (.agg #[.int .i64 f.1, .string ⟨f.2.toArray⟩]) (.agg #[.int .i64 g.1, .string ⟨g.2.toArray⟩])).run Tryd.prog w = .ok (decide (f = g)) w := by
  have u9 := Tryd.underlying9
  have a9 := Tryd.isAgg9
  have z9 := Tryd.sizeOf9
  have u3 := Tryd.underlying3
  have a3 := Tryd.isAgg3
  have z3 := Tryd.sizeOf3
  have hS : Tryd.prog.underlying 48 = some (.struct (Tryd.prog.fieldsOf 48)) := by kernel_rfl
  have hp : Tryd.prog.stoodInHeld 48 = false := by kernel_rfl
  rw [show (10000 : Nat) = 9999 + 1 from rfl, run_equalIn_agg w 9999 48 _ _ hS hp]
  simp only [Program.fieldsOf, Tryd.underlying48]
  go_simp
  obtain ⟨f1, f2⟩ := f
  obtain ⟨g1, g2⟩ := g
  by_cases h1 : f1 = g1 <;> by_cases h2 : f2 = g2 <;> simp [h1, h2]
theorem tk_neq_yes37 {f g : Tok} (h : f ≠ g) (w : World) :
    (binOp .neq 48 (.agg #[.int .i64 f.1, .string ⟨f.2.toArray⟩]) (.agg #[.int .i64 g.1, .string ⟨g.2.toArray⟩])).run Tryd.prog w = .ok (.bool true) w := by
  rw [run_neq_struct, tk_eqIn37, decide_eq_false h]; rfl
theorem tk_neq_no37 {f g : Tok} (h : f = g) (w : World) :
    (binOp .neq 48 (.agg #[.int .i64 f.1, .string ⟨f.2.toArray⟩]) (.agg #[.int .i64 g.1, .string ⟨g.2.toArray⟩])).run Tryd.prog w = .ok (.bool false) w := by
  rw [run_neq_struct, tk_eqIn37, decide_eq_true h]; rfl
theorem tk_eql37 (f g : Tok) (w : World) :
    (binOp .eql 48 (.agg #[.int .i64 f.1, .string ⟨f.2.toArray⟩]) (.agg #[.int .i64 g.1, .string ⟨g.2.toArray⟩])).run Tryd.prog w = .ok (.bool (decide (f = g))) w := by
  rw [run_eql_struct, tk_eqIn37]; rfl
theorem tk_eqIn40 (f g : Tok) (w : World) :
    (Op.equalIn 10000 65 (.agg #[.int .i64 f.1, .string ⟨f.2.toArray⟩]) (.agg #[.int .i64 g.1, .string ⟨g.2.toArray⟩])).run Tryd.prog w = .ok (decide (f = g)) w := by
  have u9 := Tryd.underlying9
  have a9 := Tryd.isAgg9
  have z9 := Tryd.sizeOf9
  have u3 := Tryd.underlying3
  have a3 := Tryd.isAgg3
  have z3 := Tryd.sizeOf3
  have hS : Tryd.prog.underlying 65 = some (.struct (Tryd.prog.fieldsOf 65)) := by kernel_rfl
  have hp : Tryd.prog.stoodInHeld 65 = false := by kernel_rfl
  rw [show (10000 : Nat) = 9999 + 1 from rfl, run_equalIn_agg w 9999 65 _ _ hS hp]
  simp only [Program.fieldsOf, Tryd.underlying65]
  go_simp
  obtain ⟨f1, f2⟩ := f
  obtain ⟨g1, g2⟩ := g
  by_cases h1 : f1 = g1 <;> by_cases h2 : f2 = g2 <;> simp [h1, h2]
theorem tk_neq_yes40 {f g : Tok} (h : f ≠ g) (w : World) :
    (binOp .neq 65 (.agg #[.int .i64 f.1, .string ⟨f.2.toArray⟩]) (.agg #[.int .i64 g.1, .string ⟨g.2.toArray⟩])).run Tryd.prog w = .ok (.bool true) w := by
  rw [run_neq_struct, tk_eqIn40, decide_eq_false h]; rfl
theorem tk_neq_no40 {f g : Tok} (h : f = g) (w : World) :
    (binOp .neq 65 (.agg #[.int .i64 f.1, .string ⟨f.2.toArray⟩]) (.agg #[.int .i64 g.1, .string ⟨g.2.toArray⟩])).run Tryd.prog w = .ok (.bool false) w := by
  rw [run_neq_struct, tk_eqIn40, decide_eq_true h]; rfl
theorem tk_eql40 (f g : Tok) (w : World) :
    (binOp .eql 65 (.agg #[.int .i64 f.1, .string ⟨f.2.toArray⟩]) (.agg #[.int .i64 g.1, .string ⟨g.2.toArray⟩])).run Tryd.prog w = .ok (.bool (decide (f = g))) w := by
  rw [run_eql_struct, tk_eqIn40]; rfl
theorem eq_stop {α : Type} [DecidableEq α] {fs gs : List α} {k : Nat} {f g : α} (hf : fs[k]? = some f) (hg : gs[k]? = some g) (hne : f ≠ g) : false = decide (fs = gs) :=
  (decide_eq_false fun e => by rw [e, hg] at hf; exact hne (Option.some.inj hf).symm).symm
theorem eq_step {α : Type} {fs gs : List α} {k : Nat} {f g : α} (hf : fs[k]? = some f) (hg : gs[k]? = some g) (he : f = g) (h : fs.take k = gs.take k) : fs.take (k + 1) = gs.take (k + 1) := by
  rw [List.take_add_one, List.take_add_one, hf, hg, he, h]
theorem eq_end {α : Type} [DecidableEq α] {fs gs : List α} {k : Nat} (h1 : fs.length ≤ k) (h2 : gs.length ≤ k) (h : fs.take k = gs.take k) : true = decide (fs = gs) := by
  rw [List.take_of_length_le h1, List.take_of_length_le h2] at h
  exact (decide_eq_true h).symm
theorem eq_len {α : Type} [DecidableEq α] {fs gs : List α} (h : fs.length ≠ gs.length) : false = decide (fs = gs) := (decide_eq_false fun e => h (by rw [e])).symm
set_option maxHeartbeats 1000000 in
theorem same_any (A B : Option Addr) (c d : Nat) (fs gs : List Tok) (w : World) (hr : Rd w A fs) (hq : Rd w B gs) (hc : fs.length ≤ 200000) (hd : gs.length ≤ 200000) :
    Calls Tryd.prog 18 #[.slice A fs.length c, .slice B gs.length d] w fun e w' => e = .returned (.bool (decide (fs = gs))) ∧ ∃ n, w' = w.drewN n := by
  by_cases hl : fs.length = gs.length
  · have q : ((fs.length : Int) != (gs.length : Int)) = false := by simp [hl]
    have HL := Lib.hid hl
    clear hl
    go_enter Tryd.func18, Tryd.ntmps18
    go_wp2
    go_loopw [5] (fun i wr => ∃ k m : Nat, k ≤ fs.length ∧ i = .int .i64 k ∧ fs.take k = gs.take k ∧ wr = w.drewN m) (fun i _ => fs.length - (intOf i).toNat)
    case atStart => exact ⟨0, 0, Nat.zero_le _, rfl, by simp, rfl⟩
    case round =>
      obtain ⟨k, m, hk, rfl, hall, rfl⟩ := hrel
      have Hall := Lib.hid hall
      clear hall
      by_cases hlt : k < fs.length
      · have hlt2 : k < gs.length := by rw [← HL.out]; exact hlt
        obtain ⟨b, o, rfl, hcell⟩ := hr (by omega)
        obtain ⟨b2, o2, rfl, hcell2⟩ := hq (by omega)
        obtain ⟨f, hf⟩ : ∃ f, fs[k]? = some f := ⟨_, List.getElem?_eq_getElem hlt⟩
        obtain ⟨g, hg⟩ : ∃ g, gs[k]? = some g := ⟨_, List.getElem?_eq_getElem hlt2⟩
        obtain ⟨c1, c2⟩ := hcell k f hf
        obtain ⟨e1, e2⟩ := hcell2 k g hg
        have HF := Lib.hid hf
        have HG := Lib.hid hg
        clear hf hcell hr hg hcell2 hq
        have i1 : (k : Int) < (fs.length : Int) := by omega
        have i2 : (k : Int) < (gs.length : Int) := by omega
        by_cases hfg : f = g
        · have hrun := tk_neq_no40 hfg
          have HE := Lib.hid hfg
          clear hfg
          go_wp2_with fail
          go_quiet (fail)
          go_wp2
          go_roundw
          case rel => exact ⟨k + 1, _, by omega, by go_num, eq_step HF.out HG.out HE.out Hall.out, rfl⟩
          case measure => simp [intOf]; omega
        · have hrun := tk_neq_yes40 hfg
          have HE := Lib.hid hfg
          clear hfg
          go_wp2_with fail
          go_quiet (fail)
          go_wp2
          go_ret
          exact ⟨ret_bool (eq_stop HF.out HG.out HE.out), _, World.drewN_drewN _ _ _⟩
      · go_wp2
        go_ret
        exact ⟨ret_bool (eq_end (by omega) (by rw [← HL.out]; omega) Hall.out), _, rfl⟩
  · have q : ((fs.length : Int) != (gs.length : Int)) = true := by simp; omega
    have HL := Lib.hid hl
    clear hl
    go_enter Tryd.func18, Tryd.ntmps18
    go_wp2
    go_ret
    exact ⟨ret_bool (eq_len HL.out), 0, rfl⟩
set_option maxHeartbeats 400000 in
theorem one_any (k : Int) (x : By) (w : World) :
    Calls Tryd.prog 31 #[.agg #[.int .i64 k, .string ⟨x.toArray⟩]] w fun e w' => e = .returned (.agg #[.int .i64 k, .string ⟨x.toArray⟩]) ∧ Below w.heap.size w w' := by
  have hb := two_below w (.cells #[.int .i64 k, .string ⟨x.toArray⟩] 48) (.cells #[.int .i64 k, .string ⟨x.toArray⟩] 65)
  have HB := Lib.hid hb
  have hbk := heap_alloc_new (w.alloc (.cells #[.int .i64 k, .string ⟨x.toArray⟩] 48)) (.cells #[.int .i64 k, .string ⟨x.toArray⟩] 65)
  have hz : (w.alloc (.cells #[.int .i64 k, .string ⟨x.toArray⟩] 48)).heap.size = w.heap.size + 1 := by simp
  rw [hz] at hbk
  have HBK := Lib.hid hbk
  clear hb hbk hz
  go_enter Tryd.func31, Tryd.ntmps31
  go_wp2
  refine bodyPost_ret (results_cell_row (P := Tryd.prog) rfl _ _ (w.heap.size + 1) 65 #[.int .i64 k, .string ⟨x.toArray⟩] (0, 0) _ (by rfl) HBK.out Tryd.underlying65 rfl (by kernel_rfl)) rfl ?_
  exact ⟨rfl, HB.out⟩
theorem own_empty (t : TypeId) (w : World) : Own t (w.alloc (.cells #[] t)) w.heap.size (some ⟨w.heap.size, 0, none⟩) 0 [] := World.ownsRow_lit w #[] 0 (Nat.le_refl _) (by unfold maxLen; omega) (by simp)
set_option maxRecDepth 100000 in
set_option maxHeartbeats 1000000 in
theorem refs_any (A : Option Addr) (c : Nat) (ts : List Tok) (w : World) (hr : Rd w A ts) (hl : ts.length ≤ 190000) :
    Calls Tryd.prog 12 #[.slice A ts.length c] w (Res 65 w ts) := by
  have ho0 := own_empty 65 w
  have hb0 := one_below w (.cells #[] 65)
  go_enter Tryd.func12, Tryd.ntmps12
  go_wp2_with fail
  go_loopw [3, 4] (fun v i wr => ∃ (k : Nat) (C : Option Addr) (cc : Nat) (xs : List Tok), k ≤ ts.length ∧ i = .int .i64 k ∧ v = .slice C xs.length cc ∧ Hid (ts.take k = xs) ∧ xs.length ≤ k ∧ Own 65 wr w.heap.size C cc xs ∧ Below w.heap.size w wr) (fun _ i _ => ts.length - (intOf i).toNat)
  case atStart => exact ⟨0, _, 0, [], Nat.zero_le _, rfl, rfl, Lib.hid rfl, by simp, ho0, hb0⟩
  case round =>
    clear ho0 hb0
    obtain ⟨k, C, cc, xs, hk, rfl, rfl, HX, hxl, hown, hb⟩ := hrel
    by_cases hlt : k < ts.length
    · obtain ⟨b, o, rfl, hcell⟩ := (hr.below hb) (by omega)
      obtain ⟨f, hf⟩ : ∃ f, ts[k]? = some f := ⟨_, List.getElem?_eq_getElem hlt⟩
      obtain ⟨c1, c2⟩ := hcell k f hf
      obtain ⟨κ, z⟩ := f
      simp only at c1 c2
      obtain ⟨ys, hy⟩ : ∃ ys, xs ++ [(κ, z)] = ys := ⟨_, rfl⟩
      have HN := Lib.hid (show ts.take (k + 1) = ys by rw [at_take hf, HX.out, hy])
      have HYL := Lib.hid (show ys.length = xs.length + 1 by rw [← hy]; simp)
      have HY := Lib.hid hy
      have HO := Lib.hid hown
      have C1 := Lib.hid (one_any κ z wr)
      have i1 : (k : Int) < (ts.length : Int) := by omega
      clear hf hcell hy hown HX
      go_wp2_with fail
      refine C1.out.mono ?_
      rintro e w1 ⟨rfl, hb1⟩
      have SB := bch hb1 (one_below w1 (.cells #[.int .i64 κ, .string ⟨z.toArray⟩] 65))
      have HO2 := Lib.hid (HO.out.below SB)
      have HB2 := Lib.hid (bch hb SB)
      clear HO hb1 SB c1 c2 C1
      go_wp2_with (at_builtin; refine wpList_append_rdn40 _ rfl _ _ rfl w.heap.size _ xs rfl HO2.out (some ⟨w1.heap.size, 0, none⟩) 1 1 [(κ, z)] rfl rfl (one_read (new_fst _ _ _ _) (new_snd _ _ _ _)) (by show xs.length + 1 ≤ _; omega) HB2.out.size ys HY.out ?_; intro N2 nc2 w3 hown2 hb3)
      have hb4 := HB2.out.trans hb3
      clear HO2 HB2 hb3
      go_roundw
      case rel => exact ⟨k + 1, N2, nc2, ys, by omega, by go_num, rfl, HN, by have := HYL.out; omega, hown2, hb4⟩
      case measure => simp [intOf]; omega
    · have hfin := HX.out
      rw [List.take_of_length_le (by omega)] at hfin
      have HF := Lib.hid hfin
      clear hfin HX
      go_wp2
      go_ret
      rw [HF.out]
      exact ⟨C, cc, rfl, hown, hb⟩
theorem min_run (a k : Int) (c : Nat) (hc : min a k = c) (ts : Array TypeId) (t : TypeId) (w : World) : (Builtin.min_ ts t #[.int .i64 a, .int .i64 k]).run Tryd.prog w = .ok (.int .i64 c) w := by
  by_cases h : k < a
  · have : k = c := by omega
    subst this
    simp [Builtin.min_, Builtin.min2]
    omega
  · have : a = c := by omega
    subst this
    simp [Builtin.min_, Builtin.min2]
    omega
theorem cut_str (s r : By) (c : Nat) (hc : c ≤ s.length) (hr : s.take c = r) (w : World) : (Instr.slice 9 (.string ⟨s.toArray⟩) none (some (.int .i64 c)) none).run Tryd.prog w = .ok (.string ⟨r.toArray⟩) w := by
  have u9 := Tryd.underlying9
  subst hr
  go_simp
  apply ByteArray.ext
  simp [ByteArray.data_extract]
theorem cut_facts (s : By) (m : Nat) (k : Int) (hk : k = m) : ∃ (c : Nat) (r : By), Hid (s.take m = r) ∧ r.length ≤ m ∧ (∀ ts t w, (Builtin.min_ ts t #[.int .i64 s.length, .int .i64 k]).run Tryd.prog w = .ok (.int .i64 c) w) ∧ (∀ w, (Instr.slice 9 (.string ⟨s.toArray⟩) none (some (.int .i64 c)) none).run Tryd.prog w = .ok (.string ⟨r.toArray⟩) w) :=
  ⟨min s.length m, s.take m, Lib.hid rfl, by rw [List.length_take]; omega, fun ts t w => min_run _ _ _ (by omega) ts t w, fun w => cut_str s _ _ (by omega) (by rw [List.take_eq_take_iff]; omega) w⟩
def cut40 (t : Tok) : Tok := (t.1, t.2.take 40)
def cutL (most : Nat) (l : List Tok) : List Tok := (l.take most).map cut40
theorem cutL_step {most : Nat} {ts : List Tok} {k : Nat} {f : Tok} (h : ts[k]? = some f) : (ts.take (k + 1)).map cut40 = (ts.take k).map cut40 ++ [cut40 f] := by rw [at_take h]; simp
set_option maxRecDepth 100000 in
set_option maxHeartbeats 1000000 in
theorem lcut_any (A : Option Addr) (c most : Nat) (ts : List Tok) (w : World) (hr : Rd w A ts) (hl : ts.length ≤ 9223372036854775807) (hfit : Hid (∀ t ∈ ts, t.2.length ≤ 9223372036854775807)) (hm : most ≤ 1000) :
    Calls Tryd.prog 8 #[.slice A ts.length c, .int .i64 most] w (Res 48 w (cutL most ts)) := by
  have ho0 := own_empty 48 w
  have hb0 := one_below w (.cells #[] 48)
  go_enter Tryd.func8, Tryd.ntmps8
  go_wp2_with fail
  go_loopw [5, 6] (fun v i wr => ∃ (k : Nat) (C : Option Addr) (cc : Nat) (xs : List Tok), k ≤ ts.length ∧ k ≤ most ∧ i = .int .i64 k ∧ v = .slice C xs.length cc ∧ Hid ((ts.take k).map cut40 = xs) ∧ xs.length ≤ k ∧ Own 48 wr w.heap.size C cc xs ∧ Below w.heap.size w wr) (fun _ i _ => ts.length - (intOf i).toNat)
  case atStart => exact ⟨0, _, 0, [], Nat.zero_le _, Nat.zero_le _, rfl, rfl, Lib.hid rfl, by simp, ho0, hb0⟩
  case round =>
    clear ho0 hb0
    obtain ⟨k, C, cc, xs, hk, hk2, rfl, rfl, HX, hxl, hown, hb⟩ := hrel
    by_cases hlt : k < ts.length
    · by_cases hlt2 : k < most
      · obtain ⟨b, o, rfl, hcell⟩ := (hr.below hb) (by omega)
        obtain ⟨f, hf⟩ : ∃ f, ts[k]? = some f := ⟨_, List.getElem?_eq_getElem hlt⟩
        obtain ⟨c1, c2⟩ := hcell k f hf
        have lz := hfit.out f (List.mem_of_getElem? hf)
        obtain ⟨κ, z⟩ := f
        simp only at c1 c2 lz
        obtain ⟨cz, y, HCY, hyl, hmin, hcut⟩ := cut_facts z 40 40 rfl
        obtain ⟨ys, hy⟩ : ∃ ys, xs ++ [(κ, y)] = ys := ⟨_, rfl⟩
        have HN := Lib.hid (show (ts.take (k + 1)).map cut40 = ys by rw [cutL_step (most := most) hf, HX.out, ← hy, ← HCY.out]; rfl)
        have HYL := Lib.hid (show ys.length = xs.length + 1 by rw [← hy]; simp)
        have HY := Lib.hid hy
        have i1 : (k : Int) < (ts.length : Int) := by omega
        have i2 : (k : Int) < (most : Int) := by omega
        have SB := two_below wr (.cells #[.int .i64 κ, .string ⟨y.toArray⟩] 48) (.cells #[.int .i64 κ, .string ⟨y.toArray⟩] 48)
        have HO2 := Lib.hid (hown.below SB)
        have HB2 := Lib.hid (bch hb SB)
        have hrd := one_read (f := (κ, y)) (new_fst (wr.alloc (.cells #[.int .i64 κ, .string ⟨y.toArray⟩] 48)) (.int .i64 κ) (.string ⟨y.toArray⟩) 48) (new_snd _ _ _ _)
        rw [show (wr.alloc (.cells #[.int .i64 κ, .string ⟨y.toArray⟩] 48)).heap.size = wr.heap.size + 1 by simp] at hrd
        have HRD := Lib.hid hrd
        clear hf hcell hy hown HX SB HCY hrd
        go_wp2_with (at_builtin; refine wpList_append_rdn37 _ rfl _ _ rfl w.heap.size _ xs rfl HO2.out (some ⟨wr.heap.size + 1, 0, none⟩) 1 1 [(κ, y)] rfl (by first | rfl | simp) HRD.out (by show xs.length + 1 ≤ _; omega) HB2.out.size ys HY.out ?_; intro N2 nc2 w3 hown2 hb3)
        have hb4 := HB2.out.trans hb3
        clear HO2 HB2 hb3
        go_roundw
        case rel => exact ⟨k + 1, N2, nc2, ys, by omega, by omega, by go_num, rfl, HN, by have := HYL.out; omega, hown2, hb4⟩
        case measure => simp [intOf]; omega
      · have HF := Lib.hid (show cutL most ts = xs by unfold cutL; rw [show most = k by omega]; exact HX.out)
        have i1 : (k : Int) < (ts.length : Int) := by omega
        have i2 : ¬ (k : Int) < (most : Int) := by omega
        have HO := Lib.hid hown
        clear HX hown
        go_wp2
        go_ret
        rw [HF.out]
        exact ⟨C, cc, rfl, HO.out, hb⟩
    · have HF := Lib.hid (show cutL most ts = xs by
        unfold cutL
        have := HX.out
        rw [List.take_of_length_le (by omega)] at this ⊢
        exact this)
      have HO := Lib.hid hown
      clear HX hown
      go_wp2
      go_ret
      rw [HF.out]
      exact ⟨C, cc, rfl, HO.out, hb⟩
end Go.Proofs.YtckldeabbkdbjaaDoor

namespace Go.Proofs.YtckldeabbkdbjaaDoor
open Go.RowKit

theorem str_app {a b r : By} (h : a ++ b = r) : Value.string (({ data := a.toArray } : ByteArray) ++ { data := b.toArray }) = Value.string { data := r.toArray } := by
  subst h; congr 1
theorem one_byte (t : ByteArray) (k : Nat) (h : k < t.size) : t.extract k (k + 1) = ⟨([t[k]] : By).toArray⟩ := by
  apply str_of
  rw [ext_list, take_step t k h, List.drop_append, List.length_take, size_list]
  rw [List.drop_of_length_le (by rw [List.length_take]; omega), show k - min k t.size = 0 by omega]
  rfl
theorem ret_two {a b c d : Value} (h1 : a = c) (h2 : b = d) : Ending.returned (.tuple #[a, b]) = .returned (.tuple #[c, d]) := by rw [h1, h2]
theorem int_eq {a b : Int} (h : a = b) : Value.int .i64 a = .int .i64 b := by rw [h]
/-- Place and error, as the program answers them. -/
def GrpPost (w : World) (p : Int × Int) (e : Ending) (w' : World) : Prop := e = .returned (.tuple #[.int .i64 p.1, .int .i64 p.2]) ∧ w = w'
theorem grpE_in {l : List Tok} {a : Nat} (h : a ≤ l.length) : grpE l a = grpP (grpN l a) := by
  unfold grpE
  rw [if_neg (by omega)]
  rfl
theorem grpE_out {l : List Tok} {a : Int} (h : a < 0 ∨ (l.length : Int) < a) : grpE l a = (0, 1) := by
  unfold grpE; rw [if_pos h]
set_option maxRecDepth 100000 in
set_option maxHeartbeats 4000000 in
theorem rgroup_any (A : Option Addr) (c : Nat) (ts : List Tok) (x : Int) (w : World) (hr : Rd w A ts) (hl : ts.length ≤ 200000) :
    Calls Tryd.prog 51 #[.slice A ts.length c, .int .i64 x] w (GrpPost w (grpE ts x)) := by
  rcases (show x < 0 ∨ (ts.length : Int) < x ∨ x = (ts.length : Int) ∨ ∃ a : Nat, x = (a : Int) ∧ a < ts.length by
    by_cases h : x < 0
    · exact .inl h
    · by_cases h2 : (ts.length : Int) < x
      · exact .inr (.inl h2)
      · by_cases h3 : x = (ts.length : Int)
        · exact .inr (.inr (.inl h3))
        · exact .inr (.inr (.inr ⟨x.toNat, by omega, by omega⟩))) with h | h | h | ⟨a, rfl, ha⟩
  · rw [grpE_out (.inl h)]
    go_enter Tryd.func51, Tryd.ntmps51
    go_wp2
    go_ret2
    exact ⟨rfl, rfl⟩
  · rw [grpE_out (.inr h)]
    have h0 : ¬ x < 0 := by omega
    go_enter Tryd.func51, Tryd.ntmps51
    go_wp2
    go_ret2
    exact ⟨rfl, rfl⟩
  · subst h
    rw [grpE_in (Nat.le_refl _), grp_out (Nat.le_refl _), show grpP none = (0, 10) from rfl]
    have h0 : ¬ (ts.length : Int) < 0 := by omega
    have q : ((ts.length : Int) == (ts.length : Int)) = true := by simp
    go_enter Tryd.func51, Tryd.ntmps51
    go_wp2
    go_ret2
    exact ⟨rfl, rfl⟩
  · rw [grpE_in (by omega)]
    obtain ⟨b, o, rfl, hcell⟩ := hr (by omega)
    obtain ⟨f, hf⟩ : ∃ f, ts[a]? = some f := ⟨_, List.getElem?_eq_getElem ha⟩
    obtain ⟨c1, c2⟩ := hcell a f hf
    have HC := Lib.hid hcell
    clear hcell hr
    have h0 : ¬ (a : Int) < 0 := by omega
    have h1 : ¬ (ts.length : Int) < (a : Int) := by omega
    have i1 : (a : Int) < (ts.length : Int) := by omega
    have q : ((a : Int) == (ts.length : Int)) = false := by rw [beq_eq_false_iff_ne]; omega
    by_cases h5 : f.1 = 5
    · have hG := grp_begin hf h5
      obtain ⟨G, hGG⟩ : ∃ G, grpN ts a = G := ⟨_, rfl⟩
      rw [hGG] at hG ⊢
      have HG := Lib.hid hG
      have HF := Lib.hid (And.intro hf h5)
      rw [h5] at c1
      clear hGG hG hf h5 c2
      go_enter Tryd.func51, Tryd.ntmps51
      go_wp2
      go_loop [6, 7] (fun v6 v7 => ∃ d i : Nat, v6 = .int .i64 d ∧ v7 = .int .i64 i ∧ a ≤ i ∧ i ≤ ts.length ∧ d ≤ i ∧ (d = 0 → i = a) ∧ Hid ((endG d (ts.drop i)).map (· + i) = G)) (fun _ v7 => ts.length - (intOf v7).toNat)
      case atStart => exact ⟨0, a, rfl, rfl, Nat.le_refl _, by omega, Nat.zero_le _, fun _ => rfl, HG⟩
      case round =>
        obtain ⟨d, i, rfl, rfl, hai, hi, hdi, hd0, HE⟩ := hrel
        by_cases hlt : i < ts.length
        · obtain ⟨g, hg⟩ : ∃ g, ts[i]? = some g := ⟨_, List.getElem?_eq_getElem hlt⟩
          obtain ⟨e1, _⟩ := HC.out i g hg
          have hst := end_step hg HE.out
          have i2 : (i : Int) < (ts.length : Int) := by omega
          have hga : d = 0 → g.1 = 5 := fun h => by
            have e := hd0 h
            subst e
            have := HF.out.1.symm.trans hg
            rw [← Option.some.inj this]; exact HF.out.2
          clear hd0 HE hg c1
          by_cases g5 : g.1 = 5
          · rw [g5] at e1
            have hd : dep d g = d + 1 := by simp [dep, g5]
            rw [hd] at hst
            rcases hst with ⟨h, _⟩ | ⟨_, hst⟩
            · omega
            · have HN := Lib.hid hst
              have q2 : ((d : Int) + 1 == 0) = false := by rw [beq_eq_false_iff_ne]; omega
              clear hst hd hga g5
              go_wp2
              go_round
              case rel => exact ⟨d + 1, i + 1, by go_num, by go_num, by omega, by omega, by omega, by omega, HN⟩
              case measure => simp [intOf]; omega
          · have q5 : (g.1 == 5) = false := by simpa using g5
            have hd1 : d ≠ 0 := fun h => g5 (hga h)
            by_cases g6 : g.1 = 6
            · rw [g6] at e1
              have hd : dep d g = d - 1 := by simp [dep, g6]
              rw [hd] at hst
              have f1 : (d : Int) - 1 = ((d - 1 : Nat) : Int) := by omega
              obtain ⟨d2, hd2⟩ : ∃ d2, d - 1 = d2 := ⟨_, rfl⟩
              rw [hd2] at f1 hst
              have f0 : IntKind.i64.wrap ((d : Int) - 1) = (d2 : Int) := by rw [IntWalk.i64_in _ (by omega)]; exact f1
              have f2 : IntKind.i64.wrap (d2 : Int) = (d2 : Int) := IntWalk.i64_in _ (by omega)
              rcases hst with ⟨h, hst⟩ | ⟨h, hst⟩
              · subst h
                have HN := Lib.hid hst
                have q2 : (((0 : Nat) : Int) == 0) = true := rfl
                clear hst hd hga g5 g6 hd2
                go_wp2
                go_ret2
                rw [HN.out]
                exact ⟨rfl, rfl⟩
              · have HN := Lib.hid hst
                have q2 : ((d2 : Int) == 0) = false := by rw [beq_eq_false_iff_ne]; omega
                have hdl : d2 ≤ i + 1 := by omega
                clear hst hd hga g5 g6 hd2
                go_wp2
                go_round
                case rel => exact ⟨d2, i + 1, rfl, by go_num, by omega, by omega, by omega, fun e => absurd e h, HN⟩
                case measure => simp [intOf]; omega
            · have q6 : (g.1 == 6) = false := by simpa using g6
              have hd : dep d g = d := by simp [dep, g5, g6]
              rw [hd] at hst
              rcases hst with ⟨h, _⟩ | ⟨_, hst⟩
              · exact absurd h hd1
              · have HN := Lib.hid hst
                have q2 : ((d : Int) == 0) = false := by rw [beq_eq_false_iff_ne]; omega
                clear hst hd hga g5 g6
                go_wp2
                go_round
                case rel => exact ⟨d, i + 1, rfl, by go_num, by omega, by omega, by omega, fun e => absurd e hd1, HN⟩
                case measure => simp [intOf]; omega
        · have HN := Lib.hid (end_stop (by omega) HE.out)
          have i2 : ¬ (i : Int) < (ts.length : Int) := by omega
          clear HE c1
          go_wp2
          go_ret2
          rw [HN.out]
          exact ⟨rfl, rfl⟩
    · rw [grp_not hf h5, show grpP none = (0, 10) from rfl]
      have q5 : (f.1 != 5) = true := by simpa using h5
      have q5' : (f.1 == 5) = false := by simpa using h5
      clear hf h5
      go_enter Tryd.func51, Tryd.ntmps51
      go_wp2
      go_ret2
      exact ⟨rfl, rfl⟩
def wordE (l : List Tok) : By × Bool := match l with
  | [t] => if t.1 = 1 then (t.2, true) else ([], false)
  | _ => ([], false)
theorem wordE_len {l : List Tok} (h : l.length ≠ 1) : wordE l = ([], false) := by
  match l, h with
  | [], _ => rfl
  | [t], h => exact absurd rfl h
  | _ :: _ :: _, _ => rfl
end Go.Proofs.YtckldeabbkdbjaaDoor

namespace Go.Proofs.YtckldeabbkdbjaaDoor
open Go.RowKit

theorem last_take (s : ByteArray) (k : Nat) (h : k < s.size) : (s.data.toList.take (k + 1)).getLast? = some s[k] := by
  rw [take_step s k h]; simp
theorem sq_at0 (s : ByteArray) (h : 0 < s.size) : sqG true (s.data.toList.take (0 + 1)) = if s[0] = 32 then [] else [s[0]] := by
  rw [take_step s 0 h, List.take_zero, List.nil_append]
  by_cases h2 : s[0] = 32 <;> simp [sqG, h2]
theorem sq_at (s : ByteArray) (k : Nat) (h : k + 1 < s.size) : sqG true (s.data.toList.take (k + 1 + 1)) = sqG true (s.data.toList.take (k + 1)) ++ (if s[k + 1] = 32 then (if s[k] = 32 then [] else [32]) else [s[k + 1]]) := by
  rw [take_step s (k + 1) h, sq_step, last_take s k (by omega)]
  simp only [beq_iff_eq]
theorem trim_yes {l : By} {m : Nat} {x : UInt8} (hl : l.length = m + 1) (hx : l[m]? = some x) (h : x = 32) : trimB l = l.take m := by
  unfold trimB
  rw [List.getLast?_eq_getElem?, show l.length - 1 = m by omega, hx, if_pos (by rw [h]), List.dropLast_eq_take, show l.length - 1 = m by omega]
theorem trim_no {l : By} {m : Nat} {x : UInt8} (hl : l.length = m + 1) (hx : l[m]? = some x) (h : x ≠ 32) : trimB l = l := by
  unfold trimB
  rw [List.getLast?_eq_getElem?, show l.length - 1 = m by omega, hx, if_neg (by simpa using h)]
theorem int_ne {c : UInt8} {x : Int} (hx : (c.toNat : Int) = x) : (c = 32) ↔ x = 32 := by
  subst hx; exact byte_iff c 32 (by omega)
set_option maxRecDepth 100000 in
set_option maxHeartbeats 4000000 in
theorem rsq_any (s : ByteArray) (w : World) (hs : s.size ≤ 100000000) :
    Calls Tryd.prog 52 #[.string s] w fun e w' => e = .returned (.string ⟨(sqL s.data.toList).toArray⟩) ∧ w = w' := by
  go_enter Tryd.func52, Tryd.ntmps52
  go_wp2
  go_loop [3, 4] (fun v3 v4 => ∃ (k : Nat) (l : By), k ≤ s.size ∧ v4 = .int .i64 k ∧ v3 = .string ⟨l.toArray⟩ ∧ l.length ≤ k ∧ Hid (sqG true (s.data.toList.take k) = l)) (fun _ v4 => s.size - (intOf v4).toNat)
  case atStart => exact ⟨0, [], Nat.zero_le _, rfl, rfl, by simp, Lib.hid rfl⟩
  case round =>
    obtain ⟨k, l, hk, rfl, rfl, hll, HL⟩ := hrel
    by_cases hlt : k < s.size
    · have hone := one_byte s k hlt
      obtain ⟨c, hc⟩ : ∃ c, s[k] = c := ⟨_, rfl⟩
      obtain ⟨x, hx⟩ : ∃ x : Int, (s[k].toNat : Int) = x := ⟨_, rfl⟩
      have hcx := int_ne (show (c.toNat : Int) = x by rw [← hc]; exact hx)
      obtain ⟨m, hm⟩ : ∃ m, l ++ [c] = m := ⟨_, rfl⟩
      have hml : m.length = l.length + 1 := by rw [← hm]; simp
      have HS := Lib.hid (str_app hm)
      have i1 : (k : Int) < (s.size : Int) := by omega
      rw [hc] at hone
      by_cases h32 : x = 32
      · have c32 : c = 32 := hcx.2 h32
        rcases (show k = 0 ∨ ∃ j, k = j + 1 by cases k; exact .inl rfl; exact .inr ⟨_, rfl⟩) with h0 | ⟨j, hj⟩
        · have HN := Lib.hid (show sqG true (s.data.toList.take (k + 1)) = l by
            subst h0
            have := sq_at0 s hlt
            rw [hc, if_pos c32] at this
            rw [this]; exact HL.out)
          have q0 : ¬ (0 : Int) < (k : Int) := by omega
          have HK := Lib.hid h0
          subst h32
          clear h0 HL hc c32 hcx hm
          go_wp2
          go_round
          case rel => exact ⟨k + 1, l, by omega, by go_num, rfl, by omega, HN⟩
          case measure => simp [intOf]; omega
        · have hst : sqG true (s.data.toList.take (k + 1)) = l ++ (if s[j]'(by omega) = 32 then [] else [32]) := by
            subst hj
            rw [sq_at s j hlt, hc, if_pos c32, HL.out]
          have hjl : j < s.size := by omega
          obtain ⟨y, hy⟩ : ∃ y : Int, (s[j].toNat : Int) = y := ⟨_, rfl⟩
          have hdy := int_ne (c := s[j]) hy
          have q0 : (0 : Int) < (k : Int) := by omega
          have f0 : IntKind.i64.wrap ((k : Int) - 1) = (j : Int) := by rw [IntWalk.i64_in _ (by omega)]; omega
          have f1 : (k : Int) - 1 = (j : Int) := by omega
          have f2 : IntKind.i64.wrap (j : Int) = (j : Int) := IntWalk.i64_in _ (by omega)
          have i2 : (j : Int) < (s.size : Int) := by omega
          have HK := Lib.hid hj
          by_cases hy32 : y = 32
          · rw [if_pos (hdy.2 hy32), List.append_nil] at hst
            have HN := Lib.hid hst
            subst h32 hy32
            clear hj HL hc c32 hcx hm hst hdy
            go_wp2
            go_round
            case rel => exact ⟨k + 1, l, by omega, by go_num, rfl, by omega, HN⟩
            case measure => simp [intOf]; omega
          · rw [if_neg (fun e => hy32 (hdy.1 e)), ← c32, hm] at hst
            have HN := Lib.hid hst
            have q1 : (y != 32) = true := by simpa using hy32
            have q2 : (y == 32) = false := by simpa using hy32
            subst h32
            clear hj HL hc c32 hcx hm hst hdy hy32
            go_wp2
            go_round
            case rel => exact ⟨k + 1, m, by omega, by go_num, HS.out, by omega, HN⟩
            case measure => simp [intOf]; omega
      · have c32 : c ≠ 32 := fun e => h32 (hcx.1 e)
        have HN := Lib.hid (show sqG true (s.data.toList.take (k + 1)) = m by
          rcases (show k = 0 ∨ ∃ j, k = j + 1 by cases k; exact .inl rfl; exact .inr ⟨_, rfl⟩) with h0 | ⟨j, hj⟩
          · subst h0
            have := sq_at0 s hlt
            rw [hc, if_neg c32] at this
            rw [this, ← hm, ← HL.out]; rfl
          · subst hj
            rw [sq_at s j hlt, hc, if_neg c32, HL.out, hm])
        have q1 : (x != 32) = true := by simpa using h32
        have q2 : (x == 32) = false := by simpa using h32
        clear HL hc c32 hcx hm h32
        go_wp2
        go_round
        case rel => exact ⟨k + 1, m, by omega, by go_num, HS.out, by omega, HN⟩
        case measure => simp [intOf]; omega
    · have hfin := HL.out
      rw [List.take_of_length_le (by rw [size_list]; omega)] at hfin
      have i1 : ¬ (k : Int) < (s.size : Int) := by omega
      clear HL
      by_cases h0 : l.length = 0
      · have HF := Lib.hid (show sqL s.data.toList = [] by unfold sqL; rw [hfin, List.eq_nil_of_length_eq_zero h0]; rfl)
        have hl0 := List.eq_nil_of_length_eq_zero h0
        subst hl0
        clear hfin h0
        go_wp2
        go_ret
        exact ⟨ret_eq (str_eq HF.out.symm), rfl⟩
      · obtain ⟨m, hm⟩ : ∃ m, l.length = m + 1 := ⟨l.length - 1, by omega⟩
        obtain ⟨x, hx⟩ : ∃ x, l[m]? = some x := ⟨_, List.getElem?_eq_getElem (by omega)⟩
        have hml : m < (ByteArray.mk l.toArray).size := by show m < l.length; omega
        obtain ⟨y, hy⟩ : ∃ y : Int, ((ByteArray.mk l.toArray)[m].toNat : Int) = y := ⟨_, rfl⟩
        have hyx : (x.toNat : Int) = y := by
          rw [← hy]
          have : (ByteArray.mk l.toArray)[m] = x := List.getElem_eq_iff (h := by show m < l.length; omega) |>.2 hx
          rw [this]
        have hxy := int_ne hyx
        have q0 : (0 : Int) < (l.length : Int) := by omega
        have q0' : decide (0 < l.length) = true := by simp; omega
        have f0 : IntKind.i64.wrap ((l.length : Int) - 1) = (m : Int) := by rw [IntWalk.i64_in _ (by omega)]; omega
        have f1 : (l.length : Int) - 1 = (m : Int) := by omega
        have f2 : IntKind.i64.wrap (m : Int) = (m : Int) := IntWalk.i64_in _ (by omega)
        have i2 : (m : Int) < (l.length : Int) := by omega
        by_cases h32 : y = 32
        · have HF := Lib.hid (show sqL s.data.toList = l.take m by unfold sqL; rw [hfin]; exact trim_yes hm hx (hxy.2 h32))
          have hcut := cut_str l (l.take m) m (by omega) rfl
          have HM := Lib.hid hm
          generalize l.take m = v at *
          subst h32
          clear hfin h0 hm hx hyx hxy
          go_wp2
          go_ret
          exact ⟨ret_eq (str_eq HF.out.symm), rfl⟩
        · have HF := Lib.hid (show sqL s.data.toList = l by unfold sqL; rw [hfin]; exact trim_no hm hx (fun e => h32 (hxy.1 e)))
          have q2 : (y == 32) = false := by simpa using h32
          have HM := Lib.hid hm
          clear hfin h0 hm hx hyx hxy h32
          go_wp2
          go_ret
          exact ⟨ret_eq (str_eq HF.out.symm), rfl⟩
theorem raw_step {ts : List Tok} {k : Nat} {f : Tok} (h : ts[k]? = some f) : rawL (ts.take (k + 1)) = rawL (ts.take k) ++ rawT f := by
  rw [at_take h, raw_app]; simp [rawL]
theorem raw_one (f : Tok) (h : f.2.length ≤ 4000) : (rawT f).length ≤ 4000 := by
  unfold rawT
  split
  · exact h
  · split <;> simp
set_option maxRecDepth 100000 in
set_option maxHeartbeats 4000000 in
theorem rflat_any (A : Option Addr) (c : Nat) (ts : List Tok) (w : World) (hr : Rd w A ts) (hm : Hid (Mild ts)) (hl : ts.length ≤ 20000) :
    Calls Tryd.prog 30 #[.slice A ts.length c] w fun e w' => e = .returned (.string ⟨(flatL ts).toArray⟩) ∧ w = w' := by
  go_enter Tryd.func30, Tryd.ntmps30
  go_wp2
  go_loop [3, 4] (fun v i => ∃ (k : Nat) (l : By), k ≤ ts.length ∧ i = .int .i64 k ∧ v = .string ⟨l.toArray⟩ ∧ Hid (rawL (ts.take k) = l) ∧ l.length ≤ 4000 * k) (fun _ i => ts.length - (intOf i).toNat)
  case atStart => exact ⟨0, [], Nat.zero_le _, rfl, rfl, Lib.hid rfl, by simp⟩
  case round =>
    obtain ⟨k, l, hk, rfl, rfl, HL, hll⟩ := hrel
    by_cases hlt : k < ts.length
    · obtain ⟨b, o, rfl, hcell⟩ := hr (by omega)
      obtain ⟨f, hf⟩ : ∃ f, ts[k]? = some f := ⟨_, List.getElem?_eq_getElem hlt⟩
      obtain ⟨c1, c2⟩ := hcell k f hf
      have hz := hm.out f (List.mem_of_getElem? hf)
      have hst := raw_step hf
      have htl := raw_one f hz
      rw [HL.out] at hst
      obtain ⟨κ, z⟩ := f
      simp only at c1 c2 hz
      obtain ⟨m, hmm⟩ : ∃ m, l ++ rawT (κ, z) = m := ⟨_, rfl⟩
      rw [hmm] at hst
      have HN := Lib.hid hst
      have hml : m.length ≤ 4000 * (k + 1) := by rw [← hmm, List.length_append]; omega
      have i1 : (k : Int) < (ts.length : Int) := by omega
      have hll2 : l.length ≤ 90000000 := by omega
      clear hf hcell hst htl HL hll hr
      rcases (show κ = 1 ∨ κ = 2 ∨ κ = 3 ∨ (κ ≠ 1 ∧ κ ≠ 2 ∧ κ ≠ 3) by omega) with rfl | rfl | rfl | ⟨h1, h2, h3⟩
      · have HM := Lib.hid (str_app (show l ++ z = m by rw [← hmm]; rfl))
        clear hmm
        go_wp2
        go_round
        case rel => exact ⟨k + 1, m, by omega, by go_num, HM.out, HN, hml⟩
        case measure => simp [intOf]; omega
      · have HM := Lib.hid (str_app (show l ++ [32] = m by rw [← hmm]; rfl))
        clear hmm
        go_wp2
        go_round
        case rel => exact ⟨k + 1, m, by omega, by go_num, HM.out, HN, hml⟩
        case measure => simp [intOf]; omega
      · have HM := Lib.hid (str_app (show l ++ [32] = m by rw [← hmm]; rfl))
        clear hmm
        go_wp2
        go_round
        case rel => exact ⟨k + 1, m, by omega, by go_num, HM.out, HN, hml⟩
        case measure => simp [intOf]; omega
      · have HM := Lib.hid (show Value.string { data := l.toArray } = Value.string { data := m.toArray } by
          rw [← hmm]; unfold rawT; simp [h1, h2, h3])
        have d1 : (κ == 1) = false := by simpa using h1
        have d2 : (κ == 2) = false := by simpa using h2
        have d3 : (κ == 3) = false := by simpa using h3
        clear h1 h2 h3 hmm
        go_wp2
        go_round
        case rel => exact ⟨k + 1, m, by omega, by go_num, HM.out, HN, hml⟩
        case measure => simp [intOf]; omega
    · have hfin := HL.out
      rw [List.take_of_length_le (by omega)] at hfin
      have C := Lib.hid (fun w => rsq_any ⟨l.toArray⟩ w (by show l.length ≤ _; omega))
      rw [show (⟨l.toArray⟩ : ByteArray).data.toList = l from rfl] at C
      have HF := Lib.hid (show sqL l = flatL ts by unfold flatL; rw [hfin])
      generalize sqL l = v at *
      clear hfin HL
      go_wp2_with fail
      refine (C.out _).mono ?_
      rintro e w' ⟨rfl, rfl⟩
      go_wp2
      go_ret
      exact ⟨ret_eq (str_eq HF.out), rfl⟩
end Go.Proofs.YtckldeabbkdbjaaDoor

namespace Go.Proofs.YtckldeabbkdbjaaDoor
open Go.RowKit

/-- The slice at A reads as these lists. -/
def RdL (w : World) (A : Option Addr) (ll : List (List Tok)) : Prop :=
  0 < ll.length → ∃ b o, A = some ⟨b, o, none⟩ ∧ ∀ i l, ll[i]? = some l → ∃ B d, w.cell? ⟨b, o + i, none⟩ = some (.slice B l.length d) ∧ Rd w B l
theorem RdL.below {w w' : World} {A : Option Addr} {ll : List (List Tok)} (h : RdL w A ll) (hb : Below w.heap.size w w') : RdL w' A ll := fun h0 => by
  obtain ⟨b, o, e, hc⟩ := h h0
  refine ⟨b, o, e, fun i l hi => ?_⟩
  obtain ⟨B, d, h1, h2⟩ := hc i l hi
  exact ⟨B, d, cell_below hb h1, h2.below hb⟩
/-- Another block than that. -/
def Far (g : Option Nat) (B : Option Addr) : Prop := ∀ a, B = some a → some a.block ≠ g
/-- A row of one's own that holds these lists, each in another block. -/
def OwnL (t : TypeId) (w : World) (base : Nat) (A : Option Addr) (c : Nat) (ll : List (List Tok)) : Prop :=
  ∃ cs : List Value, w.ownsRow base t 1 (Value.slice A ll.length c) ll.length cs ∧ ∀ (i : Nat) (l : List Tok), ll[i]? = some l → ∃ (B : Option Addr) (d : Nat), cs[i]? = some (Value.slice B l.length d) ∧ Rd w B l ∧ (0 < l.length → Far (Value.slice A ll.length c).ownBlock B)
theorem OwnL.rd {t : TypeId} {w : World} {base : Nat} {A : Option Addr} {c : Nat} {ll : List (List Tok)} (h : OwnL t w base A c ll) : RdL w A ll := fun h0 => by
  obtain ⟨cs, hown, hc⟩ := h
  obtain ⟨g, cap, hv, _, _⟩ := World.ownsRow.form hown h0
  simp only [Value.slice.injEq] at hv
  obtain ⟨rfl, _, _⟩ := hv
  refine ⟨g, 0, rfl, fun i l hi => ?_⟩
  obtain ⟨B, d, h1, h2, _⟩ := hc i l hi
  have hlt : i < ll.length := (List.getElem?_eq_some_iff.1 hi).1
  have c1 := World.ownsRow.cellAt hown i (by omega)
  rw [Nat.zero_add]
  exact ⟨B, d, c1.trans h1, h2⟩
theorem own_row_below {t : TypeId} {w w' : World} {base size n : Nat} {v : Value} {cs : List Value} (h : w.ownsRow base t size v n cs) (hb : Below w.heap.size w w') : w'.ownsRow base t size v n cs := by
  refine ⟨h.1, ?_⟩
  rcases h.2 with q | ⟨g, cap, cur, h1, h2, h3, r⟩
  · exact .inl q
  · exact .inr ⟨g, cap, cur, h1, h2, (hb.block g (lt_of_blk h3)).trans h3, r⟩
theorem OwnL.below {t : TypeId} {w w' : World} {base : Nat} {A : Option Addr} {c : Nat} {ll : List (List Tok)} (h : OwnL t w base A c ll) (hb : Below w.heap.size w w') : OwnL t w' base A c ll := by
  obtain ⟨cs, hown, hc⟩ := h
  refine ⟨cs, own_row_below hown hb, fun i l hi => ?_⟩
  obtain ⟨B, d, h1, h2, h3⟩ := hc i l hi
  exact ⟨B, d, h1, h2.below hb, h3⟩
theorem OwnL.lt {t : TypeId} {w : World} {base : Nat} {A : Option Addr} {c : Nat} {ll : List (List Tok)} (h : OwnL t w base A c ll) : ∀ g, (Value.slice A ll.length c).ownBlock = some g → g < w.heap.size := fun g hg => by
  obtain ⟨cs, hown, _⟩ := h
  exact (hown.lt g hg).2
theorem ownL_empty (t : TypeId) (w : World) : OwnL t (w.alloc (.cells #[] t)) w.heap.size (some ⟨w.heap.size, 0, none⟩) 0 [] :=
  ⟨[], World.ownsRow_lit w #[] 0 (Nat.le_refl _) (by unfold maxLen; omega) (by simp), fun i l hi => by simp at hi⟩
/-- A list of one's own lies in another block than what was there before. -/
theorem own_far {t : TypeId} {w : World} {base : Nat} {B : Option Addr} {d : Nat} {l : List Tok} (h : Own t w base B d l) {g : Option Nat} (hg : ∀ k, g = some k → k < base) : 0 < l.length → Far g B := fun h0 a ha e => by
  obtain ⟨k, cap, hv, hb, _⟩ := World.ownsRow.form h h0
  simp only [Value.slice.injEq] at hv
  obtain ⟨rfl, _, _⟩ := hv
  cases ha
  have := hg _ e.symm
  simp only at this
  omega
theorem Rd.grown {w w' : World} {row : Option Nat} {B : Option Addr} {l : List Tok} (h : Rd w B l) (hg : w.grownBy w' row) (hf : 0 < l.length → Far row B) : Rd w' B l := fun h0 => by
  obtain ⟨b, o, e, hc⟩ := h h0
  subst e
  have hne : some b ≠ row := hf h0 _ rfl
  refine ⟨b, o, rfl, fun i f hi => ?_⟩
  obtain ⟨k1, k2⟩ := hc i f hi
  have l1 := World.block_lt_of_cell? w _ k1
  have l2 := World.block_lt_of_cell? w _ k2
  exact ⟨(hg.cell_far _ l1 hne).trans k1, (hg.cell_far _ l2 hne).trans k2⟩
theorem run_append_l (T E : TypeId) (hT : Tryd.prog.underlying T = some (.slice E)) (hI : (Tryd.prog.info? E).map (fun i => (i.zero, i.size, i.bytes)) = some (some (.slice none 0 0), 1, 24))
    (w : World) (base : Nat) (ty : TypeId) (A : Option Addr) (c : Nat) (ll : List (List Tok)) (hown : OwnL E w base A c ll) (g : Nat) (B : Option Addr) (d : Nat) (l : List Tok)
    (hc : w.cell? ⟨g, 0, none⟩ = some (.slice B l.length d)) (hr : Rd w B l) (hf : 0 < l.length → Far (Value.slice A ll.length c).ownBlock B) (hlen : ll.length + 1 ≤ 200000) (hbase : base ≤ w.heap.size) :
    ∃ A' c' w', (Builtin.append_ #[T, T] ty #[.slice A ll.length c, .slice (some ⟨g, 0, none⟩) 1 1]).run Tryd.prog w = .ok (.slice A' (ll ++ [l]).length c') w' ∧ OwnL E w' base A' c' (ll ++ [l]) ∧ Below base w w' ∧ w.grownBy w' (Value.slice A ll.length c).ownBlock := by
  obtain ⟨i0, hi, hz0, hz1, hz2⟩ := info_parts hI
  obtain ⟨cs, ho, hcs⟩ := hown
  have hlt := fun k hk => (ho.lt k hk)
  obtain ⟨v', w', h1, h2, h3, _, h5⟩ := run_append_own_at (P := Tryd.prog) w base T ty E i0 _ 1 24 hT hi hz0 hz1 hz2 rfl (by decide) (.slice A ll.length c) ll.length cs ho ⟨g, 0, none⟩ 1 1 [.slice B l.length d] rfl
    (fun j u hu => by
      match j, hu with
      | 0, hu => simp at hu; subst hu; rw [add_lit]; exact hc
      | j + 1, hu => simp at hu)
    (fun u hu => by simp at hu; subst hu; rfl) (by unfold maxLen; omega) (by omega) hbase
  obtain ⟨A', c', rfl⟩ := own_shape h2
  have e1 : ll.length + 1 = (ll ++ [l]).length := by simp
  rw [e1] at h1 h2 h5
  have far : ∀ (B : Option Addr) (m : List Tok), Rd w B m → (0 < m.length → Far (Value.slice A ll.length c).ownBlock B) → 0 < m.length → Far (Value.slice A' (ll ++ [l]).length c').ownBlock B := fun B m hm hfm h0 a ha e => by
    obtain ⟨b, o, eb, hcm⟩ := hm h0
    rcases h5 with q | q
    · rw [q] at e; exact hfm h0 a ha e
    · rw [q] at e
      obtain ⟨f, hf0⟩ : ∃ f, m[0]? = some f := ⟨_, List.getElem?_eq_getElem h0⟩
      have hl := World.block_lt_of_cell? w _ (hcm 0 f hf0).1
      rw [eb] at ha
      cases ha
      have := Option.some.inj e
      simp only at this hl
      omega
  refine ⟨A', c', w', h1, ⟨cs ++ [.slice B l.length d], h2, fun i m hi => ?_⟩, below_grown ho h3 hbase, h3⟩
  rcases Nat.lt_or_ge i ll.length with q | q
  · rw [List.getElem?_append_left q] at hi
    obtain ⟨B2, d2, k1, k2, k3⟩ := hcs i m hi
    have hcl : i < cs.length := (List.getElem?_eq_some_iff.1 k1).1
    exact ⟨B2, d2, by rw [List.getElem?_append_left hcl]; exact k1, k2.grown h3 k3, far B2 m k2 k3⟩
  · have hil : i = ll.length := by
      have := (List.getElem?_eq_some_iff.1 hi).1
      simp at this; omega
    subst hil
    rw [List.getElem?_append_right (Nat.le_refl _), Nat.sub_self] at hi
    simp at hi
    subst hi
    have hcl : cs.length = ll.length := by have := ho.1; omega
    exact ⟨B, d, by rw [List.getElem?_append_right (by omega), hcl, Nat.sub_self]; rfl, hr.grown h3 hf, far B l hr hf⟩
theorem wpList_append_l (T E : TypeId) (hT : Tryd.prog.underlying T = some (.slice E)) (hI : (Tryd.prog.info? E).map (fun i => (i.zero, i.size, i.bytes)) = some (some (.slice none 0 0), 1, 24))
    {ops : Array Oper} {rest : List Oper} {o : Oper} {a : Act} {Q : Exit → Act → World → Prop} (w : World) (hgd : o.guard = none) (s x : Operand)
    (ho : o.op = .call { callee := .builtin .append, args := #[s, x], argTypes := #[T, T] }) (base : Nat) (A : Option Addr) (c : Nat) (ll : List (List Tok)) (hs : a.eval s = .slice A ll.length c) (hown : OwnL E w base A c ll)
    (g : Nat) (B : Option Addr) (d : Nat) (l : List Tok) (hx : a.eval x = .slice (some ⟨g, 0, none⟩) 1 1) (hc : w.cell? ⟨g, 0, none⟩ = some (.slice B l.length d)) (hr : Rd w B l) (hf : 0 < l.length → Far (Value.slice A ll.length c).ownBlock B)
    (hlen : ll.length + 1 ≤ 200000) (hbase : base ≤ w.heap.size) (r : List (List Tok)) (hr0 : ll ++ [l] = r)
    (h : ∀ A' c' w', OwnL E w' base A' c' r → Below base w w' → wpList Tryd.prog ops Q rest (a.put o.dst (.slice A' r.length c')) w') : wpList Tryd.prog ops Q (o :: rest) a w := by
  subst hr0
  refine wpList_plain hgd fun K hK => ?_
  obtain ⟨A', c', w', hrun, h2, h3, _⟩ := run_append_l T E hT hI w base o.type A c ll hown g B d l hc hr hf hlen hbase
  unfold Oper.wp
  simp only [execOp, ho, resolve, invoke, builtin, Sem.run_bind, Sem.run_pure, Result.andThen_ok, List.map_toArray, List.map_cons, List.map_nil, hs, hx, hrun]
  exact hK _ _ (h A' c' w' h2 h3)
theorem Tryd.infoL32 : (Tryd.prog.info? 32).map (fun i => (i.zero, i.size, i.bytes)) = some (some (.slice none 0 0), 1, 24) := by kernel_rfl
theorem Tryd.infoL22 : (Tryd.prog.info? 22).map (fun i => (i.zero, i.size, i.bytes)) = some (some (.slice none 0 0), 1, 24) := by kernel_rfl
/-- A new list of lists of the call's own. -/
def ResL (t : TypeId) (w : World) (ll : List (List Tok)) (e : Ending) (w' : World) : Prop := ∃ A c, e = .returned (.slice A ll.length c) ∧ OwnL t w' w.heap.size A c ll ∧ Below w.heap.size w w'
theorem new_one (w : World) (a : Value) (t : TypeId) : (w.alloc (.cells #[a] t)).cell? ⟨w.heap.size, 0, none⟩ = some a := by rw [World.cell?_alloc_new]; rfl
end Go.Proofs.YtckldeabbkdbjaaDoor

namespace Go.Proofs.YtckldeabbkdbjaaDoor
open Go.RowKit

theorem quiet_draws {P : Program} {f : FuncId} {args : Array Value} {w : World} {n : Nat} {v : Value}
    (h : Calls P f args (w.drewN n) fun e w' => e = .returned v ∧ ∃ m, w' = (w.drewN n).drewN m) : Calls P f args (w.drewN n) fun e w'' => e = .returned v ∧ ∃ m, w'' = w.drewN m :=
  h.mono fun _ _ ⟨he, _, hm⟩ => ⟨he, _, hm.trans (World.drewN_drewN _ _ _)⟩
/-- A macro's name. -/
def nameB (s : By) : Bool := s.all ltr && decide (1 ≤ s.length ∧ s.length ≤ 20)
theorem name_stop {s : By} {k : Nat} {c : UInt8} (h : s[k]? = some c) (hc : ltr c = false) : nameB s = false := by
  unfold nameB
  cases hv : s.all ltr with
  | false => rfl
  | true =>
    rw [List.all_eq_true] at hv
    have := hv c (List.mem_of_getElem? h)
    rw [hc] at this; cases this
end Go.Proofs.YtckldeabbkdbjaaDoor

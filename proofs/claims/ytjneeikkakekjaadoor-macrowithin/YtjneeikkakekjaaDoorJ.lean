/-
  Contracts of the document's answer's Same, and of the laws' One, Refs and Cut; two tokens compared; a text cut off.
-/
import Derived.Test.YtjneeikkakekjaaDoorI
import Derived.BigQuiet
namespace Go.Proofs.YtjneeikkakekjaaDoor
open Go.RowKit

theorem tk_eqIn37 (f g : Tok) (w : World) :
    (Op.equalIn 10000 41 (.agg #[.int .i64 f.1, .string ⟨f.2.toArray⟩]) (.agg #[.int .i64 g.1, .string ⟨g.2.toArray⟩])).run Tryd.prog w = .ok (decide (f = g)) w := by
  have u9 := Tryd.underlying9
  have a9 := Tryd.isAgg9
  have z9 := Tryd.sizeOf9
  have u3 := Tryd.underlying3
  have a3 := Tryd.isAgg3
  have z3 := Tryd.sizeOf3
  have hS : Tryd.prog.underlying 41 = some (.struct (Tryd.prog.fieldsOf 41)) := by kernel_rfl
  have hp : Tryd.prog.stoodInHeld 41 = false := by kernel_rfl
  rw [show (10000 : Nat) = 9999 + 1 from rfl, run_equalIn_agg w 9999 41 _ _ hS hp]
  simp only [Program.fieldsOf, Tryd.underlying41]
  go_simp
  obtain ⟨f1, f2⟩ := f
  obtain ⟨g1, g2⟩ := g
  by_cases h1 : f1 = g1 <;> by_cases h2 : f2 = g2 <;> simp [h1, h2]
theorem tk_neq_yes37 {f g : Tok} (h : f ≠ g) (w : World) :
    (binOp .neq 41 (.agg #[.int .i64 f.1, .string ⟨f.2.toArray⟩]) (.agg #[.int .i64 g.1, .string ⟨g.2.toArray⟩])).run Tryd.prog w = .ok (.bool true) w := by
  rw [run_neq_struct, tk_eqIn37, decide_eq_false h]; rfl
theorem tk_neq_no37 {f g : Tok} (h : f = g) (w : World) :
    (binOp .neq 41 (.agg #[.int .i64 f.1, .string ⟨f.2.toArray⟩]) (.agg #[.int .i64 g.1, .string ⟨g.2.toArray⟩])).run Tryd.prog w = .ok (.bool false) w := by
  rw [run_neq_struct, tk_eqIn37, decide_eq_true h]; rfl
theorem tk_eql37 (f g : Tok) (w : World) :
    (binOp .eql 41 (.agg #[.int .i64 f.1, .string ⟨f.2.toArray⟩]) (.agg #[.int .i64 g.1, .string ⟨g.2.toArray⟩])).run Tryd.prog w = .ok (.bool (decide (f = g))) w := by
  rw [run_eql_struct, tk_eqIn37]; rfl
theorem tk_eqIn40 (f g : Tok) (w : World) :
    (Op.equalIn 10000 81 (.agg #[.int .i64 f.1, .string ⟨f.2.toArray⟩]) (.agg #[.int .i64 g.1, .string ⟨g.2.toArray⟩])).run Tryd.prog w = .ok (decide (f = g)) w := by
  have u9 := Tryd.underlying9
  have a9 := Tryd.isAgg9
  have z9 := Tryd.sizeOf9
  have u3 := Tryd.underlying3
  have a3 := Tryd.isAgg3
  have z3 := Tryd.sizeOf3
  have hS : Tryd.prog.underlying 81 = some (.struct (Tryd.prog.fieldsOf 81)) := by kernel_rfl
  have hp : Tryd.prog.stoodInHeld 81 = false := by kernel_rfl
  rw [show (10000 : Nat) = 9999 + 1 from rfl, run_equalIn_agg w 9999 81 _ _ hS hp]
  simp only [Program.fieldsOf, Tryd.underlying81]
  go_simp
  obtain ⟨f1, f2⟩ := f
  obtain ⟨g1, g2⟩ := g
  by_cases h1 : f1 = g1 <;> by_cases h2 : f2 = g2 <;> simp [h1, h2]
theorem tk_neq_yes40 {f g : Tok} (h : f ≠ g) (w : World) :
    (binOp .neq 81 (.agg #[.int .i64 f.1, .string ⟨f.2.toArray⟩]) (.agg #[.int .i64 g.1, .string ⟨g.2.toArray⟩])).run Tryd.prog w = .ok (.bool true) w := by
  rw [run_neq_struct, tk_eqIn40, decide_eq_false h]; rfl
theorem tk_neq_no40 {f g : Tok} (h : f = g) (w : World) :
    (binOp .neq 81 (.agg #[.int .i64 f.1, .string ⟨f.2.toArray⟩]) (.agg #[.int .i64 g.1, .string ⟨g.2.toArray⟩])).run Tryd.prog w = .ok (.bool false) w := by
  rw [run_neq_struct, tk_eqIn40, decide_eq_true h]; rfl
theorem tk_eql40 (f g : Tok) (w : World) :
    (binOp .eql 81 (.agg #[.int .i64 f.1, .string ⟨f.2.toArray⟩]) (.agg #[.int .i64 g.1, .string ⟨g.2.toArray⟩])).run Tryd.prog w = .ok (.bool (decide (f = g))) w := by
  rw [run_eql_struct, tk_eqIn40]; rfl
theorem eq_stop {α : Type} [DecidableEq α] {fs gs : List α} {k : Nat} {f g : α} (hf : fs[k]? = some f) (hg : gs[k]? = some g) (hne : f ≠ g) : false = decide (fs = gs) :=
  (decide_eq_false fun e => by rw [e, hg] at hf; exact hne (Option.some.inj hf).symm).symm
theorem eq_step {α : Type} {fs gs : List α} {k : Nat} {f g : α} (hf : fs[k]? = some f) (hg : gs[k]? = some g) (he : f = g) (h : fs.take k = gs.take k) : fs.take (k + 1) = gs.take (k + 1) := by
  rw [List.take_add_one, List.take_add_one, hf, hg, he, h]
theorem eq_end {α : Type} [DecidableEq α] {fs gs : List α} {k : Nat} (h1 : fs.length ≤ k) (h2 : gs.length ≤ k) (h : fs.take k = gs.take k) : true = decide (fs = gs) := by
  rw [List.take_of_length_le h1, List.take_of_length_le h2] at h
  exact (decide_eq_true h).symm
theorem eq_len {α : Type} [DecidableEq α] {fs gs : List α} (h : fs.length ≠ gs.length) : false = decide (fs = gs) := (decide_eq_false fun e => h (by rw [e])).symm
set_option maxHeartbeats 1000000 in
theorem same_any (A B : Option Addr) (c d : Nat) (fs gs : List Tok) (w : World) (hr : Rd w A fs) (hq : Rd w B gs) (hc : fs.length ≤ 200000) (hd : gs.length ≤ 200000) :
    Calls Tryd.prog 20 #[.slice A fs.length c, .slice B gs.length d] w fun e w' => e = .returned (.bool (decide (fs = gs))) ∧ ∃ n, w' = w.drewN n := by
  by_cases hl : fs.length = gs.length
  · have q : ((fs.length : Int) != (gs.length : Int)) = false := by simp [hl]
    have HL := Lib.hid hl
    clear hl
    go_enter Tryd.func20, Tryd.ntmps20
    go_wp2
    go_loopw [5] (fun i wr => ∃ k m : Nat, k ≤ fs.length ∧ i = .int .i64 k ∧ fs.take k = gs.take k ∧ wr = w.drewN m) (fun i _ => fs.length - (intOf i).toNat)
    case atStart => exact ⟨0, 0, Nat.zero_le _, rfl, by simp, rfl⟩
    case round =>
      obtain ⟨k, m, hk, rfl, hall, rfl⟩ := hrel
      have Hall := Lib.hid hall
      clear hall
      by_cases hlt : k < fs.length
      · have hlt2 : k < gs.length := by rw [← HL.out]; exact hlt
        obtain ⟨b, o, rfl, hcell⟩ := hr (by omega)
        obtain ⟨b2, o2, rfl, hcell2⟩ := hq (by omega)
        obtain ⟨f, hf⟩ : ∃ f, fs[k]? = some f := ⟨_, List.getElem?_eq_getElem hlt⟩
        obtain ⟨g, hg⟩ : ∃ g, gs[k]? = some g := ⟨_, List.getElem?_eq_getElem hlt2⟩
        obtain ⟨c1, c2⟩ := hcell k f hf
        obtain ⟨e1, e2⟩ := hcell2 k g hg
        have HF := Lib.hid hf
        have HG := Lib.hid hg
        clear hf hcell hr hg hcell2 hq
        have i1 : (k : Int) < (fs.length : Int) := by omega
        have i2 : (k : Int) < (gs.length : Int) := by omega
        by_cases hfg : f = g
        · have hrun := tk_neq_no40 hfg
          have HE := Lib.hid hfg
          clear hfg
          go_wp2_with fail
          go_quiet (fail)
          go_wp2
          go_roundw
          case rel => exact ⟨k + 1, _, by omega, by go_num, eq_step HF.out HG.out HE.out Hall.out, rfl⟩
          case measure => simp [intOf]; omega
        · have hrun := tk_neq_yes40 hfg
          have HE := Lib.hid hfg
          clear hfg
          go_wp2_with fail
          go_quiet (fail)
          go_wp2
          go_ret
          exact ⟨ret_bool (eq_stop HF.out HG.out HE.out), _, World.drewN_drewN _ _ _⟩
      · go_wp2
        go_ret
        exact ⟨ret_bool (eq_end (by omega) (by rw [← HL.out]; omega) Hall.out), _, rfl⟩
  · have q : ((fs.length : Int) != (gs.length : Int)) = true := by simp; omega
    have HL := Lib.hid hl
    clear hl
    go_enter Tryd.func20, Tryd.ntmps20
    go_wp2
    go_ret
    exact ⟨ret_bool (eq_len HL.out), 0, rfl⟩
set_option maxHeartbeats 400000 in
theorem one_any (k : Int) (x : By) (w : World) :
    Calls Tryd.prog 37 #[.agg #[.int .i64 k, .string ⟨x.toArray⟩]] w fun e w' => e = .returned (.agg #[.int .i64 k, .string ⟨x.toArray⟩]) ∧ Below w.heap.size w w' := by
  have hb := two_below w (.cells #[.int .i64 k, .string ⟨x.toArray⟩] 41) (.cells #[.int .i64 k, .string ⟨x.toArray⟩] 81)
  have HB := Lib.hid hb
  have hbk := heap_alloc_new (w.alloc (.cells #[.int .i64 k, .string ⟨x.toArray⟩] 41)) (.cells #[.int .i64 k, .string ⟨x.toArray⟩] 81)
  have hz : (w.alloc (.cells #[.int .i64 k, .string ⟨x.toArray⟩] 41)).heap.size = w.heap.size + 1 := by simp
  rw [hz] at hbk
  have HBK := Lib.hid hbk
  clear hb hbk hz
  go_enter Tryd.func37, Tryd.ntmps37
  go_wp2
  refine bodyPost_ret (results_cell_row (P := Tryd.prog) rfl _ _ (w.heap.size + 1) 81 #[.int .i64 k, .string ⟨x.toArray⟩] (0, 0) _ (by rfl) HBK.out Tryd.underlying81 rfl (by kernel_rfl)) rfl ?_
  exact ⟨rfl, HB.out⟩
theorem own_empty (t : TypeId) (w : World) : Own t (w.alloc (.cells #[] t)) w.heap.size (some ⟨w.heap.size, 0, none⟩) 0 [] := World.ownsRow_lit w #[] 0 (Nat.le_refl _) (by unfold maxLen; omega) (by simp)
set_option maxRecDepth 100000 in
set_option maxHeartbeats 1000000 in
theorem refs_any (A : Option Addr) (c : Nat) (ts : List Tok) (w : World) (hr : Rd w A ts) (hl : ts.length ≤ 190000) :
    Calls Tryd.prog 12 #[.slice A ts.length c] w (Res 81 w ts) := by
  have ho0 := own_empty 81 w
  have hb0 := one_below w (.cells #[] 81)
  go_enter Tryd.func12, Tryd.ntmps12
  go_wp2_with fail
  go_loopw [3, 4] (fun v i wr => ∃ (k : Nat) (C : Option Addr) (cc : Nat) (xs : List Tok), k ≤ ts.length ∧ i = .int .i64 k ∧ v = .slice C xs.length cc ∧ Hid (ts.take k = xs) ∧ xs.length ≤ k ∧ Own 81 wr w.heap.size C cc xs ∧ Below w.heap.size w wr) (fun _ i _ => ts.length - (intOf i).toNat)
  case atStart => exact ⟨0, _, 0, [], Nat.zero_le _, rfl, rfl, Lib.hid rfl, by simp, ho0, hb0⟩
  case round =>
    clear ho0 hb0
    obtain ⟨k, C, cc, xs, hk, rfl, rfl, HX, hxl, hown, hb⟩ := hrel
    by_cases hlt : k < ts.length
    · obtain ⟨b, o, rfl, hcell⟩ := (hr.below hb) (by omega)
      obtain ⟨f, hf⟩ : ∃ f, ts[k]? = some f := ⟨_, List.getElem?_eq_getElem hlt⟩
      obtain ⟨c1, c2⟩ := hcell k f hf
      obtain ⟨κ, z⟩ := f
      simp only at c1 c2
      obtain ⟨ys, hy⟩ : ∃ ys, xs ++ [(κ, z)] = ys := ⟨_, rfl⟩
      have HN := Lib.hid (show ts.take (k + 1) = ys by rw [at_take hf, HX.out, hy])
      have HYL := Lib.hid (show ys.length = xs.length + 1 by rw [← hy]; simp)
      have HY := Lib.hid hy
      have HO := Lib.hid hown
      have C1 := Lib.hid (one_any κ z wr)
      have i1 : (k : Int) < (ts.length : Int) := by omega
      clear hf hcell hy hown HX
      go_wp2_with fail
      refine C1.out.mono ?_
      rintro e w1 ⟨rfl, hb1⟩
      have SB := bch hb1 (one_below w1 (.cells #[.int .i64 κ, .string ⟨z.toArray⟩] 81))
      have HO2 := Lib.hid (HO.out.below SB)
      have HB2 := Lib.hid (bch hb SB)
      clear HO hb1 SB c1 c2 C1
      go_wp2_with (at_builtin; refine wpList_append_rdn40 _ rfl _ _ rfl w.heap.size _ xs rfl HO2.out (some ⟨w1.heap.size, 0, none⟩) 1 1 [(κ, z)] rfl rfl (one_read (new_fst _ _ _ _) (new_snd _ _ _ _)) (by show xs.length + 1 ≤ _; omega) HB2.out.size ys HY.out ?_; intro N2 nc2 w3 hown2 hb3)
      have hb4 := HB2.out.trans hb3
      clear HO2 HB2 hb3
      go_roundw
      case rel => exact ⟨k + 1, N2, nc2, ys, by omega, by go_num, rfl, HN, by have := HYL.out; omega, hown2, hb4⟩
      case measure => simp [intOf]; omega
    · have hfin := HX.out
      rw [List.take_of_length_le (by omega)] at hfin
      have HF := Lib.hid hfin
      clear hfin HX
      go_wp2
      go_ret
      rw [HF.out]
      exact ⟨C, cc, rfl, hown, hb⟩
theorem min_run (a k : Int) (c : Nat) (hc : min a k = c) (ts : Array TypeId) (t : TypeId) (w : World) : (Builtin.min_ ts t #[.int .i64 a, .int .i64 k]).run Tryd.prog w = .ok (.int .i64 c) w := by
  by_cases h : k < a
  · have : k = c := by omega
    subst this
    simp [Builtin.min_, Builtin.min2]
    omega
  · have : a = c := by omega
    subst this
    simp [Builtin.min_, Builtin.min2]
    omega
theorem cut_str (s r : By) (c : Nat) (hc : c ≤ s.length) (hr : s.take c = r) (w : World) : (Instr.slice 9 (.string ⟨s.toArray⟩) none (some (.int .i64 c)) none).run Tryd.prog w = .ok (.string ⟨r.toArray⟩) w := by
  have u9 := Tryd.underlying9
  subst hr
  go_simp
  apply ByteArray.ext
  simp [ByteArray.data_extract]
theorem cut_facts (s : By) (m : Nat) (k : Int) (hk : k = m) : ∃ (c : Nat) (r : By), Hid (s.take m = r) ∧ r.length ≤ m ∧ (∀ ts t w, (Builtin.min_ ts t #[.int .i64 s.length, .int .i64 k]).run Tryd.prog w = .ok (.int .i64 c) w) ∧ (∀ w, (Instr.slice 9 (.string ⟨s.toArray⟩) none (some (.int .i64 c)) none).run Tryd.prog w = .ok (.string ⟨r.toArray⟩) w) :=
  ⟨min s.length m, s.take m, Lib.hid rfl, by rw [List.length_take]; omega, fun ts t w => min_run _ _ _ (by omega) ts t w, fun w => cut_str s _ _ (by omega) (by rw [List.take_eq_take_iff]; omega) w⟩
def cut40 (t : Tok) : Tok := (t.1, t.2.take 40)
def cutL (most : Nat) (l : List Tok) : List Tok := (l.take most).map cut40
theorem cutL_step {_most : Nat} {ts : List Tok} {k : Nat} {f : Tok} (h : ts[k]? = some f) : (ts.take (k + 1)).map cut40 = (ts.take k).map cut40 ++ [cut40 f] := by rw [at_take h]; simp
set_option maxRecDepth 100000 in
set_option maxHeartbeats 1000000 in
theorem lcut_any (A : Option Addr) (c most : Nat) (ts : List Tok) (w : World) (hr : Rd w A ts) (hl : ts.length ≤ 9223372036854775807) (hfit : Hid (∀ t ∈ ts, t.2.length ≤ 9223372036854775807)) (hm : most ≤ 1000) :
    Calls Tryd.prog 9 #[.slice A ts.length c, .int .i64 most] w (Res 41 w (cutL most ts)) := by
  have ho0 := own_empty 41 w
  have hb0 := one_below w (.cells #[] 41)
  go_enter Tryd.func9, Tryd.ntmps9
  go_wp2_with fail
  go_loopw [5, 6] (fun v i wr => ∃ (k : Nat) (C : Option Addr) (cc : Nat) (xs : List Tok), k ≤ ts.length ∧ k ≤ most ∧ i = .int .i64 k ∧ v = .slice C xs.length cc ∧ Hid ((ts.take k).map cut40 = xs) ∧ xs.length ≤ k ∧ Own 41 wr w.heap.size C cc xs ∧ Below w.heap.size w wr) (fun _ i _ => ts.length - (intOf i).toNat)
  case atStart => exact ⟨0, _, 0, [], Nat.zero_le _, Nat.zero_le _, rfl, rfl, Lib.hid rfl, by simp, ho0, hb0⟩
  case round =>
    clear ho0 hb0
    obtain ⟨k, C, cc, xs, hk, hk2, rfl, rfl, HX, hxl, hown, hb⟩ := hrel
    by_cases hlt : k < ts.length
    · by_cases hlt2 : k < most
      · obtain ⟨b, o, rfl, hcell⟩ := (hr.below hb) (by omega)
        obtain ⟨f, hf⟩ : ∃ f, ts[k]? = some f := ⟨_, List.getElem?_eq_getElem hlt⟩
        obtain ⟨c1, c2⟩ := hcell k f hf
        have lz := hfit.out f (List.mem_of_getElem? hf)
        obtain ⟨κ, z⟩ := f
        simp only at c1 c2 lz
        obtain ⟨cz, y, HCY, hyl, hmin, hcut⟩ := cut_facts z 40 40 rfl
        obtain ⟨ys, hy⟩ : ∃ ys, xs ++ [(κ, y)] = ys := ⟨_, rfl⟩
        have HN := Lib.hid (show (ts.take (k + 1)).map cut40 = ys by rw [cutL_step (_most := most) hf, HX.out, ← hy, ← HCY.out]; rfl)
        have HYL := Lib.hid (show ys.length = xs.length + 1 by rw [← hy]; simp)
        have HY := Lib.hid hy
        have i1 : (k : Int) < (ts.length : Int) := by omega
        have i2 : (k : Int) < (most : Int) := by omega
        have SB := two_below wr (.cells #[.int .i64 κ, .string ⟨y.toArray⟩] 41) (.cells #[.int .i64 κ, .string ⟨y.toArray⟩] 41)
        have HO2 := Lib.hid (hown.below SB)
        have HB2 := Lib.hid (bch hb SB)
        have hrd := one_read (f := (κ, y)) (new_fst (wr.alloc (.cells #[.int .i64 κ, .string ⟨y.toArray⟩] 41)) (.int .i64 κ) (.string ⟨y.toArray⟩) 41) (new_snd _ _ _ _)
        rw [show (wr.alloc (.cells #[.int .i64 κ, .string ⟨y.toArray⟩] 41)).heap.size = wr.heap.size + 1 by simp] at hrd
        have HRD := Lib.hid hrd
        clear hf hcell hy hown HX SB HCY hrd
        go_wp2_with (at_builtin; refine wpList_append_rdn37 _ rfl _ _ rfl w.heap.size _ xs rfl HO2.out (some ⟨wr.heap.size + 1, 0, none⟩) 1 1 [(κ, y)] rfl (by first | rfl | simp) HRD.out (by show xs.length + 1 ≤ _; omega) HB2.out.size ys HY.out ?_; intro N2 nc2 w3 hown2 hb3)
        have hb4 := HB2.out.trans hb3
        clear HO2 HB2 hb3
        go_roundw
        case rel => exact ⟨k + 1, N2, nc2, ys, by omega, by omega, by go_num, rfl, HN, by have := HYL.out; omega, hown2, hb4⟩
        case measure => simp [intOf]; omega
      · have HF := Lib.hid (show cutL most ts = xs by unfold cutL; rw [show most = k by omega]; exact HX.out)
        have i1 : (k : Int) < (ts.length : Int) := by omega
        have i2 : ¬ (k : Int) < (most : Int) := by omega
        have HO := Lib.hid hown
        clear HX hown
        go_wp2
        go_ret
        rw [HF.out]
        exact ⟨C, cc, rfl, HO.out, hb⟩
    · have HF := Lib.hid (show cutL most ts = xs by
        unfold cutL
        have := HX.out
        rw [List.take_of_length_le (by omega)] at this ⊢
        exact this)
      have HO := Lib.hid hown
      clear HX hown
      go_wp2
      go_ret
      rw [HF.out]
      exact ⟨C, cc, rfl, HO.out, hb⟩
end Go.Proofs.YtjneeikkakekjaaDoor

/-
  The walks of WireTells, WireFiles, WireMaps and WireMost: for every input they return true; old memory stays.
-/
import Derived.Test.YthiojbfhodnlgaaDoorI
namespace Go.Proofs.YthiojbfhodnlgaaDoor
open Go.RowKit

theorem min_run (a k : Int) (c : Nat) (hc : min a k = c) (ts : Array TypeId) (t : TypeId) (w : World) : (Builtin.min_ ts t #[.int .i64 a, .int .i64 k]).run Tryd.prog w = .ok (.int .i64 c) w := by
  by_cases h : k < a
  · have : k = c := by omega
    subst this
    simp [Builtin.min_, Builtin.min2]
    omega
  · have : a = c := by omega
    subst this
    simp [Builtin.min_, Builtin.min2]
    omega
theorem cut_str (s r : List UInt8) (c : Nat) (hc : c ≤ s.length) (hr : s.take c = r) (w : World) : (Instr.slice 9 (.string ⟨s.toArray⟩) none (some (.int .i64 c)) none).run Tryd.prog w = .ok (.string ⟨r.toArray⟩) w := by
  have u9 := Tryd.underlying9
  subst hr
  go_simp
  apply ByteArray.ext
  simp [ByteArray.data_extract]
theorem cut_facts (s : List UInt8) (m : Nat) (k : Int) (hk : k = m) : ∃ (c : Nat) (r : List UInt8), Hid (s.take m = r) ∧ r.length ≤ m ∧ (∀ ts t w, (Builtin.min_ ts t #[.int .i64 s.length, .int .i64 k]).run Tryd.prog w = .ok (.int .i64 c) w) ∧ (∀ w, (Instr.slice 9 (.string ⟨s.toArray⟩) none (some (.int .i64 c)) none).run Tryd.prog w = .ok (.string ⟨r.toArray⟩) w) :=
  ⟨min s.length m, s.take m, Lib.hid rfl, by rw [List.length_take]; omega, fun ts t w => min_run _ _ _ (by omega) ts t w, fun w => cut_str s _ _ (by omega) (by rw [List.take_eq_take_iff]; omega) w⟩

theorem words_eq (A B : Option Addr) (c d : Nat) (ts : List (List UInt8)) (w : World) (hr : RdS w A ts) (hq : RdS w B ts) (hl : ts.length ≤ 100000) :
    Calls Tryd.prog 17 #[.slice A ts.length c, .slice B ts.length d] w fun e w' => e = .returned (.bool true) ∧ ∃ n, w' = w.drewN n :=
  (words_any A B c d ts ts w hr hq hl hl).mono fun _ _ h => ⟨h.1.trans (ret_bool (decide_eq_true rfl)), h.2⟩
theorem same_eq (A B : Option Addr) (c d : Nat) (fs : List Fl) (w : World) (hr : Rd w A fs) (hq : Rd w B fs) (hl : fs.length ≤ 100000) :
    Calls Tryd.prog 18 #[.slice A fs.length c, .slice B fs.length d] w fun e w' => e = .returned (.bool true) ∧ ∃ n, w' = w.drewN n :=
  (equal_any A B c d fs fs w hr hq hl hl).mono fun _ _ h => ⟨h.1.trans (ret_bool (decide_eq_true rfl)), h.2⟩
theorem all_len (s : List UInt8) : (allL s).2.length ≤ s.length := by
  rcases all_codes s.length s (Nat.le_refl _) with h | ⟨_, h⟩
  · have h1 := all_is s.length s (allL s).2 (Nat.le_refl _) (by rw [← h])
    have h2 := catL_len (allL s).2
    rw [← h1] at h2
    omega
  · rw [h]; simp
theorem parse_len (s : List UInt8) : (parseL s).2.length ≤ 32 := by
  rcases parse_ways s with ⟨_, e⟩ | ⟨ts, ha, ⟨_, e⟩ | ⟨_, _, e⟩ | ⟨k, r, e⟩⟩
  · rw [e]; simp
  · rw [e]; simp
  · rw [e]; simp
  · rw [e]; exact (files_parse e).2
theorem parse_mild {s : List UInt8} {fs : List Fl} (h : parseL s = (0, fs)) (hs : s.length ≤ 999999) : Mild fs := by
  rcases parse_ways s with ⟨k, e⟩ | ⟨ts, ha, ⟨_, e⟩ | ⟨_, _, e⟩ | ⟨k, r, e⟩⟩
  · rw [e] at h; simp only [Prod.mk.injEq] at h; exact absurd h.1 k
  · rw [e] at h; simp at h
  · rw [e] at h; simp at h
  · rw [e] at h
    simp only [Prod.mk.injEq, true_and] at h
    subst h
    have hc := all_is s.length s ts (Nat.le_refl _) ha
    intro f hf
    obtain ⟨h1, h2⟩ := pairL_mem ts.length ts (Nat.le_refl _) f hf
    have a1 := catL_mem h1
    have a2 := catL_mem h2
    rw [← hc] at a1 a2
    omega
theorem good_mild {fs : List Fl} (h : Good fs) : Mild fs := fun f hf => by
  obtain ⟨h1, h2⟩ := wrE_ok (h.2.2 f hf)
  unfold nmOk at h1
  rw [Bool.and_eq_true] at h1
  have := of_decide_eq_true h1.1
  omega
theorem good_bytes : ∀ (fs : List Fl), (∀ f ∈ fs, wrE f = 0) → (filesL fs).length ≤ fs.length * 4100
  | [], _ => by simp [filesL]
  | f :: r, h => by
    have ih := good_bytes r fun g hg => h g (List.mem_cons_of_mem _ hg)
    obtain ⟨h1, h2⟩ := wrE_ok (h f (List.mem_cons_self ..))
    unfold nmOk at h1
    rw [Bool.and_eq_true] at h1
    have h3 := of_decide_eq_true h1.1
    have e : filesL (f :: r) = wputL f.1 ++ wputL f.2 ++ filesL r := by simp [filesL]
    rw [e, List.length_append, List.length_append, wput_len, wput_len, List.length_cons]
    have d1 := dec_len f.1.length (by omega)
    have d2 := dec_len f.2.length (by omega)
    omega

set_option maxRecDepth 100000 in
set_option maxHeartbeats 8000000 in
theorem wireTells_any (s0 : List UInt8) (p most : Int) (w : World) (T : Tabs w) :
    Calls Tryd.prog 3 #[.string ⟨s0.toArray⟩, .int .i64 p, .int .i64 most] w fun e w' => e = .returned (.bool true) ∧ Below w.heap.size w w' := by
  obtain ⟨c, s, HS, hs, e1, e2⟩ := cut_facts s0 400 400 rfl
  have C1 := Lib.hid (fun (w : World) (T : Tabs w) => get_any s p most w T (by omega))
  have C2 := Lib.hid (fun (w : World) => rget_any s p most w (by omega))
  unfold getR at C1 C2
  have C3 := Lib.hid (fun (w : World) (T : Tabs w) => all_any s w T (by omega))
  have C4 := Lib.hid (fun (w : World) => rall_any s w (by omega))
  have C5 := Lib.hid (fun (w : World) (T : Tabs w) => parse_any s w T (by omega))
  have C6 := Lib.hid (fun (w : World) => rparse_any s w (by omega))
  have C7 := Lib.hid (fun (w : World) (T : Tabs w) => wput_any s w T (by omega))
  have C8 := Lib.hid (fun (w : World) => wrput_any s w (by omega))
  have hal := all_len s
  have hpl := parse_len s
  generalize getT s p most = gt at *
  generalize getP s p most = gp at *
  generalize getE s p most = ge at *
  generalize wputL s = pl at *
  generalize allL s = R at *
  generalize parseL s = V at *
  obtain ⟨x, ts⟩ := R
  obtain ⟨y, fs⟩ := V
  simp only at hal hpl C3 C4 C5 C6
  have T0 := T
  have hb := Below.refl w.heap.size w
  go_enter Tryd.func3, Tryd.ntmps3
  go_wp2_with fail
  refine (C1.out _ T0).mono ?_
  rintro e w1 ⟨rfl, hb2⟩
  replace T0 := T0.below hb2
  replace hb := bch hb hb2
  clear hb2
  go_wp2_with fail
  refine (C2.out _).mono ?_
  rintro e w' ⟨rfl, rfl⟩
  go_wp2_with fail
  refine (C3.out _ T0).mono ?_
  rintro e w2 ⟨A1, c1, rfl, hs1, hb2⟩
  replace T0 := T0.below hb2
  replace hb := bch hb hb2
  clear hb2
  go_wp2_with fail
  refine (C4.out _).mono ?_
  rintro e w3 ⟨A2, c2, rfl, hs2, hb2⟩
  replace hs1 := hs1.below hb2
  replace T0 := T0.below hb2
  replace hb := bch hb hb2
  clear hb2
  go_wp2_with fail
  refine (C5.out _ T0).mono ?_
  rintro e w4 ⟨A3, c3, rfl, ho1, hb2⟩
  replace hs1 := hs1.below hb2
  replace hs2 := hs2.below hb2
  replace T0 := T0.below hb2
  replace hb := bch hb hb2
  clear hb2
  go_wp2_with fail
  refine (C6.out _).mono ?_
  rintro e w5 ⟨A4, c4, rfl, ho2, hb2⟩
  replace hs1 := hs1.below hb2
  replace hs2 := hs2.below hb2
  replace ho1 := ho1.below hb2
  replace T0 := T0.below hb2
  replace hb := bch hb hb2
  clear hb2
  go_wp2_with fail
  refine (C7.out _ T0).mono ?_
  rintro e w6 ⟨rfl, hb2⟩
  replace hs1 := hs1.below hb2
  replace hs2 := hs2.below hb2
  replace ho1 := ho1.below hb2
  replace ho2 := ho2.below hb2
  replace T0 := T0.below hb2
  replace hb := bch hb hb2
  clear hb2
  go_wp2_with fail
  refine (C8.out _).mono ?_
  rintro e w7 ⟨rfl, hb2⟩
  replace hs1 := hs1.below hb2
  replace hs2 := hs2.below hb2
  replace ho1 := ho1.below hb2
  replace ho2 := ho2.below hb2
  replace T0 := T0.below hb2
  replace hb := bch hb hb2
  clear hb2
  go_wp2_with fail
  refine (words_eq A1 A2 c1 c2 ts _ hs1.rd hs2.rd (by omega)).mono ?_
  rintro e w8 ⟨rfl, n1, rfl⟩
  replace ho1 := ho1.below (drewN_below w7 n1)
  replace ho2 := ho2.below (drewN_below w7 n1)
  replace T0 := T0.below (drewN_below w7 n1)
  replace hb := bch hb (drewN_below w7 n1)
  clear hs1 hs2
  generalize w7.drewN n1 = w8 at ho1 ho2 T0 hb ⊢
  go_wp2_with fail
  refine (same_eq A3 A4 c3 c4 fs _ ho1.rd ho2.rd (by omega)).mono ?_
  rintro e w9 ⟨rfl, n2, rfl⟩
  replace T0 := T0.below (drewN_below w8 n2)
  replace hb := bch hb (drewN_below w8 n2)
  clear ho1 ho2
  generalize w8.drewN n2 = w9 at T0 hb ⊢
  go_wp2_with fail
  refine (fixed_any _ T0).mono ?_
  rintro e w10 ⟨rfl, hb2⟩
  go_wp2
  go_ret
  exact ⟨rfl, bch hb hb2⟩
end Go.Proofs.YthiojbfhodnlgaaDoor

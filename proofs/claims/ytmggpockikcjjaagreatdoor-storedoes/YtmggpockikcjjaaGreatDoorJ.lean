/-
  min, cuts of a text, the bytes of maps: small facts.
-/
import Derived.Test.YtmggpockikcjjaaGreatDoorH
namespace Go.Proofs.YtmggpockikcjjaaGreatDoor
open Go.RowKit

theorem min_run (a k : Int) (c : Nat) (hc : min a k = c) (ts : Array TypeId) (t : TypeId) (w : World) : (Builtin.min_ ts t #[.int .i64 a, .int .i64 k]).run Tryz.prog w = .ok (.int .i64 c) w := by
  by_cases h : k < a
  · have : k = c := by omega
    subst this
    simp [Builtin.min_, Builtin.min2]
    omega
  · have : a = c := by omega
    subst this
    simp [Builtin.min_, Builtin.min2]
    omega
theorem cut_str (s r : List UInt8) (c : Nat) (hc : c ≤ s.length) (hr : s.take c = r) (w : World) : (Instr.slice 9 (.string ⟨s.toArray⟩) none (some (.int .i64 c)) none).run Tryz.prog w = .ok (.string ⟨r.toArray⟩) w := by
  have u9 := Tryz.underlying9
  subst hr
  go_simp
  apply ByteArray.ext
  simp [ByteArray.data_extract]
theorem cut_facts (s : List UInt8) (m : Nat) (k : Int) (hk : k = m) : ∃ (c : Nat) (r : List UInt8), Hid (s.take m = r) ∧ r.length ≤ m ∧ (∀ ts t w, (Builtin.min_ ts t #[.int .i64 s.length, .int .i64 k]).run Tryz.prog w = .ok (.int .i64 c) w) ∧ (∀ w, (Instr.slice 9 (.string ⟨s.toArray⟩) none (some (.int .i64 c)) none).run Tryz.prog w = .ok (.string ⟨r.toArray⟩) w) :=
  ⟨min s.length m, s.take m, Lib.hid rfl, by rw [List.length_take]; omega, fun ts t w => min_run _ _ _ (by omega) ts t w, fun w => cut_str s _ _ (by omega) (by rw [List.take_eq_take_iff]; omega) w⟩

theorem same_eq (A B : Option Addr) (c d : Nat) (fs : List Fl) (w : World) (hr : Rd w A fs) (hq : Rd w B fs) (hl : fs.length ≤ 100000) :
    Calls Tryz.prog 15 #[.slice A fs.length c, .slice B fs.length d] w fun e w' => e = .returned (.bool true) ∧ ∃ n, w' = w.drewN n :=
  (equal_any A B c d fs fs w hr hq hl hl).mono fun _ _ h => ⟨h.1.trans (ret_bool (decide_eq_true rfl)), h.2⟩
theorem all_len (s : List UInt8) : (allL s).2.length ≤ s.length := by
  rcases all_codes s.length s (Nat.le_refl _) with h | ⟨_, h⟩
  · have h1 := all_is s.length s (allL s).2 (Nat.le_refl _) (by rw [← h])
    have h2 := catL_len (allL s).2
    rw [← h1] at h2
    omega
  · rw [h]; simp
theorem parse_len (s : List UInt8) : (parseL s).2.length ≤ 32 := by
  rcases parse_ways s with ⟨_, e⟩ | ⟨ts, ha, ⟨_, e⟩ | ⟨_, _, e⟩ | ⟨k, r, e⟩⟩
  · rw [e]; simp
  · rw [e]; simp
  · rw [e]; simp
  · rw [e]; exact (files_parse e).2
theorem good_mild {fs : List Fl} (h : Good fs) : Mild fs := fun f hf => by
  obtain ⟨h1, h2⟩ := wrE_ok (h.2.2 f hf)
  unfold nmOk at h1
  rw [Bool.and_eq_true] at h1
  have := of_decide_eq_true h1.1
  omega
theorem good_bytes : ∀ (fs : List Fl), (∀ f ∈ fs, wrE f = 0) → (filesL fs).length ≤ fs.length * 4100
  | [], _ => by simp [filesL]
  | f :: r, h => by
    have ih := good_bytes r fun g hg => h g (List.mem_cons_of_mem _ hg)
    obtain ⟨h1, h2⟩ := wrE_ok (h f (List.mem_cons_self ..))
    unfold nmOk at h1
    rw [Bool.and_eq_true] at h1
    have h3 := of_decide_eq_true h1.1
    have e : filesL (f :: r) = wputL f.1 ++ wputL f.2 ++ filesL r := by simp [filesL]
    rw [e, List.length_append, List.length_append, wput_len, wput_len, List.length_cons]
    have d1 := dec_len f.1.length (by omega)
    have d2 := dec_len f.2.length (by omega)
    omega

end Go.Proofs.YtmggpockikcjjaaGreatDoor

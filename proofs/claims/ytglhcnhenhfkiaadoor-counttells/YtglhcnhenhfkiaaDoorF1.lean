/-
  Contracts of the document's answer for layer 1 (its Cut, Add, Digits, letters) over the translation: they return the plain functions of their arguments; old memory stays as it was.
-/
import Derived.Test.YtglhcnhenhfkiaaDoorT6
namespace Go.Proofs.YtglhcnhenhfkiaaDoor
open Go.RowKit Go.Sort

set_option maxHeartbeats 400000 in
theorem rcut_any (n : Int) (w : World) :
    Calls Tryd.prog 12 #[.int .i64 n] w fun e w' => e = .returned (.int .i64 (cCut n)) ∧ w = w' := by
  by_cases h0 : n < 0
  · go_enter Tryd.func12, Tryd.ntmps12
    go_wp2
    go_ret
    exact ⟨ret_int (by simp [cCut, h0]), rfl⟩
  · by_cases h1 : 999999 < n
    · go_enter Tryd.func12, Tryd.ntmps12
      go_wp2
      go_ret
      exact ⟨ret_int (by unfold cCut; rw [if_neg (by omega), if_pos h1]), rfl⟩
    · go_enter Tryd.func12, Tryd.ntmps12
      go_wp2
      go_ret
      exact ⟨ret_int (by unfold cCut; rw [if_neg (by omega), if_neg (by omega)]), rfl⟩
set_option maxHeartbeats 400000 in
theorem radd_any (a b : Int) (w : World) :
    Calls Tryd.prog 10 #[.int .i64 a, .int .i64 b] w fun e w' => e = .returned (.tuple #[.int .i64 (cAdd a b), .bool (cOver a b)]) ∧ w = w' := by
  have ha := cCut_bd a
  have hb := cCut_bd b
  go_enter Tryd.func10, Tryd.ntmps10
  go_wp2_with (go_at_call 12; refine (rcut_any _ _).mono ?_; rintro e w' ⟨rfl, rfl⟩)
  all_goals go_ret2
  all_goals exact ⟨rfl, rfl⟩

theorem conv1 (w : World) (x : Int) (c : UInt8) (hc : (c.toNat : Int) = x) :
    (convert 47 9 (.slice (some ⟨w.heap.size, 0, none⟩) 1 1)).run Tryd.prog (w.alloc (Obj.cells #[Value.int IntKind.u8 x] 5)) = .ok (.string ⟨[c].toArray⟩) (w.alloc (Obj.cells #[Value.int IntKind.u8 x] 5)) := by
  refine run_convert_bytes_back _ 47 9 5 ⟨w.heap.size, 0, none⟩ 1 [c] Tryd.underlying47 Tryd.underlying5 Tryd.underlying9 (fun j hj => ?_)
  obtain rfl : j = 0 := by simpa using hj
  show (w.alloc _).cell? ⟨w.heap.size, 0, none⟩ = _
  rw [World.cell?_alloc_new]
  simp only [List.getElem_cons_zero]
  rw [hc]; rfl
theorem byte_int (k : Nat) (h : k < 256) : ((UInt8.ofNat k).toNat : Int) = (k : Int) := by
  rw [UInt8.toNat_ofNat', Nat.mod_eq_of_lt h]
theorem one_below (w : World) (o : Obj) : Below w.heap.size w (w.alloc o) := (Below.refl _ _).alloc (Nat.le_refl _) _

set_option maxRecDepth 100000 in
set_option maxHeartbeats 400000 in
theorem rdigits_small (n : Nat) (c : UInt8) (w : World) (h : n < 10) (Hc : Hid ((c.toNat : Int) = 48 + (n : Int) % 10)) :
    Calls Tryd.prog 23 #[.int .i64 n] w fun e w' => e = .returned (.string ⟨[c].toArray⟩) ∧ Below w.heap.size w w' := by
  have hcv := conv1 w (48 + (n : Int) % 10) c Hc.out
  go_enter Tryd.func23, Tryd.ntmps23
  go_wp2_with fail
  go_ret
  exact ⟨rfl, one_below _ _⟩
set_option maxRecDepth 100000 in
set_option maxHeartbeats 400000 in
theorem rdigits_big (n : Nat) (c : UInt8) (w : World) (l : List UInt8) (h : 10 ≤ n) (hn : n ≤ 999999) (hl : l.length ≤ 1000) (Hc : Hid ((c.toNat : Int) = 48 + (n : Int) % 10))
    (IH : Hid (∀ w, Calls Tryd.prog 23 #[.int .i64 (n / 10 : Nat)] w fun e w' => e = .returned (.string ⟨l.toArray⟩) ∧ Below w.heap.size w w')) :
    Calls Tryd.prog 23 #[.int .i64 n] w fun e w' => e = .returned (.string ⟨(l ++ [c]).toArray⟩) ∧ Below w.heap.size w w' := by
  have hcv := conv1 w (48 + (n : Int) % 10) c Hc.out
  have HE := Lib.hid (show ((n : Int) / 10) = ((n / 10 : Nat) : Int) by omega)
  go_enter Tryd.func23, Tryd.ntmps23
  go_wp2_with fail
  rw [HE.out]
  refine (IH.out _).mono ?_
  rintro e w1 ⟨rfl, hb⟩
  go_wp2_with fail
  go_ret
  exact ⟨congrArg Ending.returned (str_app l [c]), (one_below _ _).trans (hb.mono (one_below _ _).size)⟩
theorem dec_len (n : Nat) (h : n ≤ 999999) : (Lib.decDigits n).length ≤ 6 := by
  rw [Lib.decDigits_length]
  by_cases h10 : n < 10
  · rw [Lib.nDigits_small h10]; omega
  by_cases h2 : n < 100
  · rw [Lib.nDigits_unique 1 n (by omega) (by omega)]; omega
  by_cases h3 : n < 1000
  · rw [Lib.nDigits_unique 2 n (by omega) (by omega)]; omega
  by_cases h4 : n < 10000
  · rw [Lib.nDigits_unique 3 n (by omega) (by omega)]; omega
  by_cases h5 : n < 100000
  · rw [Lib.nDigits_unique 4 n (by omega) (by omega)]; omega
  · rw [Lib.nDigits_unique 5 n (by omega) (by omega)]; omega
theorem rdigits_any (n : Nat) : ∀ (w : World), n ≤ 999999 →
    Calls Tryd.prog 23 #[.int .i64 n] w fun e w' => e = .returned (.string ⟨(Lib.decDigits n).toArray⟩) ∧ Below w.heap.size w w' := by
  induction n using Nat.strongRecOn with
  | _ n ih =>
    intro w hn
    by_cases h : n < 10
    · rw [Lib.decDigits, dif_pos h]
      exact rdigits_small n _ w h (Lib.hid (by rw [byte_int _ (by omega)]; omega))
    · rw [Lib.decDigits, dif_neg h]
      have := dec_len (n / 10) (by omega)
      exact rdigits_big n _ w _ (by omega) hn (by omega) (Lib.hid (by rw [byte_int _ (by omega)]; omega)) (Lib.hid fun w' => ih (n / 10) (by omega) w' (by omega))

set_option maxRecDepth 100000 in
set_option maxHeartbeats 400000 in
theorem rletters_small (n : Nat) (c : UInt8) (w : World) (h1 : 1 ≤ n) (h : n ≤ 26) (Hc : Hid ((c.toNat : Int) = 97 + ((n : Int) - 1) % 26)) :
    Calls Tryd.prog 22 #[.int .i64 n] w fun e w' => e = .returned (.string ⟨[c].toArray⟩) ∧ Below w.heap.size w w' := by
  have hcv := conv1 w (97 + ((n : Int) - 1) % 26) c Hc.out
  go_enter Tryd.func22, Tryd.ntmps22
  go_wp2_with fail
  go_ret
  exact ⟨rfl, one_below _ _⟩
set_option maxRecDepth 100000 in
set_option maxHeartbeats 400000 in
theorem rletters_big (n : Nat) (c : UInt8) (w : World) (l : List UInt8) (h : 27 ≤ n) (hn : n ≤ 999999) (hl : l.length ≤ 1000) (Hc : Hid ((c.toNat : Int) = 97 + ((n : Int) - 1) % 26))
    (IH : Hid (∀ w, Calls Tryd.prog 22 #[.int .i64 ((n - 1) / 26 : Nat)] w fun e w' => e = .returned (.string ⟨l.toArray⟩) ∧ Below w.heap.size w w')) :
    Calls Tryd.prog 22 #[.int .i64 n] w fun e w' => e = .returned (.string ⟨(l ++ [c]).toArray⟩) ∧ Below w.heap.size w w' := by
  have hcv := conv1 w (97 + ((n : Int) - 1) % 26) c Hc.out
  have HE := Lib.hid (show (((n : Int) - 1) / 26) = (((n - 1) / 26 : Nat) : Int) by omega)
  go_enter Tryd.func22, Tryd.ntmps22
  go_wp2_with fail
  rw [HE.out]
  refine (IH.out _).mono ?_
  rintro e w1 ⟨rfl, hb⟩
  go_wp2_with fail
  go_ret
  exact ⟨congrArg Ending.returned (str_app l [c]), (one_below _ _).trans (hb.mono (one_below _ _).size)⟩
def letB3 : Nat → Nat
  | 0 => 0
  | k + 1 => 26 * letB3 k + 26
theorem let_len3 : ∀ (k n : Nat), n ≤ letB3 k → (letL n).length ≤ k
  | 0, n, h => by
    obtain rfl : n = 0 := by simpa [letB3] using h
    simp [letL_zero]
  | k + 1, n, h => by
    by_cases h0 : n = 0
    · subst h0; simp [letL_zero]
    · rw [letL_pos n (by omega)]
      have := let_len3 k ((n - 1) / 26) (by unfold letB3 at h; omega)
      simp only [List.length_append, List.length_singleton]
      omega
theorem rletters_any (n : Nat) : ∀ (w : World), 1 ≤ n → n ≤ 999999 →
    Calls Tryd.prog 22 #[.int .i64 n] w fun e w' => e = .returned (.string ⟨(letL n).toArray⟩) ∧ Below w.heap.size w w' := by
  induction n using Nat.strongRecOn with
  | _ n ih =>
    intro w h1 hn
    rw [letL_pos n h1]
    by_cases h : n ≤ 26
    · rw [show (n - 1) / 26 = 0 by omega, letL_zero]
      exact rletters_small n _ w h1 h (Lib.hid (by rw [byte_int _ (by omega)]; omega))
    · have h5 := let_len3 5 ((n - 1) / 26) (by have : letB3 5 = 12356630 := by decide
                                               omega)
      exact rletters_big n _ w _ (by omega) hn (by omega) (Lib.hid (by rw [byte_int _ (by omega)]; omega)) (Lib.hid fun w' => ih ((n - 1) / 26) (by omega) w' (by omega) (by omega))
end Go.Proofs.YtglhcnhenhfkiaaDoor

/-
  Plain facts on the letters of counters: their lengths and their order; what stands at their end.
-/
import Derived.Test.YtglhcnhenhfkiaaDoorT2
namespace Go.Proofs.YtglhcnhenhfkiaaDoor

theorem bl_append : ∀ (x y u v : List UInt8), x.length = y.length → Op.bytesLess x y = true → Op.bytesLess (x ++ u) (y ++ v) = true
  | [], [], u, v, _, h => by simp [Op.bytesLess] at h
  | [], b :: y, u, v, hl, _ => by simp at hl
  | a :: x, [], u, v, hl, _ => by simp at hl
  | a :: x, b :: y, u, v, hl, h => by
    simp only [List.cons_append, Op.bytesLess, Bool.or_eq_true, Bool.and_eq_true] at h ⊢
    rcases h with h | ⟨h1, h2⟩
    · exact .inl h
    · exact .inr ⟨h1, bl_append x y u v (by simpa using hl) h2⟩
theorem bl_same : ∀ (x : List UInt8) (c d : UInt8), c < d → Op.bytesLess (x ++ [c]) (x ++ [d]) = true
  | [], c, d, h => by simp [Op.bytesLess, h]
  | a :: x, c, d, h => by
    simp only [List.cons_append, Op.bytesLess, Bool.or_eq_true, Bool.and_eq_true]
    exact .inr ⟨by simp, bl_same x c d h⟩
theorem byte_lt (a b : Nat) (ha : a < 256) (hb : b < 256) (h : a < b) : UInt8.ofNat a < UInt8.ofNat b := by
  rw [UInt8.lt_iff_toNat_lt]
  simp [UInt8.toNat_ofNat', Nat.mod_eq_of_lt ha, Nat.mod_eq_of_lt hb, h]
theorem let_order : ∀ (b a : Nat), a < b → (letL a).length ≤ (letL b).length ∧ ((letL a).length = (letL b).length → Op.bytesLess (letL a) (letL b) = true) := by
  intro b
  induction b using Nat.strongRecOn with
  | _ b ih =>
    intro a hab
    rw [letL_pos b (by omega)]
    by_cases h0 : a = 0
    · subst h0
      rw [letL_zero]
      simp
    · rw [letL_pos a (by omega)]
      simp only [List.length_append, List.length_singleton]
      by_cases hq : (a - 1) / 26 < (b - 1) / 26
      · obtain ⟨h1, h2⟩ := ih ((b - 1) / 26) (by omega) ((a - 1) / 26) hq
        exact ⟨by omega, fun he => bl_append _ _ _ _ (by omega) (h2 (by omega))⟩
      · have he : (a - 1) / 26 = (b - 1) / 26 := by omega
        rw [he]
        exact ⟨by omega, fun _ => bl_same _ _ _ (byte_lt _ _ (by omega) (by omega) (by omega))⟩
theorem let_next_len (n : Nat) : (letL (n + 1)).length = (letL n).length ∨ (letL (n + 1)).length = (letL n).length + 1 := by
  induction n using Nat.strongRecOn with
  | _ n ih =>
    rw [letL_pos (n + 1) (by omega)]
    simp only [List.length_append, List.length_singleton, Nat.add_sub_cancel]
    by_cases h0 : n = 0
    · subst h0; simp [letL_zero]
    · rw [letL_pos n (by omega)]
      simp only [List.length_append, List.length_singleton]
      by_cases hz : (n - 1) % 26 = 25
      · have e : n / 26 = (n - 1) / 26 + 1 := by omega
        rw [e]
        have := ih ((n - 1) / 26) (by omega)
        omega
      · have e : n / 26 = (n - 1) / 26 := by omega
        rw [e]; omega
/-- Not at z: the last letter is turned on. -/
theorem let_turn (n : Nat) (h : 1 ≤ n) (hz : (n - 1) % 26 ≠ 25) : letL (n + 1) = letL ((n - 1) / 26) ++ [UInt8.ofNat (98 + (n - 1) % 26)] := by
  rw [letL_pos (n + 1) (by omega), Nat.add_sub_cancel, show n / 26 = (n - 1) / 26 by omega, show 97 + n % 26 = 98 + (n - 1) % 26 by omega]
/-- At z: the next one ends with a. -/
theorem let_over (n : Nat) (hz : n % 26 = 0) : letL (n + 1) = letL (n / 26) ++ [97] := by
  rw [letL_pos (n + 1) (by omega), Nat.add_sub_cancel, hz]
  rfl
end Go.Proofs.YtglhcnhenhfkiaaDoor

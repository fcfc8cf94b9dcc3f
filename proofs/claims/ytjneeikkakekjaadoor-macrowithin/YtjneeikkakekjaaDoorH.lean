/-
  Contracts of lex.escaped and lex.Text: a text that has these tokens; old memory stays.
-/
import Derived.Test.YtjneeikkakekjaaDoorG
namespace Go.Proofs.YtjneeikkakekjaaDoor
open Go.RowKit

theorem esc_int {c : UInt8} {x : Int} (hx : (c.toNat : Int) = x) (h : x = 32 ∨ x = 9 ∨ x = 10 ∨ x = 37 ∨ x = 123 ∨ x = 125 ∨ x = 92 ∨ x = 35) : escB c = true := by
  subst hx
  unfold escB
  rcases h with h | h | h | h | h | h | h | h
  · rw [byte_lit (n := 32) h]; rfl
  · rw [byte_lit (n := 9) h]; rfl
  · rw [byte_lit (n := 10) h]; rfl
  · rw [byte_lit (n := 37) h]; rfl
  · rw [byte_lit (n := 123) h]; rfl
  · rw [byte_lit (n := 125) h]; rfl
  · rw [byte_lit (n := 92) h]; rfl
  · rw [byte_lit (n := 35) h]; rfl
theorem esc_not {c : UInt8} {x : Int} (hx : (c.toNat : Int) = x) (h : x ≠ 32 ∧ x ≠ 9 ∧ x ≠ 10 ∧ x ≠ 37 ∧ x ≠ 123 ∧ x ≠ 125 ∧ x ≠ 92 ∧ x ≠ 35) : escB c = false := by
  subst hx
  obtain ⟨h1, h2, h3, h4, h5, h6, h7, h8⟩ := h
  unfold escB blk
  simp only [Bool.or_eq_false_iff, beq_eq_false_iff_ne]
  exact ⟨⟨⟨⟨⟨⟨⟨byte_ne (n := 32) h1 (by omega), byte_ne (n := 9) h2 (by omega)⟩, byte_ne (n := 10) h3 (by omega)⟩, byte_ne (n := 92) h7 (by omega)⟩, byte_ne (n := 123) h5 (by omega)⟩, byte_ne (n := 125) h6 (by omega)⟩, byte_ne (n := 37) h4 (by omega)⟩, byte_ne (n := 35) h8 (by omega)⟩
theorem safe_app (a b : By) : safeL (a ++ b) = safeL a ++ safeL b := by simp [safeL]
theorem safe_yes {c : UInt8} (h : escB c = true) : safeL [c] = [92, c] := by simp [safeL, h]
theorem safe_no {c : UInt8} (h : escB c = false) : safeL [c] = [c] := by simp [safeL, h]
theorem safe_len : ∀ (w : By), (safeL w).length ≤ 2 * w.length
  | [] => by simp [safeL]
  | c :: w => by
    have := safe_len w
    rw [safe_cons, List.length_append]
    have : (if escB c = true then [92, c] else [c]).length ≤ 2 := by split <;> simp
    simp only [List.length_cons]
    omega
theorem str_eq {a b : By} (h : a = b) : Value.string ⟨a.toArray⟩ = .string ⟨b.toArray⟩ := by rw [h]
theorem ret_eq {a b : Value} (h : a = b) : Ending.returned a = .returned b := by rw [h]
end Go.Proofs.YtjneeikkakekjaaDoor

/-
  Contracts of the small functions of bytes: letters, digits, blanks; what a text begins with.
-/
import Derived.Test.YtjneeikkakekjaaDoorRows
import Derived.Test.YtjneeikkakekjaaDoorP
import Derived.WalkKit
import Derived.WalkSpells
import Derived.WalkLawsBesides
import Derived.OwnWalk
import Derived.Lib.Hide
import Derived.Deep.AppendLies
import Derived.Deep.Draws
import Derived.Laws.OwnMore
namespace Go.Proofs.YtjneeikkakekjaaDoor
open Go.RowKit

def ltrI (x : Int) : Bool := decide (97 ≤ x ∧ x ≤ 122 ∨ 65 ≤ x ∧ x ≤ 90)
def dgtI (x : Int) : Bool := decide (49 ≤ x ∧ x ≤ 57)
def blkI (x : Int) : Bool := decide (x = 32 ∨ x = 9 ∨ x = 10)
theorem ltr_int (c : UInt8) : ltr c = ltrI (c.toNat : Int) := by
  unfold ltr ltrI; congr 1; apply propext; omega
theorem dgt_int (c : UInt8) : dgt c = dgtI (c.toNat : Int) := by
  unfold dgt dgtI; congr 1; apply propext; omega
theorem byte_lit {c : UInt8} {n : Nat} (h : (c.toNat : Int) = (n : Int)) : c = UInt8.ofNat n := by
  apply UInt8.toNat_inj.1
  rw [UInt8.toNat_ofNat']
  have := c.toNat_lt
  omega
theorem byte_ne {c : UInt8} {n : Nat} (h : ¬ (c.toNat : Int) = (n : Int)) (hn : n < 256) : ¬ c = UInt8.ofNat n := fun e => h (by
  rw [e, UInt8.toNat_ofNat', Nat.mod_eq_of_lt hn])
theorem blk_int (c : UInt8) : blk c = blkI (c.toNat : Int) := by
  unfold blk blkI
  rw [Bool.eq_iff_iff]
  simp only [Bool.or_eq_true, beq_iff_eq, decide_eq_true_eq]
  constructor
  · rintro ((rfl | rfl) | rfl) <;> simp
  · rintro (h | h | h)
    · exact .inl (.inl (byte_lit (n := 32) h))
    · exact .inl (.inr (byte_lit (n := 9) h))
    · exact .inr (byte_lit (n := 10) h)
theorem ret_bool {a b : Bool} (h : a = b) : Ending.returned (.bool a) = .returned (.bool b) := by rw [h]
theorem ltr_ways (x : Int) : (97 ≤ x ∧ x ≤ 122 ∧ ltrI x = true) ∨ (122 < x ∧ ltrI x = false) ∨ (90 < x ∧ x < 97 ∧ ltrI x = false) ∨ (65 ≤ x ∧ x ≤ 90 ∧ ltrI x = true) ∨ (x < 65 ∧ ltrI x = false) := by
  unfold ltrI
  simp only [decide_eq_true_eq, decide_eq_false_iff_not]
  omega
theorem letter_any (x : Int) (w : World) : Calls Tryd.prog 62 #[.int .u8 x] w fun e w' => e = .returned (.bool (ltrI x)) ∧ w = w' := by
  rcases ltr_ways x with ⟨h1, h2, h⟩ | ⟨h1, h⟩ | ⟨h1, h2, h⟩ | ⟨h1, h2, h⟩ | ⟨h1, h⟩ <;> (
    have H := Lib.hid h
    generalize ltrI x = v at *
    clear h
    try (have d1 : decide (x ≤ 122) = false := decide_eq_false (by omega))
    try (have d2 : decide (x ≤ 90) = false := decide_eq_false (by omega))
    go_enter Tryd.func62, Tryd.ntmps62
    go_wp2
    go_ret
    exact ⟨ret_bool H.out.symm, rfl⟩)
theorem dgt_ways (x : Int) : (49 ≤ x ∧ x ≤ 57 ∧ dgtI x = true) ∨ (57 < x ∧ dgtI x = false) ∨ (x < 49 ∧ dgtI x = false) := by
  unfold dgtI
  simp only [decide_eq_true_eq, decide_eq_false_iff_not]
  omega
theorem digit_any (x : Int) (w : World) : Calls Tryd.prog 63 #[.int .u8 x] w fun e w' => e = .returned (.bool (dgtI x)) ∧ w = w' := by
  rcases dgt_ways x with ⟨h1, h2, h⟩ | ⟨h1, h⟩ | ⟨h1, h⟩ <;> (
    have H := Lib.hid h
    generalize dgtI x = v at *
    clear h
    try (have d1 : decide (x ≤ 57) = false := decide_eq_false (by omega))
    go_enter Tryd.func63, Tryd.ntmps63
    go_wp2
    go_ret
    exact ⟨ret_bool H.out.symm, rfl⟩)
theorem blk_ways (x : Int) : (x = 32 ∧ blkI x = true) ∨ (x = 9 ∧ blkI x = true) ∨ (x = 10 ∧ blkI x = true) ∨ (x ≠ 32 ∧ x ≠ 9 ∧ x ≠ 10 ∧ blkI x = false) := by
  unfold blkI
  simp only [decide_eq_true_eq, decide_eq_false_iff_not]
  omega
end Go.Proofs.YtjneeikkakekjaaDoor

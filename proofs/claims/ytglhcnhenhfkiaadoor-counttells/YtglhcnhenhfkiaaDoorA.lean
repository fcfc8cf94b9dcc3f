/-
  Contracts of count.Cut and count.Add over the translation: each call returns the plain function of its arguments and leaves the world as it was; for every argument.
-/
import Derived.Test.YtglhcnhenhfkiaaDoorRows
import Derived.WalkKit
import Derived.WalkSpells
import Derived.WalkLawsBesides
namespace Go.Proofs.YtglhcnhenhfkiaaDoor
open Go.RowKit

/-- A number as a counter. -/
def cCut (n : Int) : Int := if n < 0 then 0 else if 999999 < n then 999999 else n
theorem cCut_bd (n : Int) : 0 ≤ cCut n ∧ cCut n ≤ 999999 := by unfold cCut; split <;> (try split) <;> omega
theorem cCut_id (n : Int) (h0 : 0 ≤ n) (h1 : n ≤ 999999) : cCut n = n := by unfold cCut; rw [if_neg (by omega), if_neg (by omega)]
def cAdd (a b : Int) : Int := cCut (cCut a + cCut b)
def cOver (a b : Int) : Bool := decide (999999 < cCut a + cCut b)
theorem ret_int {k : IntKind} {a b : Int} (h : a = b) : Ending.returned (.int k a) = .returned (.int k b) := by rw [h]

set_option maxHeartbeats 400000 in
theorem cut_any (n : Int) (w : World) :
    Calls Tryd.prog 11 #[.int .i64 n] w fun e w' => e = .returned (.int .i64 (cCut n)) ∧ w = w' := by
  by_cases h0 : n < 0
  · go_enter Tryd.func11, Tryd.ntmps11
    go_wp2
    go_ret
    exact ⟨ret_int (by simp [cCut, h0]), rfl⟩
  · by_cases h1 : 999999 < n
    · go_enter Tryd.func11, Tryd.ntmps11
      go_wp2
      go_ret
      exact ⟨ret_int (by unfold cCut; rw [if_neg (by omega), if_pos h1]), rfl⟩
    · go_enter Tryd.func11, Tryd.ntmps11
      go_wp2
      go_ret
      exact ⟨ret_int (by unfold cCut; rw [if_neg (by omega), if_neg (by omega)]), rfl⟩

set_option maxHeartbeats 400000 in
theorem add_any (a b : Int) (w : World) :
    Calls Tryd.prog 9 #[.int .i64 a, .int .i64 b] w fun e w' => e = .returned (.tuple #[.int .i64 (cAdd a b), .bool (cOver a b)]) ∧ w = w' := by
  have ha := cCut_bd a
  have hb := cCut_bd b
  go_enter Tryd.func9, Tryd.ntmps9
  go_wp2_with (go_at_call 11; refine (cut_any _ _).mono ?_; rintro e w' ⟨rfl, rfl⟩)
  all_goals go_ret2
  all_goals exact ⟨rfl, rfl⟩
end Go.Proofs.YtglhcnhenhfkiaaDoor

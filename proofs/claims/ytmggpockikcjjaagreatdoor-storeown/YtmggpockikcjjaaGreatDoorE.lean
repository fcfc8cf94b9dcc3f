/-
  errors.As at this dump: a nil error is none.
-/
import Derived.Test.YtmggpockikcjjaaGreatDoorA
import Derived.LaidEql
import Derived.Stop.Asserts
import Derived.RowKitTokens
namespace Go.Proofs.YtmggpockikcjjaaGreatDoor
open Go.RowKit Go.Extern.Stop Go.Stop Go.Extern

/-- A fault that wraps a number. -/
def flt (e : Int) : Value := .iface 110 (.agg #[.int .i64 e])

theorem as_nil (t : Value) (w : World) :
    Calls Tryz.prog 62 #[.nilIface, t] w fun e w' => e = .returned (.bool false) ∧ w' = w := by
  go_enter Tryz.func62, Tryz.ntmps62
  go_wp2
  go_ret
  exact ⟨rfl, rfl⟩

end Go.Proofs.YtmggpockikcjjaaGreatDoor

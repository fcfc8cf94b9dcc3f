/-
  A call of a Go function, by its contract, at a step of a region that draws its order.
-/
import Derived.Test.YtmnbepapgghdaaaGreatK02
import Derived.Deep.RegionLaw
namespace Go.Proofs.YtmnbepapgghdaaaGreat
open Go.RowKit

theorem enter_of {f : FuncId} {fn : Func} (hf : Tryz.prog.funcs[f]? = some fn) (hname : (fn.name == "runtime.NumGoroutine") = false) (hb : fn.body.isSome = true) (args : Array Value) (w : World) : (callFunc f args).run Tryz.prog w = .ok (.enter f args) w := by
  have h1 : fn.name ≠ "runtime.NumGoroutine" := by simpa using hname
  have h2 : fn.body ≠ none := fun e => by rw [e] at hb; cases hb
  simp [callFunc, hf, h1, h2]
theorem step_call {ops : Array Oper} {o : Oper} {a : Act} {K : Act → World → Prop} {Q : Exit → Act → World → Prop} {E : Prop} (w : World) (hgd : o.guard = none) (f : FuncId) (xs : Array Operand) (ats : Array TypeId)
    (ho : o.op = .call { callee := .value (.func f), args := xs, argTypes := ats }) (args : Array Value) (ha : (xs.toList.map a.eval).toArray = args) (hrun : (callFunc f args).run Tryz.prog w = .ok (.enter f args) w) {R : Value → World → Prop} (hC : Calls Tryz.prog f args w fun e w' => ∃ v, e = .returned v ∧ R v w')
    (h : ∀ v w', R v w' → K (a.put o.dst v) w') : if Region.wanted o (yielded ops a.tmps) = true then Oper.wp Tryz.prog o a w K Q else E := by
  have ha : xs.map a.eval = args := by rw [← ha]; exact (Array.toList_inj.1 (by rw [Array.toList_map]))
  subst ha
  have hw : Region.wanted o (yielded ops a.tmps) = true := by simp [Region.wanted, hgd]
  rw [if_pos hw]
  have hx : (execOp a.eval o).run Tryz.prog w = .ok (.enter f (xs.map a.eval)) w := by
    simp [execOp, ho, resolve, invoke, Deferred.ofValue, Act.eval, hrun]
  unfold Oper.wp
  rw [hx]
  exact hC.mono fun e w' hh => by
    obtain ⟨v, rfl, hv⟩ := hh
    exact h v w' hv
theorem enter50 (args : Array Value) (w : World) : (callFunc 50 args).run Tryz.prog w = .ok (.enter 50 args) w := enter_of Tryz.func50 (by kernel_rfl) (by kernel_rfl) args w
theorem enter76 (args : Array Value) (w : World) : (callFunc 76 args).run Tryz.prog w = .ok (.enter 76 args) w := enter_of Tryz.func76 (by kernel_rfl) (by kernel_rfl) args w
theorem enter81 (args : Array Value) (w : World) : (callFunc 81 args).run Tryz.prog w = .ok (.enter 81 args) w := enter_of Tryz.func81 (by kernel_rfl) (by kernel_rfl) args w
theorem enter93 (args : Array Value) (w : World) : (callFunc 93 args).run Tryz.prog w = .ok (.enter 93 args) w := enter_of Tryz.func93 (by kernel_rfl) (by kernel_rfl) args w
theorem enter99 (args : Array Value) (w : World) : (callFunc 99 args).run Tryz.prog w = .ok (.enter 99 args) w := enter_of Tryz.func99 (by kernel_rfl) (by kernel_rfl) args w
end Go.Proofs.YtmnbepapgghdaaaGreat

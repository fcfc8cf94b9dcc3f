/-
  The walk of WireOnce at a byte that came in.
-/
import Derived.Test.YthiojbfhodnlgaaDoorD
namespace Go.Proofs.YthiojbfhodnlgaaDoor
open Go.RowKit

theorem wireOnce_u8 (s0 t0 : List UInt8) (x : Int) (w : World) (T : Tabs w) (h : (Lit.int .u8 x).wf = true) :
    Calls Tryd.prog 6 #[.string ⟨s0.toArray⟩, .string ⟨t0.toArray⟩, .int .u8 x] w fun e w' => e = .returned (.bool true) ∧ Below w.heap.size w w' := by
  have hx : 0 ≤ x ∧ x < 256 := by
    have h1 : IntKind.u8.min = 0 := by decide
    have h2 : IntKind.u8.max = 255 := by decide
    simp [Lit.wf, h1, h2] at h
    omega
  obtain ⟨n, rfl⟩ : ∃ n : Nat, x = n := ⟨x.toNat, by omega⟩
  exact wireOnce_any s0 t0 n w T (by omega)
end Go.Proofs.YthiojbfhodnlgaaDoor

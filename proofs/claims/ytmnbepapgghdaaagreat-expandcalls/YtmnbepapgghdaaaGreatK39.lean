/-
  Arguments that came in, read as plain lists: two texts.
-/
import Derived.Test.YtmnbepapgghdaaaGreatK38
namespace Go.Proofs.YtmnbepapgghdaaaGreat
open Go.RowKit Go.Deep Go.ChangeShapes Go.WideShapes Go.Joins

theorem undS2 : Tryz.prog.underlying 56 = some (.array 2 9) := by kernel_rfl
theorem celS2 : Tryz.prog.cellsOf 56 = 2 := by kernel_rfl
theorem cel9 : Tryz.prog.cellsOf 9 = 1 := by kernel_rfl
set_option maxRecDepth 100000 in
theorem view_s2 {H : Type} {enc : TypeId × Value → H} {W : World} {r : Reach} {b0 : Nat} {v : Value} {d : DataW H} {p : List MemPlace} (hv : Value.okWide Tryz.prog W r b0 56 v)
    (h : DataW.Trod enc Tryz.prog W 0 (fun _ => true) true 56 v d p) : ∃ x y : By, v = .agg #[.string ⟨x.toArray⟩, .string ⟨y.toArray⟩] ∧ x.length ≤ 9223372036854775807 ∧ y.length ≤ 9223372036854775807 := by
  simp only [Value.okWide, undS2] at hv
  obtain ⟨cs, rfl, hsz, _⟩ := hv
  obtain ⟨c0, c1, rfl⟩ := two_of (hsz.trans celS2)
  obtain ⟨fuel, hf⟩ := h
  obtain ⟨xs, m, _, _, _, hl, hall⟩ := DataW.trod_array undS2 hf
  have h0 := hall 0 (by omega)
  have h1 := hall 1 (by omega)
  rw [cel9] at h0 h1
  obtain ⟨y0, hy0⟩ : ∃ y, xs[0]? = some y := ⟨_, List.getElem?_eq_getElem (by omega)⟩
  obtain ⟨y1, hy1⟩ : ∃ y, xs[1]? = some y := ⟨_, List.getElem?_eq_getElem (by omega)⟩
  rw [hy0] at h0
  rw [hy1] at h1
  obtain ⟨s0, e0, _, z0⟩ := DataW.trod_string Tryz.underlying9 h0
  obtain ⟨s1, e1, _, z1⟩ := DataW.trod_string Tryz.underlying9 h1
  have n0 : c0 = .string s0 := List.head_eq_of_cons_eq (show [c0] = [.string s0] from e0)
  have n1 : c1 = .string s1 := List.head_eq_of_cons_eq (show [c1] = [.string s1] from e1)
  unfold maxLen at z0 z1
  rw [n0, n1]
  refine ⟨s0.data.toList, s1.data.toList, by rw [bytes_list s0, bytes_list s1], ?_, ?_⟩
  · have : s0.data.toList.length = s0.size := Array.length_toList
    omega
  · have : s1.data.toList.length = s1.size := Array.length_toList
    omega
end Go.Proofs.YtmnbepapgghdaaaGreat

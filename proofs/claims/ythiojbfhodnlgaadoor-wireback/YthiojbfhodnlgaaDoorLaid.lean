/-
  What the rows list of the package-level variables gives the walks: the library's powers of ten, and the handle of the type error; a world that meets the list.
-/
import Derived.Test.YthiojbfhodnlgaaDoorT
import Derived.Test.YthiojbfhodnlgaaDoorTie
import Derived.Lib.LaidCase
import Derived.ChangeSame
import Derived.ChangeVars
import Derived.LaidLaws
import Derived.LaidHandle
import Derived.LaidMore
import Derived.Lay
namespace Go.Proofs.YthiojbfhodnlgaaDoor
open Go.RowKit Go.Sort Go.Shelf Go.Lib Go.ChangeShapes

/-- The list that all rows of this seat bear: three tables of the library's, and the handle. -/
def laid3 : List (String × DataW Unit) := [("math/bits.deBruijn32tab", Rows.laid_math_bits_deBruijn32tab), ("math/bits.deBruijn64tab", Rows.laid_math_bits_deBruijn64tab), ("internal/strconv.uint64pow10", Rows.laid_internal_strconv_uint64pow10)]
def laid4 : List (String × DataW Unit) := [("math/bits.deBruijn32tab", Rows.laid_math_bits_deBruijn32tab), ("math/bits.deBruijn64tab", Rows.laid_math_bits_deBruijn64tab), ("internal/strconv.uint64pow10", Rows.laid_internal_strconv_uint64pow10), ("errors.errorType", Rows.laid_errors_errorType)]
theorem pow_eq : (Rows.laid_internal_strconv_uint64pow10 : DataW Unit) = tabData .u64 pow10Tab := by kernel_rfl
theorem gPowT : (Tryd.prog.globals[1]?).map (·.type) = some 112 := by kernel_rfl
theorem gBits : Tryd.prog.globalNamed "math/bits.deBruijn64tab" = some 3 := by kernel_rfl
theorem gEty : Tryd.prog.globalNamed "errors.errorType" = some 0 := by kernel_rfl
theorem cells105 : Tryd.prog.cellsOf 105 = 1 := by kernel_rfl
theorem cells112 : Tryd.prog.cellsOf 112 = 20 := by kernel_rfl
theorem eRt : (Tryd.prog.cutTypes.find? (·.1 == "internal/reflectlite.rtype")).map (·.2) = some 91 := by kernel_rfl
theorem eRow : ((List.range 148).filter fun t => Tryd.prog.rowNamed t [101, 114, 114, 111, 114]) = [44] := by kernel_rfl
theorem eSize : Tryd.prog.types.size = 148 := by kernel_rfl
theorem block_of_var {W : World} {n : String} {g : Nat} {cs : Array Value} (hg : Tryd.prog.globalNamed n = some g) (h : W.var? Tryd.prog n = some cs) : ∃ t fr, W.heap[g]? = some (.cells cs t fr) := by
  simp only [World.var?, hg, Option.bind_some] at h
  split at h
  · rename_i c t fr he
    obtain rfl := Option.some.inj h
    exact ⟨t, fr, he⟩
  · cases h
theorem tabs_of_laid {W : World} (h0 : laidMetH Tryd.prog laid4 W) : Tabs W := by
  have h' : laidMet Tryd.prog laid3 W ∧ handlesMet Tryd.prog [("errors.errorType", Rows.laid_errors_errorType)] W := h0
  obtain ⟨h, hh⟩ := h'
  refine ⟨?_, ?_, ?_⟩
  · obtain ⟨g, t, cs, fuel, p, hg, hty, hvar, hd⟩ := laidMet.reads h (n := "internal/strconv.uint64pow10") (d := Rows.laid_internal_strconv_uint64pow10) (by simp [laid3])
    obtain rfl := Option.some.inj (gPow.symm.trans hg)
    obtain rfl := Option.some.inj (gPowT.symm.trans hty)
    rw [pow_eq] at hd
    unfold TabIs
    rw [hvar, ← cells_of_tab Tryd.underlying112 Tryd.underlying105 cells105 cells112 hd]
  · obtain ⟨name, u, ty, e1, e2, e3, e4, e5⟩ := hh _ (List.mem_singleton.2 rfl)
    have en : name = [101, 114, 114, 111, 114] := (Option.some.inj e1).symm
    subst en
    obtain rfl := Option.some.inj (eRt.symm.trans e2)
    have hm : ty ∈ (List.range 148).filter fun t => Tryd.prog.rowNamed t [101, 114, 114, 111, 114] := List.mem_filter.2 ⟨List.mem_range.2 (by rw [← eSize]; exact e3), e4⟩
    rw [eRow] at hm
    obtain rfl := List.mem_singleton.1 hm
    have hty : typeHandle Tryd.prog 44 = .pointer (some ⟨4, 44, none⟩) := by kernel_rfl
    rw [hty] at e5
    unfold Ety
    simpa using World.var?_cell gEty e5 0
  · obtain ⟨g, t, cs, fuel, p, hg, hty, hvar, hd⟩ := laidMet.reads h (n := "math/bits.deBruijn64tab") (d := Rows.laid_math_bits_deBruijn64tab) (by simp [laid3])
    obtain rfl := Option.some.inj (gBits.symm.trans hg)
    obtain ⟨t', fr, hb⟩ := block_of_var gBits hvar
    have := (Array.getElem?_eq_some_iff.1 hb).1
    omega

/-- A world that meets the list: the heap that the door's own run leaves. -/
noncomputable def laidW (os : Os) : World := World.doorLaid Tryd.prog 400 os
theorem laidW_os (os : Os) : (laidW os).os = os := rfl
set_option maxRecDepth 100000 in
theorem laidW_met (os : Os) (args : Array Value) : laidMetH Tryd.prog laid4 ((laidW os).forCall (fun _ _ => 0) ⟨#[], args, []⟩).memory :=
  laidMetH_of_parts (laidMet_of_run' 8 (by kernel_rfl) (by kernel_rfl)) (by kernel_rfl)
end Go.Proofs.YthiojbfhodnlgaaDoor

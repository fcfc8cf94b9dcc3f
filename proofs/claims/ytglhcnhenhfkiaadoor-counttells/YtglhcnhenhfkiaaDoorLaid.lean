/-
  What the rows list of the package-level variables gives the walks: the tables' cells.
-/
import Derived.Test.YtglhcnhenhfkiaaDoorT4
import Derived.Lib.LaidCase
import Derived.Lib.LaidU8
import Derived.ChangeSame
namespace Go.Proofs.YtglhcnhenhfkiaaDoor
open Go.RowKit Go.Sort Go.Shelf Go.Lib Go.ChangeShapes

/-- The list that all rows of this seat bear. -/
def laid7 : List (String × DataW Unit) := [("math/bits.deBruijn32tab", Rows.laid_math_bits_deBruijn32tab), ("math/bits.deBruijn64tab", Rows.laid_math_bits_deBruijn64tab), ("internal/strconv.uint64pow10", Rows.laid_internal_strconv_uint64pow10), ("unicode/utf8.acceptRanges", Rows.laid_unicode_utf8_acceptRanges), ("stet/count.numerals", Rows.laid_stet_count_numerals), ("unicode.CaseRanges", Rows.laid_unicode_CaseRanges), ("unicode/utf8.first", Rows.laid_unicode_utf8_first)]

theorem caseRanges_eq : Rows.laid_unicode_CaseRanges = caseData := by kernel_rfl
theorem first_eq : Rows.laid_unicode_utf8_first = firstData := by kernel_rfl
theorem accept_eq : Rows.laid_unicode_utf8_acceptRanges = acceptData := by kernel_rfl
theorem pow_eq : (Rows.laid_internal_strconv_uint64pow10 : DataW Unit) = tabData .u64 pow10Tab := by kernel_rfl
theorem xCase : CaseExtra Tryd.prog Tryd.lays159_ren := ⟨by kernel_rfl, by kernel_rfl, by kernel_rfl, by kernel_rfl, by kernel_rfl, by kernel_rfl⟩
theorem xU8 : U8Extra Tryd.prog Tryd.lays159_ren := ⟨by kernel_rfl, by kernel_rfl, by kernel_rfl, by kernel_rfl, by kernel_rfl, by kernel_rfl, by kernel_rfl⟩
theorem gNum : Tryd.prog.globalNamed "stet/count.numerals" = some 0 := by kernel_rfl
theorem gNumT : (Tryd.prog.globals[0]?).map (·.type) = some 44 := by kernel_rfl
theorem gPowT : (Tryd.prog.globals[2]?).map (·.type) = some 84 := by kernel_rfl
theorem gBits : Tryd.prog.globalNamed "math/bits.deBruijn64tab" = some 7 := by kernel_rfl
theorem cells44 : Tryd.prog.cellsOf 44 = 26 := by kernel_rfl
theorem cells43 : Tryd.prog.cellsOf 43 = 2 := by kernel_rfl
theorem cells3 : Tryd.prog.cellsOf 3 = 1 := by kernel_rfl
theorem cells9 : Tryd.prog.cellsOf 9 = 1 := by kernel_rfl
theorem cells71 : Tryd.prog.cellsOf 71 = 1 := by kernel_rfl
theorem cells84 : Tryd.prog.cellsOf 84 = 20 := by kernel_rfl

theorem block_of_var {W : World} {n : String} {g : Nat} {cs : Array Value} (hg : Tryd.prog.globalNamed n = some g) (h : W.var? Tryd.prog n = some cs) : ∃ t fr, W.heap[g]? = some (.cells cs t fr) := by
  simp only [World.var?, hg, Option.bind_some] at h
  split at h
  · rename_i c t fr he
    obtain rfl := Option.some.inj h
    exact ⟨t, fr, he⟩
  · cases h

/-- One numeral's struct, cell for cell. -/
theorem num_cells {W : World} {fuel : Nat} {cs : List Value} {v : Int} {s : List UInt8} {q : List MemPlace}
    (h : DataW.trod (fun _ => ()) Tryd.prog W 0 (fun _ => true) false fuel 43 cs = some (.agg [.lit (.int .i64 v), .lit (.string s)], q)) : cs = [.int .i64 v, .string ⟨s.toArray⟩] := by
  obtain ⟨y0, y1, n, hx, hl, h0, h1⟩ := trod_struct2 Tryd.underlying43 h
  rw [cells43] at hl
  simp only [cells3, cells9] at h0 h1
  obtain ⟨z, e0, e0', _⟩ := DataW.trod_int Tryd.underlying3 h0
  obtain ⟨b, e1, e1', _⟩ := DataW.trod_string Tryd.underlying9 h1
  subst e0' e1'
  have hx1 := congrArg Prod.fst hx
  simp only [DataW.agg.injEq, List.cons.injEq, DataW.lit.injEq, Lit.int.injEq, Lit.string.injEq, true_and, and_true] at hx1
  obtain ⟨rfl, rfl⟩ := hx1
  match cs, hl with
  | [c0, c1], _ =>
    simp at e0 e1
    subst e0 e1
    rfl

theorem pairs (f : Nat → List Value) : ∀ (n : Nat) (l : List Value), l.length = 2 * n → (∀ i, i < n → (l.drop (i * 2)).take 2 = f i) → l = (List.range n).flatMap f
  | 0, l, hl, _ => by simpa using hl
  | n + 1, l, hl, h => by
    have h1 := pairs f n (l.take (2 * n)) (by simp; omega) (fun i hi => by
      rw [List.drop_take, List.take_take, Nat.min_eq_left (by omega)]
      exact h i (by omega))
    have h2 := h n (by omega)
    rw [List.take_of_length_le (by simp; omega), Nat.mul_comm] at h2
    rw [List.range_succ, List.flatMap_append, ← h1]
    simp only [List.flatMap_cons, List.flatMap_nil, List.append_nil, ← h2]
    exact (List.take_append_drop _ _).symm
theorem numCells_eq : ((List.range 13).flatMap fun i => [.int .i64 (numAt i).1, .string ⟨(numAt i).2.toArray⟩]) = numCells.toList := by kernel_rfl

theorem num_row {W : World} (h : VarReads Tryd.prog W "stet/count.numerals" Rows.laid_stet_count_numerals) : ∃ t fr, W.heap[0]? = some (.cells numCells t fr) := by
  obtain ⟨g, t, cs, fuel, p, hg, hty, hvar, hd⟩ := h
  obtain rfl := Option.some.inj (gNum.symm.trans hg)
  obtain rfl := Option.some.inj (gNumT.symm.trans hty)
  have hat : ∀ i, i < 13 → (cs.toList.drop (i * 2)).take 2 = [.int .i64 (numAt i).1, .string ⟨(numAt i).2.toArray⟩] := by
    intro i hi
    obtain ⟨fuel', d, q, hdi, he⟩ := array_elem Tryd.underlying44 hd i hi
    rw [cells43] at he
    have hd2 : d = .agg [.lit (.int .i64 (numAt i).1), .lit (.string (numAt i).2)] := by
      obtain rfl | rfl | rfl | rfl | rfl | rfl | rfl | rfl | rfl | rfl | rfl | rfl | rfl : i = 0 ∨ i = 1 ∨ i = 2 ∨ i = 3 ∨ i = 4 ∨ i = 5 ∨ i = 6 ∨ i = 7 ∨ i = 8 ∨ i = 9 ∨ i = 10 ∨ i = 11 ∨ i = 12 := by omega
      all_goals exact (Option.some.inj hdi).symm
    subst hd2
    exact num_cells he
  have hlen : cs.toList.length = 26 := by
    have := DataW.trod_array Tryd.underlying44 hd
    obtain ⟨xs, m, _, _, hl, _⟩ := this
    rw [cells44] at hl
    exact hl
  have hcs : cs = numCells := by
    apply Array.toList_inj.1
    rw [← numCells_eq]
    exact pairs _ 13 _ hlen hat
  subst hcs
  exact block_of_var gNum hvar

theorem tabs_of_laid {W : World} (h : laidMet Tryd.prog laid7 W) : Tabs W := by
  refine ⟨num_row (laidMet.reads h (by simp [laid7])), ?_, ?_, ?_, ?_⟩
  · obtain ⟨g, t, cs, fuel, p, hg, hty, hvar, hd⟩ := laidMet.reads h (n := "internal/strconv.uint64pow10") (d := Rows.laid_internal_strconv_uint64pow10) (by simp [laid7])
    obtain rfl := Option.some.inj (gPow.symm.trans hg)
    obtain rfl := Option.some.inj (gPowT.symm.trans hty)
    rw [pow_eq] at hd
    unfold TabIs
    rw [hvar, ← cells_of_tab Tryd.underlying84 Tryd.underlying71 cells71 cells84 hd]
  · exact caseVar_of_reads { Tryd.lays159 with } Tryd.underlying98 xCase (caseRanges_eq ▸ laidMet.reads h (by simp [laid7]))
  · exact utf8Tabs_of_reads { Tryd.lays159 with } xU8 (first_eq ▸ laidMet.reads h (by simp [laid7])) (accept_eq ▸ laidMet.reads h (by simp [laid7]))
  · obtain ⟨g, t, cs, fuel, p, hg, hty, hvar, hd⟩ := laidMet.reads h (n := "math/bits.deBruijn64tab") (d := Rows.laid_math_bits_deBruijn64tab) (by simp [laid7])
    obtain rfl := Option.some.inj (gBits.symm.trans hg)
    obtain ⟨t', fr, hb⟩ := block_of_var gBits hvar
    have := (Array.getElem?_eq_some_iff.1 hb).1
    omega
end Go.Proofs.YtglhcnhenhfkiaaDoor

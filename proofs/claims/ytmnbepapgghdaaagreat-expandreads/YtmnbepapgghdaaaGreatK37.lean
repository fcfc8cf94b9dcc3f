/-
  Arguments that came in, read as plain lists: files; two bytes.
-/
import Derived.Test.YtmnbepapgghdaaaGreatK36
import Derived.Test.YtmnbepapgghdaaaGreatK22
namespace Go.Proofs.YtmnbepapgghdaaaGreat
open Go.RowKit Go.Deep Go.ChangeShapes Go.WideShapes Go.Joins

theorem cel45 : Tryz.prog.cellsOf 45 = 2 := by kernel_rfl

namespace Fl
theorem view_files {H : Type} {enc : TypeId × Value → H} {W : World} {d : DataW H} {p : List MemPlace} {A : Option Addr} {len cap : Nat}
    (h : DataW.Trod enc Tryz.prog W 0 (fun _ => true) true 22 (.slice A len cap) d p) :
    ∃ fs : List Fl, len = fs.length ∧ Rd W A fs ∧ (∀ f ∈ fs, f.1.length ≤ 9223372036854775807 ∧ f.2.length ≤ 9223372036854775807) ∧ fs.length ≤ 9223372036854775807 := by
  obtain ⟨fuel, hf⟩ := h
  rcases open_slice_pairs Tryz.underlying22 Tryz.underlying45 cel45 rfl rfl Tryz.cells9 Tryz.cells9 hf with ⟨hcs, _⟩ | ⟨a, l, c, m, n, V0, V1, D0, D1, P0, P1, hcs, _, hl, hm, hmm, _, hall⟩
  · simp [Value.cells] at hcs
    obtain ⟨rfl, rfl, rfl⟩ := hcs
    exact ⟨[], rfl, fun h => absurd h (by simp), (fun f hf => by cases hf), by simp⟩
  · simp [Value.cells] at hcs
    obtain ⟨rfl, rfl, rfl⟩ := hcs
    simp only [if_true] at hmm
    unfold maxLen at hm
    have each : ∀ i, i < len → ∃ f : Fl, W.cell? (a.add (i * 2)) = some (.string ⟨f.1.toArray⟩) ∧ W.cell? (a.add (i * 2 + 1)) = some (.string ⟨f.2.toArray⟩) ∧ f.1.length ≤ 9223372036854775807 ∧ f.2.length ≤ 9223372036854775807 := fun i hi => by
      obtain ⟨c0, c1, t0, t1⟩ := hall i (by omega)
      obtain ⟨s0, e0, _, z0⟩ := DataW.trod_string Tryz.underlying9 t0
      obtain ⟨s1, e1, _, z1⟩ := DataW.trod_string Tryz.underlying9 t1
      simp only [List.cons.injEq, and_true] at e0 e1
      unfold maxLen at z0 z1
      refine ⟨(s0.data.toList, s1.data.toList), by rw [c0, e0, bytes_list], by rw [c1, e1, bytes_list], ?_, ?_⟩
      · show s0.data.toList.length ≤ _
        have := size_list s0
        omega
      · show s1.data.toList.length ≤ _
        have := size_list s1
        omega
    obtain ⟨F, hF⟩ := choose_lt (α := Fl) each
    refine ⟨(List.range len).map F, by simp, fun h0 => ?_, fun f hf => ?_, by simp; omega⟩
    · have h0' : 0 < len := by simpa using h0
      obtain ⟨b, o, rfl⟩ := addr_lit (by have := (hF 0 h0').1; simpa [Addr.add] using this)
      refine ⟨b, o, rfl, fun i f hi => ?_⟩
      have hlt : i < len := by
        rcases Nat.lt_or_ge i len with q | q
        · exact q
        · rw [List.getElem?_eq_none (by simpa using q)] at hi; cases hi
      have e : F i = f := by
        rw [List.getElem?_map, List.getElem?_range hlt] at hi
        simpa using hi
      have := hF i hlt
      rw [e, add_plain, add_plain] at this
      exact ⟨this.1, by rw [Nat.add_assoc]; exact this.2.1⟩
    · obtain ⟨i, hi, rfl⟩ := List.mem_map.1 hf
      exact (hF i (by simpa using hi)).2.2
set_option maxRecDepth 100000 in
theorem view_file {H : Type} {enc : TypeId × Value → H} {W : World} {r : Reach} {b0 : Nat} {v : Value} {d : DataW H} {p : List MemPlace} (hv : Value.okWide Tryz.prog W r b0 45 v)
    (h : DataW.Trod enc Tryz.prog W 0 (fun _ => true) true 45 v d p) : ∃ f : Fl, v = .agg #[.string ⟨f.1.toArray⟩, .string ⟨f.2.toArray⟩] ∧ f.1.length ≤ 9223372036854775807 ∧ f.2.length ≤ 9223372036854775807 := by
  obtain ⟨c0, c1, y0, y1, m, rfl, _, _, t0, t1⟩ := open_agg2 Tryz.underlying45 (by kernel_rfl) cel45 hv h
  obtain ⟨s0, e0, _, z0⟩ := DataW.trod_string Tryz.underlying9 t0
  obtain ⟨s1, e1, _, z1⟩ := DataW.trod_string Tryz.underlying9 t1
  simp only [List.cons.injEq, and_true] at e0 e1
  subst e0 e1
  unfold maxLen at z0 z1
  refine ⟨(s0.data.toList, s1.data.toList), by rw [bytes_list s0, bytes_list s1], ?_, ?_⟩
  · show s0.data.toList.length ≤ _
    have := size_list s0
    omega
  · show s1.data.toList.length ≤ _
    have := size_list s1
    omega
end Fl
theorem u8_bounds {n : Int} (h : (Lit.int .u8 n).wf = true) : ∃ x : Nat, n = (x : Int) ∧ x ≤ 255 := by
  simp [Lit.wf, IntKind.min, IntKind.max, IntKind.signed, IntKind.bits] at h
  exact ⟨n.toNat, by omega, by omega⟩
theorem und49 : Tryz.prog.underlying 49 = some (.array 2 5) := by kernel_rfl
theorem und5 : Tryz.prog.underlying 5 = some (.int .u8) := by kernel_rfl
theorem cel49 : Tryz.prog.cellsOf 49 = 2 := by kernel_rfl
theorem cel5 : Tryz.prog.cellsOf 5 = 1 := by kernel_rfl
theorem two_of {cs : Array Value} (h : cs.size = 2) : ∃ a b, cs = #[a, b] := by
  obtain ⟨l⟩ := cs
  match l, h with
  | [a, b], _ => exact ⟨a, b, rfl⟩
set_option maxRecDepth 100000 in
theorem view_u8x2 {H : Type} {enc : TypeId × Value → H} {W : World} {r : Reach} {b0 : Nat} {v : Value} {d : DataW H} {p : List MemPlace} (hv : Value.okWide Tryz.prog W r b0 49 v)
    (h : DataW.Trod enc Tryz.prog W 0 (fun _ => true) true 49 v d p) : ∃ x y : Nat, v = .agg #[.int .u8 x, .int .u8 y] ∧ x ≤ 255 ∧ y ≤ 255 := by
  simp only [Value.okWide, und49] at hv
  obtain ⟨cs, rfl, hsz, _⟩ := hv
  obtain ⟨c0, c1, rfl⟩ := two_of (hsz.trans cel49)
  obtain ⟨fuel, hf⟩ := h
  obtain ⟨xs, m, _, _, _, hl, hall⟩ := DataW.trod_array und49 hf
  have h0 := hall 0 (by omega)
  have h1 := hall 1 (by omega)
  rw [cel5] at h0 h1
  obtain ⟨y0, hy0⟩ : ∃ y, xs[0]? = some y := ⟨_, List.getElem?_eq_getElem (by omega)⟩
  obtain ⟨y1, hy1⟩ : ∃ y, xs[1]? = some y := ⟨_, List.getElem?_eq_getElem (by omega)⟩
  rw [hy0] at h0
  rw [hy1] at h1
  obtain ⟨s0, e0, _, z0⟩ := DataW.trod_int und5 h0
  obtain ⟨s1, e1, _, z1⟩ := DataW.trod_int und5 h1
  have n0 : c0 = .int .u8 s0 := List.head_eq_of_cons_eq (show [c0] = [.int .u8 s0] from e0)
  have n1 : c1 = .int .u8 s1 := List.head_eq_of_cons_eq (show [c1] = [.int .u8 s1] from e1)
  rw [n0, n1]
  obtain ⟨x, rfl, hx⟩ := u8_bounds z0
  obtain ⟨y, rfl, hy⟩ := u8_bounds z1
  exact ⟨x, y, rfl, hx, hy⟩
end Go.Proofs.YtmnbepapgghdaaaGreat

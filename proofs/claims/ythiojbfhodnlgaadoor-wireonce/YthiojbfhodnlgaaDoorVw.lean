/-
  Arguments that came in, read as plain lists: a slice of files, a slice of texts.
-/
import Derived.Test.YthiojbfhodnlgaaDoorY
import Derived.Deep.SlicePairs
import Derived.Lib.SmallJoins
import Derived.ProofKit
import Derived.OpenShut
namespace Go.Proofs.YthiojbfhodnlgaaDoor
open Go.RowKit Go.Deep Go.ChangeShapes Go.WideShapes Go.Joins

theorem bytes_list (s : ByteArray) : Value.string s = .string ⟨s.data.toList.toArray⟩ := by
  obtain ⟨⟨l⟩⟩ := s; rfl
theorem size_list (s : ByteArray) : s.data.toList.length = s.size := Array.length_toList
theorem addr_lit {w : World} {a : Addr} {v : Value} (h : w.cell? a = some v) : ∃ b o, a = ⟨b, o, none⟩ := by
  have := World.cell?_spot h
  obtain ⟨b, o, s⟩ := a
  simp at this
  subst this
  exact ⟨b, o, rfl⟩
theorem add_plain' (b o j : Nat) : (⟨b, o, none⟩ : Addr).add j = ⟨b, o + j, none⟩ := by unfold Addr.add; split <;> simp_all
theorem Tryd.cells55 : Tryd.prog.cellsOf 55 = 2 := by kernel_rfl
theorem Tryd.cells9 : Tryd.prog.cellsOf 9 = 1 := by kernel_rfl

theorem view_files {H : Type} {enc : TypeId × Value → H} {W : World} {d : DataW H} {p : List MemPlace} {A : Option Addr} {len cap : Nat}
    (h : DataW.Trod enc Tryd.prog W 0 (fun _ => true) true 28 (.slice A len cap) d p) :
    ∃ fs : List Fl, len = fs.length ∧ Rd W A fs ∧ (∀ f ∈ fs, f.1.length ≤ 9223372036854775807 ∧ f.2.length ≤ 9223372036854775807) ∧ fs.length ≤ 9223372036854775807 := by
  obtain ⟨fuel, hf⟩ := h
  rcases open_slice_pairs Tryd.underlying28 Tryd.underlying55 Tryd.cells55 rfl rfl Tryd.cells9 Tryd.cells9 hf with ⟨hcs, _⟩ | ⟨a, l, c, m, n, V0, V1, D0, D1, P0, P1, hcs, _, hl, hm, hmm, _, hall⟩
  · simp [Value.cells] at hcs
    obtain ⟨rfl, rfl, rfl⟩ := hcs
    exact ⟨[], rfl, fun h => absurd h (by simp), (fun f hf => by cases hf), by simp⟩
  · simp [Value.cells] at hcs
    obtain ⟨rfl, rfl, rfl⟩ := hcs
    simp only [if_true] at hmm
    unfold maxLen at hm
    have each : ∀ i, i < len → ∃ f : Fl, W.cell? (a.add (i * 2)) = some (.string ⟨f.1.toArray⟩) ∧ W.cell? (a.add (i * 2 + 1)) = some (.string ⟨f.2.toArray⟩) ∧ f.1.length ≤ 9223372036854775807 ∧ f.2.length ≤ 9223372036854775807 := fun i hi => by
      obtain ⟨c0, c1, t0, t1⟩ := hall i (by omega)
      obtain ⟨s0, e0, _, z0⟩ := DataW.trod_string Tryd.underlying9 t0
      obtain ⟨s1, e1, _, z1⟩ := DataW.trod_string Tryd.underlying9 t1
      simp only [List.cons.injEq, and_true] at e0 e1
      unfold maxLen at z0 z1
      refine ⟨(s0.data.toList, s1.data.toList), by rw [c0, e0, bytes_list], by rw [c1, e1, bytes_list], ?_, ?_⟩
      · show s0.data.toList.length ≤ _
        have := size_list s0
        omega
      · show s1.data.toList.length ≤ _
        have := size_list s1
        omega
    obtain ⟨F, hF⟩ := choose_lt (α := Fl) each
    refine ⟨(List.range len).map F, by simp, fun h0 => ?_, fun f hf => ?_, by simp; omega⟩
    · have h0' : 0 < len := by simpa using h0
      obtain ⟨b, o, rfl⟩ := addr_lit (by have := (hF 0 h0').1; simpa [Addr.add] using this)
      refine ⟨b, o, rfl, fun i f hi => ?_⟩
      have hlt : i < len := by
        rcases Nat.lt_or_ge i len with q | q
        · exact q
        · rw [List.getElem?_eq_none (by simpa using q)] at hi; cases hi
      have e : F i = f := by
        rw [List.getElem?_map, List.getElem?_range hlt] at hi
        simpa using hi
      have := hF i hlt
      rw [e, add_plain', add_plain'] at this
      exact ⟨this.1, by rw [Nat.add_assoc]; exact this.2.1⟩
    · obtain ⟨i, hi, rfl⟩ := List.mem_map.1 hf
      exact (hF i (by simpa using hi)).2.2

theorem view_texts {H : Type} {enc : TypeId × Value → H} {W : World} {d : DataW H} {p : List MemPlace} {A : Option Addr} {len cap : Nat}
    (h : DataW.Trod enc Tryd.prog W 0 (fun _ => true) true 25 (.slice A len cap) d p) :
    ∃ xs : List (List UInt8), len = xs.length ∧ RdS W A xs ∧ xs.length ≤ 9223372036854775807 := by
  obtain ⟨fuel, hf⟩ := h
  rcases open_slice Tryd.underlying25 hf with ⟨hcs, _⟩ | ⟨a, l, c, m, n, D, Pl, hcs, _, hl, hm, hmm, _, hall⟩
  · simp [Value.cells] at hcs
    obtain ⟨rfl, rfl, rfl⟩ := hcs
    exact ⟨[], rfl, fun h => absurd h (by simp), by simp⟩
  · simp [Value.cells] at hcs
    obtain ⟨rfl, rfl, rfl⟩ := hcs
    simp only [if_true] at hmm
    unfold maxLen at hm
    rw [Tryd.cells9] at hall
    have each : ∀ i, i < len → ∃ x : List UInt8, W.cell? (a.add i) = some (.string ⟨x.toArray⟩) := fun i hi => by
      obtain ⟨cs', h1, h2⟩ := hall i (by omega)
      obtain ⟨_, h3, h4⟩ := World.cells?_some h1
      obtain ⟨x, rfl, _⟩ := DataW.trod_string Tryd.underlying9 h2
      have := h4 0 (by omega)
      exact ⟨x.data.toList, by rw [← bytes_list]; simpa [Addr.add] using this⟩
    obtain ⟨F, hF⟩ := choose_lt (α := List UInt8) each
    refine ⟨(List.range len).map F, by simp, fun h0 => ?_, by simp; omega⟩
    have h0' : 0 < len := by simpa using h0
    obtain ⟨b, o, rfl⟩ := addr_lit (by have := hF 0 h0'; simpa [Addr.add] using this)
    refine ⟨b, o, rfl, fun i f hi => ?_⟩
    have hlt : i < len := by
      rcases Nat.lt_or_ge i len with q | q
      · exact q
      · rw [List.getElem?_eq_none (by simpa using q)] at hi; cases hi
    have e : F i = f := by
      rw [List.getElem?_map, List.getElem?_range hlt] at hi
      simpa using hi
    have := hF i hlt
    rwa [e, add_plain'] at this
end Go.Proofs.YthiojbfhodnlgaaDoor

/-
  Arguments that came in, read as plain lists: files, bools, lists of files, steps.
-/
import Derived.Test.YtmggpockikcjjaaGreatDoorSK
import Derived.Deep.SlicePairs
import Derived.Lib.SmallJoins
import Derived.ProofKit
import Derived.OpenShut
namespace Go.Proofs.YtmggpockikcjjaaGreatDoor
open Go.RowKit Go.Deep Go.ChangeShapes Go.WideShapes Go.Joins
open Dsk (RdC RdB)

theorem bytes_list (s : ByteArray) : Value.string s = .string ⟨s.data.toList.toArray⟩ := by
  obtain ⟨⟨l⟩⟩ := s; rfl
theorem size_list (s : ByteArray) : s.data.toList.length = s.size := Array.length_toList
theorem addr_lit {w : World} {a : Addr} {v : Value} (h : w.cell? a = some v) : ∃ b o, a = ⟨b, o, none⟩ := by
  have := World.cell?_spot h
  obtain ⟨b, o, s⟩ := a
  simp at this
  subst this
  exact ⟨b, o, rfl⟩
theorem add_plain' (b o j : Nat) : (⟨b, o, none⟩ : Addr).add j = ⟨b, o + j, none⟩ := by unfold Addr.add; split <;> simp_all
theorem add_add (a : Addr) (i j : Nat) : (a.add i).add j = a.add (i + j) := by
  unfold Addr.add
  by_cases hi : i = 0 <;> by_cases hj : j = 0 <;> simp [hi, hj, Nat.add_assoc]
theorem view_gen {H α : Type} [Inhabited α] {enc : TypeId × Value → H} {W : World} {d : DataW H} {p : List MemPlace} {A : Option Addr} {len cap : Nat} {T e k : Nat} (g : α → List Value) (Q : α → Prop) (hT : Tryz.prog.underlying T = some (.slice e)) (hk : Tryz.prog.cellsOf e = k) (hk0 : 0 < k)
    (hg : ∀ x, (g x).length = k) (hr : ∀ n cs y, DataW.trod enc Tryz.prog W 0 (fun _ => true) true n e cs = some y → cs.length = k → ∃ x, cs = g x ∧ Q x)
    (h : DataW.Trod enc Tryz.prog W 0 (fun _ => true) true T (.slice A len cap) d p) :
    ∃ xs : List α, len = xs.length ∧ (0 < xs.length → ∃ b o, A = some ⟨b, o, none⟩ ∧ ∀ i x, xs[i]? = some x → ∀ j v, (g x)[j]? = some v → W.cell? ⟨b, o + i * k + j, none⟩ = some v) ∧ (∀ x ∈ xs, Q x) ∧ xs.length ≤ 9223372036854775807 := by
  obtain ⟨fuel, hf⟩ := h
  rcases open_slice hT hf with ⟨hcs, _⟩ | ⟨a, l, c, m, n, D, Pl, hcs, _, hl, hm, hmm, _, hall⟩
  · simp [Value.cells] at hcs
    obtain ⟨rfl, rfl, rfl⟩ := hcs
    exact ⟨[], rfl, fun h => absurd h (by simp), (fun f hf => by cases hf), by simp⟩
  · simp [Value.cells] at hcs
    obtain ⟨rfl, rfl, rfl⟩ := hcs
    simp only [if_true] at hmm
    unfold maxLen at hm
    rw [hk] at hall
    have each : ∀ i, i < len → ∃ x : α, (∀ j v, (g x)[j]? = some v → W.cell? (a.add (i * k + j)) = some v) ∧ Q x := fun i hi => by
      obtain ⟨cs', h1, h2⟩ := hall i (by omega)
      obtain ⟨_, h3, h4⟩ := World.cells?_some h1
      obtain ⟨x, rfl, hq⟩ := hr _ _ _ h2 h3
      refine ⟨x, fun j v hj => ?_, hq⟩
      have hjl : j < k := by rw [← hg x]; exact (List.getElem?_eq_some_iff.1 hj).1
      have := h4 j hjl
      rw [hj] at this
      rw [← this, add_add]
    obtain ⟨F, hF⟩ := choose_lt each
    refine ⟨(List.range len).map F, by simp, fun h0 => ?_, fun x hx => ?_, by simp; omega⟩
    · have h0' : 0 < len := by simpa using h0
      obtain ⟨v0, hv0⟩ : ∃ v, (g (F 0))[0]? = some v := ⟨_, List.getElem?_eq_getElem (by rw [hg]; exact hk0)⟩
      obtain ⟨b, o, rfl⟩ := addr_lit (by have := (hF 0 h0').1 0 v0 hv0; simpa [Addr.add] using this)
      refine ⟨b, o, rfl, fun i x hi j v hj => ?_⟩
      have hlt : i < len := by
        rcases Nat.lt_or_ge i len with q | q
        · exact q
        · rw [List.getElem?_eq_none (by simpa using q)] at hi; cases hi
      have e : F i = x := by
        rw [List.getElem?_map, List.getElem?_range hlt] at hi
        simpa using hi
      have := (hF i hlt).1
      rw [e] at this
      have := this j v hj
      rwa [add_plain', ← Nat.add_assoc] at this
    · obtain ⟨i, hi, rfl⟩ := List.mem_map.1 hx
      exact (hF i (by simpa using hi)).2
theorem rdC_of {α : Type} {W : World} {A : Option Addr} {xs : List α} {f : α → Value} (h : 0 < xs.length → ∃ b o, A = some ⟨b, o, none⟩ ∧ ∀ i x, xs[i]? = some x → ∀ j v, [f x][j]? = some v → W.cell? ⟨b, o + i * 1 + j, none⟩ = some v) : RdC W A (xs.map f) := fun h0 => by
  obtain ⟨b, o, e, hc⟩ := h (by simpa using h0)
  refine ⟨b, o, e, fun i v hv => ?_⟩
  rw [List.getElem?_map] at hv
  cases hx : xs[i]? with
  | none => rw [hx] at hv; simp at hv
  | some x =>
    rw [hx] at hv
    simp at hv
    subst hv
    simpa using hc i x hx 0 (f x) rfl

theorem view_bools {H : Type} {enc : TypeId × Value → H} {W : World} {d : DataW H} {p : List MemPlace} {A : Option Addr} {len cap : Nat} (h : DataW.Trod enc Tryz.prog W 0 (fun _ => true) true 30 (.slice A len cap) d p) :
    ∃ xs : List Bool, len = xs.length ∧ RdB W A xs ∧ xs.length ≤ 9223372036854775807 := by
  obtain ⟨xs, h1, h2, _, h4⟩ := view_gen (k := 1) (fun x : Bool => [.bool x]) (fun _ => True) Tryz.underlying30 (by kernel_rfl) (by omega) (fun _ => rfl) (fun n cs y hy _ => by
    obtain ⟨s, rfl, _⟩ := DataW.trod_bool Tryz.underlying4 hy
    exact ⟨s, rfl, trivial⟩) h
  exact ⟨xs, h1, rdC_of h2, h4⟩
theorem Tryz.cells37 : Tryz.prog.cellsOf 37 = 2 := by kernel_rfl
theorem Tryz.cells9 : Tryz.prog.cellsOf 9 = 1 := by kernel_rfl

theorem view_files {H : Type} {enc : TypeId × Value → H} {W : World} {d : DataW H} {p : List MemPlace} {A : Option Addr} {len cap : Nat}
    (h : DataW.Trod enc Tryz.prog W 0 (fun _ => true) true 27 (.slice A len cap) d p) :
    ∃ fs : List Fl, len = fs.length ∧ Rd W A fs ∧ (∀ f ∈ fs, f.1.length ≤ 9223372036854775807 ∧ f.2.length ≤ 9223372036854775807) ∧ fs.length ≤ 9223372036854775807 := by
  obtain ⟨fuel, hf⟩ := h
  rcases open_slice_pairs Tryz.underlying27 Tryz.underlying37 Tryz.cells37 rfl rfl Tryz.cells9 Tryz.cells9 hf with ⟨hcs, _⟩ | ⟨a, l, c, m, n, V0, V1, D0, D1, P0, P1, hcs, _, hl, hm, hmm, _, hall⟩
  · simp [Value.cells] at hcs
    obtain ⟨rfl, rfl, rfl⟩ := hcs
    exact ⟨[], rfl, fun h => absurd h (by simp), (fun f hf => by cases hf), by simp⟩
  · simp [Value.cells] at hcs
    obtain ⟨rfl, rfl, rfl⟩ := hcs
    simp only [if_true] at hmm
    unfold maxLen at hm
    have each : ∀ i, i < len → ∃ f : Fl, W.cell? (a.add (i * 2)) = some (.string ⟨f.1.toArray⟩) ∧ W.cell? (a.add (i * 2 + 1)) = some (.string ⟨f.2.toArray⟩) ∧ f.1.length ≤ 9223372036854775807 ∧ f.2.length ≤ 9223372036854775807 := fun i hi => by
      obtain ⟨c0, c1, t0, t1⟩ := hall i (by omega)
      obtain ⟨s0, e0, _, z0⟩ := DataW.trod_string Tryz.underlying9 t0
      obtain ⟨s1, e1, _, z1⟩ := DataW.trod_string Tryz.underlying9 t1
      simp only [List.cons.injEq, and_true] at e0 e1
      unfold maxLen at z0 z1
      refine ⟨(s0.data.toList, s1.data.toList), by rw [c0, e0, bytes_list], by rw [c1, e1, bytes_list], ?_, ?_⟩
      · show s0.data.toList.length ≤ _
        have := size_list s0
        omega
      · show s1.data.toList.length ≤ _
        have := size_list s1
        omega
    obtain ⟨F, hF⟩ := choose_lt (α := Fl) each
    refine ⟨(List.range len).map F, by simp, fun h0 => ?_, fun f hf => ?_, by simp; omega⟩
    · have h0' : 0 < len := by simpa using h0
      obtain ⟨b, o, rfl⟩ := addr_lit (by have := (hF 0 h0').1; simpa [Addr.add] using this)
      refine ⟨b, o, rfl, fun i f hi => ?_⟩
      have hlt : i < len := by
        rcases Nat.lt_or_ge i len with q | q
        · exact q
        · rw [List.getElem?_eq_none (by simpa using q)] at hi; cases hi
      have e : F i = f := by
        rw [List.getElem?_map, List.getElem?_range hlt] at hi
        simpa using hi
      have := hF i hlt
      rw [e, add_plain', add_plain'] at this
      exact ⟨this.1, by rw [Nat.add_assoc]; exact this.2.1⟩
    · obtain ⟨i, hi, rfl⟩ := List.mem_map.1 hf
      exact (hF i (by simpa using hi)).2.2

theorem int_bounds {n : Int} (h : (Lit.int .i64 n).wf = true) : -9223372036854775808 ≤ n ∧ n ≤ 9223372036854775807 := by
  have e1 : IntKind.i64.min = -9223372036854775808 := by rfl
  have e2 : IntKind.i64.max = 9223372036854775807 := by rfl
  simp [Lit.wf, e1, e2] at h
  omega
end Go.Proofs.YtmggpockikcjjaaGreatDoor

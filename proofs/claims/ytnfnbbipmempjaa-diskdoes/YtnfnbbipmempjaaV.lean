/-
  Arguments that came in, read as plain lists: texts, bools, bytes, pairs of bytes, operations.
-/
import Derived.Test.YtnfnbbipmempjaaH
import Derived.Deep.SlicePairs
import Derived.Lib.SmallJoins
import Derived.ProofKit
import Derived.OpenShut
namespace Go.Proofs.Ytnfnbbipmempjaa
open Go.RowKit Go.Deep Go.ChangeShapes Go.WideShapes Go.Joins

theorem bytes_list (s : ByteArray) : Value.string s = .string ⟨s.data.toList.toArray⟩ := by
  obtain ⟨⟨l⟩⟩ := s; rfl
theorem size_list (s : ByteArray) : s.data.toList.length = s.size := Array.length_toList
theorem addr_lit {w : World} {a : Addr} {v : Value} (h : w.cell? a = some v) : ∃ b o, a = ⟨b, o, none⟩ := by
  have := World.cell?_spot h
  obtain ⟨b, o, s⟩ := a
  simp at this
  subst this
  exact ⟨b, o, rfl⟩
theorem add_plain (b o j : Nat) : (⟨b, o, none⟩ : Addr).add j = ⟨b, o + j, none⟩ := by unfold Addr.add; split <;> simp_all
theorem add_add (a : Addr) (i j : Nat) : (a.add i).add j = a.add (i + j) := by
  unfold Addr.add
  by_cases hi : i = 0 <;> by_cases hj : j = 0 <;> simp [hi, hj, Nat.add_assoc]
theorem view_gen {H α : Type} [Inhabited α] {enc : TypeId × Value → H} {W : World} {d : DataW H} {p : List MemPlace} {A : Option Addr} {len cap : Nat} {T e k : Nat} (g : α → List Value) (Q : α → Prop) (hT : Try.prog.underlying T = some (.slice e)) (hk : Try.prog.cellsOf e = k) (hk0 : 0 < k)
    (hg : ∀ x, (g x).length = k) (hr : ∀ n cs y, DataW.trod enc Try.prog W 0 (fun _ => true) true n e cs = some y → cs.length = k → ∃ x, cs = g x ∧ Q x)
    (h : DataW.Trod enc Try.prog W 0 (fun _ => true) true T (.slice A len cap) d p) :
    ∃ xs : List α, len = xs.length ∧ (0 < xs.length → ∃ b o, A = some ⟨b, o, none⟩ ∧ ∀ i x, xs[i]? = some x → ∀ j v, (g x)[j]? = some v → W.cell? ⟨b, o + i * k + j, none⟩ = some v) ∧ (∀ x ∈ xs, Q x) ∧ xs.length ≤ 9223372036854775807 := by
  obtain ⟨fuel, hf⟩ := h
  rcases open_slice hT hf with ⟨hcs, _⟩ | ⟨a, l, c, m, n, D, Pl, hcs, _, hl, hm, hmm, _, hall⟩
  · simp [Value.cells] at hcs
    obtain ⟨rfl, rfl, rfl⟩ := hcs
    exact ⟨[], rfl, fun h => absurd h (by simp), (fun f hf => by cases hf), by simp⟩
  · simp [Value.cells] at hcs
    obtain ⟨rfl, rfl, rfl⟩ := hcs
    simp only [if_true] at hmm
    unfold maxLen at hm
    rw [hk] at hall
    have each : ∀ i, i < len → ∃ x : α, (∀ j v, (g x)[j]? = some v → W.cell? (a.add (i * k + j)) = some v) ∧ Q x := fun i hi => by
      obtain ⟨cs', h1, h2⟩ := hall i (by omega)
      obtain ⟨_, h3, h4⟩ := World.cells?_some h1
      obtain ⟨x, rfl, hq⟩ := hr _ _ _ h2 h3
      refine ⟨x, fun j v hj => ?_, hq⟩
      have hjl : j < k := by rw [← hg x]; exact (List.getElem?_eq_some_iff.1 hj).1
      have := h4 j hjl
      rw [hj] at this
      rw [← this, add_add]
    obtain ⟨F, hF⟩ := choose_lt each
    refine ⟨(List.range len).map F, by simp, fun h0 => ?_, fun x hx => ?_, by simp; omega⟩
    · have h0' : 0 < len := by simpa using h0
      obtain ⟨v0, hv0⟩ : ∃ v, (g (F 0))[0]? = some v := ⟨_, List.getElem?_eq_getElem (by rw [hg]; exact hk0)⟩
      obtain ⟨b, o, rfl⟩ := addr_lit (by have := (hF 0 h0').1 0 v0 hv0; simpa [Addr.add] using this)
      refine ⟨b, o, rfl, fun i x hi j v hj => ?_⟩
      have hlt : i < len := by
        rcases Nat.lt_or_ge i len with q | q
        · exact q
        · rw [List.getElem?_eq_none (by simpa using q)] at hi; cases hi
      have e : F i = x := by
        rw [List.getElem?_map, List.getElem?_range hlt] at hi
        simpa using hi
      have := (hF i hlt).1
      rw [e] at this
      have := this j v hj
      rwa [add_plain, ← Nat.add_assoc] at this
    · obtain ⟨i, hi, rfl⟩ := List.mem_map.1 hx
      exact (hF i (by simpa using hi)).2
theorem rdC_of {α : Type} {W : World} {A : Option Addr} {xs : List α} {f : α → Value} (h : 0 < xs.length → ∃ b o, A = some ⟨b, o, none⟩ ∧ ∀ i x, xs[i]? = some x → ∀ j v, [f x][j]? = some v → W.cell? ⟨b, o + i * 1 + j, none⟩ = some v) : RdC W A (xs.map f) := fun h0 => by
  obtain ⟨b, o, e, hc⟩ := h (by simpa using h0)
  refine ⟨b, o, e, fun i v hv => ?_⟩
  rw [List.getElem?_map] at hv
  cases hx : xs[i]? with
  | none => rw [hx] at hv; simp at hv
  | some x =>
    rw [hx] at hv
    simp at hv
    subst hv
    simpa using hc i x hx 0 (f x) rfl

theorem view_texts {H : Type} {enc : TypeId × Value → H} {W : World} {d : DataW H} {p : List MemPlace} {A : Option Addr} {len cap : Nat} (h : DataW.Trod enc Try.prog W 0 (fun _ => true) true 37 (.slice A len cap) d p) :
    ∃ xs : List Tx, len = xs.length ∧ RdS W A xs ∧ (∀ x ∈ xs, x.length ≤ 9223372036854775807) ∧ xs.length ≤ 9223372036854775807 := by
  obtain ⟨xs, h1, h2, h3, h4⟩ := view_gen (k := 1) (fun x : Tx => [.string ⟨x.toArray⟩]) (fun x => x.length ≤ 9223372036854775807) Try.underlying37 (by kernel_rfl) (by omega) (fun _ => rfl) (fun n cs y hy _ => by
    obtain ⟨s, rfl, _, hz⟩ := DataW.trod_string Try.underlying9 hy
    unfold maxLen at hz
    exact ⟨s.data.toList, by rw [← bytes_list], by rw [size_list]; omega⟩) h
  exact ⟨xs, h1, rdC_of h2, h3, h4⟩
theorem view_bools {H : Type} {enc : TypeId × Value → H} {W : World} {d : DataW H} {p : List MemPlace} {A : Option Addr} {len cap : Nat} (h : DataW.Trod enc Try.prog W 0 (fun _ => true) true 34 (.slice A len cap) d p) :
    ∃ xs : List Bool, len = xs.length ∧ RdB W A xs ∧ xs.length ≤ 9223372036854775807 := by
  obtain ⟨xs, h1, h2, _, h4⟩ := view_gen (k := 1) (fun x : Bool => [.bool x]) (fun _ => True) Try.underlying34 (by kernel_rfl) (by omega) (fun _ => rfl) (fun n cs y hy _ => by
    obtain ⟨s, rfl, _⟩ := DataW.trod_bool Try.underlying4 hy
    exact ⟨s, rfl, trivial⟩) h
  exact ⟨xs, h1, rdC_of h2, h4⟩
theorem byte_of {n : Int} (h : (Lit.int .u8 n).wf = true) : ∃ c : UInt8, n = (c.toNat : Int) := by
  have e1 : IntKind.u8.min = 0 := by rfl
  have e2 : IntKind.u8.max = 255 := by rfl
  simp [Lit.wf, e1, e2] at h
  exact ⟨UInt8.ofNat n.toNat, by rw [byte_int _ (by omega)]; omega⟩
theorem view_bytes {H : Type} {enc : TypeId × Value → H} {W : World} {d : DataW H} {p : List MemPlace} {A : Option Addr} {len cap : Nat} (h : DataW.Trod enc Try.prog W 0 (fun _ => true) true 53 (.slice A len cap) d p) :
    ∃ xs : List UInt8, len = xs.length ∧ RdY W A xs ∧ xs.length ≤ 9223372036854775807 := by
  obtain ⟨xs, h1, h2, _, h4⟩ := view_gen (k := 1) (fun x : UInt8 => [.int .u8 x.toNat]) (fun _ => True) Try.underlying53 (by kernel_rfl) (by omega) (fun _ => rfl) (fun n cs y hy _ => by
    obtain ⟨s, rfl, _, hw⟩ := DataW.trod_int Try.underlying5 hy
    obtain ⟨c, rfl⟩ := byte_of hw
    exact ⟨c, rfl, trivial⟩) h
  exact ⟨xs, h1, rdC_of h2, h4⟩
theorem view_pairs {H : Type} {enc : TypeId × Value → H} {W : World} {d : DataW H} {p : List MemPlace} {A : Option Addr} {len cap : Nat} (h : DataW.Trod enc Try.prog W 0 (fun _ => true) true 44 (.slice A len cap) d p) :
    ∃ xs : List (UInt8 × UInt8), len = xs.length ∧ RdP W A xs ∧ xs.length ≤ 9223372036854775807 := by
  have c5 : Try.prog.cellsOf 5 = 1 := by kernel_rfl
  obtain ⟨xs, h1, h2, _, h4⟩ := view_gen (k := 2) (fun x : UInt8 × UInt8 => [.int .u8 x.1.toNat, .int .u8 x.2.toNat]) (fun _ => True) Try.underlying44 (by kernel_rfl) (by omega) (fun _ => rfl) (fun n cs y hy hl => by
    obtain ⟨ys, m, _, _, _, hyl, hall⟩ := DataW.trod_array Try.underlying49 hy
    match cs, hl with
    | [v0, v1], _ =>
      have a0 := hall 0 (by omega)
      have a1 := hall 1 (by omega)
      rw [List.getElem?_eq_getElem (by omega)] at a0 a1
      rw [c5] at a0 a1
      obtain ⟨s0, e0, _, w0⟩ := DataW.trod_int Try.underlying5 a0
      obtain ⟨s1, e1, _, w1⟩ := DataW.trod_int Try.underlying5 a1
      simp at e0 e1
      subst e0 e1
      obtain ⟨b0, rfl⟩ := byte_of w0
      obtain ⟨b1, rfl⟩ := byte_of w1
      exact ⟨(b0, b1), rfl, trivial⟩) h
  refine ⟨xs, h1, fun h0 => ?_, h4⟩
  obtain ⟨b, o, e, hc⟩ := h2 h0
  exact ⟨b, o, e, fun i x hx => ⟨by simpa using hc i x hx 0 _ rfl, by simpa using hc i x hx 1 _ rfl⟩⟩
theorem int_bounds {n : Int} (h : (Lit.int .i64 n).wf = true) : -9223372036854775808 ≤ n ∧ n ≤ 9223372036854775807 := by
  have e1 : IntKind.i64.min = -9223372036854775808 := by rfl
  have e2 : IntKind.i64.max = 9223372036854775807 := by rfl
  simp [Lit.wf, e1, e2] at h
  omega
end Go.Proofs.Ytnfnbbipmempjaa

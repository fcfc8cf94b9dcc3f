/-
  A slice of operations that came in, read as a plain list.
-/
import Derived.Test.YtnfnbbipmempjaaV
namespace Go.Proofs.Ytnfnbbipmempjaa
open Go.RowKit Go.Deep Go.ChangeShapes Go.WideShapes Go.Joins

/-- An operation: its kind, a sector, a text, what is kept (where that lies, and how much room it has). -/
structure OpV where
  K : Int
  i : Int
  s : Tx
  B : Option Addr
  ks : List Bool
  c : Nat
instance : Inhabited OpV := ⟨⟨0, 0, [], none, [], 0⟩⟩
def ocells (x : OpV) : List Value := [.int .i64 x.K, .int .i64 x.i, .string ⟨x.s.toArray⟩, .slice x.B x.ks.length x.c]
def RdO (W : World) (A : Option Addr) (xs : List OpV) : Prop :=
  0 < xs.length → ∃ b o, A = some ⟨b, o, none⟩ ∧ ∀ i x, xs[i]? = some x → W.cell? ⟨b, o + i * 4, none⟩ = some (.int .i64 x.K) ∧ W.cell? ⟨b, o + i * 4 + 1, none⟩ = some (.int .i64 x.i) ∧ W.cell? ⟨b, o + i * 4 + 2, none⟩ = some (.string ⟨x.s.toArray⟩) ∧ W.cell? ⟨b, o + i * 4 + 3, none⟩ = some (.slice x.B x.ks.length x.c)
structure OpOk (W : World) (x : OpV) : Prop where
  i1 : -9223372036854775808 ≤ x.i
  i2 : x.i ≤ 9223372036854775807
  s : x.s.length ≤ 9223372036854775807
  rd : RdB W x.B x.ks
  ks : x.ks.length ≤ 9223372036854775807
theorem RdO.below {w w' : World} {A : Option Addr} {p : List OpV} (h : RdO w A p) (hb : Below w.heap.size w w') : RdO w' A p := fun h0 => by
  obtain ⟨b, o, e, hc⟩ := h h0
  refine ⟨b, o, e, fun i x hi => ?_⟩
  obtain ⟨c0, c1, c2, c3⟩ := hc i x hi
  exact ⟨(hb.cell (World.block_lt_of_cell? w _ c0)).trans c0, (hb.cell (World.block_lt_of_cell? w _ c1)).trans c1, (hb.cell (World.block_lt_of_cell? w _ c2)).trans c2, (hb.cell (World.block_lt_of_cell? w _ c3)).trans c3⟩
theorem view_ops {H : Type} {enc : TypeId × Value → H} {W : World} {d : DataW H} {p : List MemPlace} {A : Option Addr} {len cap : Nat} (h : DataW.Trod enc Try.prog W 0 (fun _ => true) true 22 (.slice A len cap) d p) :
    ∃ xs : List OpV, len = xs.length ∧ RdO W A xs ∧ (∀ x ∈ xs, OpOk W x) ∧ xs.length ≤ 9223372036854775807 := by
  have k3 : Try.prog.cellsOf 3 = 1 := by kernel_rfl
  have k9 : Try.prog.cellsOf 9 = 1 := by kernel_rfl
  have k34 : Try.prog.cellsOf 34 = 1 := by kernel_rfl
  obtain ⟨xs, h1, h2, h3, h4⟩ := view_gen (k := 4) ocells (OpOk W) Try.underlying22 (by kernel_rfl) (by omega) (fun _ => rfl) (fun n cs y hy hl => by
    obtain ⟨y0, y1, y2, y3, m, _, _, t0, t1, t2, t3⟩ := trod_struct4 Try.underlying36 hy
    match cs, hl with
    | [v0, v1, v2, v3], _ =>
      simp only [k3, k9, k34] at t0 t1 t2 t3
      obtain ⟨s0, e0, _, w0⟩ := DataW.trod_int Try.underlying3 t0
      obtain ⟨s1, e1, _, w1⟩ := DataW.trod_int Try.underlying3 t1
      obtain ⟨s2, e2, _, z2⟩ := DataW.trod_string Try.underlying9 t2
      simp at e0 e1 e2
      subst e0 e1 e2
      have t3' : DataW.trod enc Try.prog W 0 (fun _ => true) true m 34 [v3] = some y3 := t3
      obtain ⟨A3, l3, c3, rfl⟩ : ∃ A3 l3 c3, v3 = .slice A3 l3 c3 := by
        rcases open_slice Try.underlying34 t3' with ⟨q, _⟩ | ⟨a, l, c, _, _, _, _, q, _⟩
        · simp at q; exact ⟨_, _, _, q⟩
        · simp at q; exact ⟨_, _, _, q⟩
      obtain ⟨bs, rfl, r1, r2⟩ := view_bools (d := y3.1) (p := y3.2) ⟨m, t3'⟩
      unfold maxLen at z2
      obtain ⟨i1, i2⟩ := int_bounds w1
      exact ⟨⟨s0, s1, s2.data.toList, A3, bs, c3⟩, by simp only [ocells], ⟨i1, i2, by show s2.data.toList.length ≤ _; rw [size_list]; omega, r1, r2⟩⟩) h
  refine ⟨xs, h1, fun h0 => ?_, h3, h4⟩
  obtain ⟨b, o, e, hc⟩ := h2 h0
  exact ⟨b, o, e, fun i x hx => ⟨by simpa using hc i x hx 0 _ rfl, by simpa using hc i x hx 1 _ rfl, by simpa using hc i x hx 2 _ rfl, by simpa using hc i x hx 3 _ rfl⟩⟩
end Go.Proofs.Ytnfnbbipmempjaa

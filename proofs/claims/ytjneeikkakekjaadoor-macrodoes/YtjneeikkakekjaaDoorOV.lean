/-
  Arguments that came in, read as plain lists: lists of lists, macros, bools, texts, two lists side by side.
-/
import Derived.Test.YtjneeikkakekjaaDoorV
import Derived.Test.YtjneeikkakekjaaDoorNJ
namespace Go.Proofs.YtjneeikkakekjaaDoor
open Go.RowKit Go.Deep Go.ChangeShapes Go.WideShapes Go.Joins

theorem slice_val {H : Type} {enc : TypeId × Value → H} {W : World} {T e : TypeId} {fuel : Nat} {v : Value} {y : DataW H × List MemPlace} (hT : Tryd.prog.underlying T = some (.slice e)) (h : DataW.trod enc Tryd.prog W 0 (fun _ => true) true fuel T [v] = some y) : ∃ A l c, v = .slice A l c := by
  rcases open_slice hT h with ⟨q, _⟩ | ⟨a, l, c, _, _, _, _, q, _⟩
  · simp at q; exact ⟨_, _, _, q⟩
  · simp at q; exact ⟨_, _, _, q⟩
/-- Tokens that a cell holds. -/
def ToksOk (W : World) (B : Option Addr) (l : List Tok) : Prop := Rd W B l ∧ (∀ f ∈ l, f.2.length ≤ 9223372036854775807) ∧ l.length ≤ 9223372036854775807
theorem view_lists {H : Type} {enc : TypeId × Value → H} {W : World} {d : DataW H} {p : List MemPlace} {A : Option Addr} {len cap : Nat} (h : DataW.Trod enc Tryd.prog W 0 (fun _ => true) true 30 (.slice A len cap) d p) :
    ∃ ll : List (List Tok), len = ll.length ∧ RdL W A ll ∧ (∀ l ∈ ll, l.length ≤ 9223372036854775807 ∧ ∀ t ∈ l, t.2.length ≤ 9223372036854775807) ∧ ll.length ≤ 9223372036854775807 := by
  obtain ⟨xs, h1, h2, h3, h4⟩ := view_gen (k := 1) (fun x : Option Addr × Nat × List Tok => [.slice x.1 x.2.2.length x.2.1]) (fun x => ToksOk W x.1 x.2.2) Tryd.underlying30 (by kernel_rfl) (by omega) (fun _ => rfl) (fun n cs y hy hl => by
    match cs, hl with
    | [v0], _ =>
      obtain ⟨A3, l3, c3, rfl⟩ := slice_val Tryd.underlying22 hy
      obtain ⟨fs, rfl, r1, r2, r3⟩ := view_toks (d := y.1) (p := y.2) ⟨n, hy⟩
      exact ⟨⟨A3, c3, fs⟩, rfl, ⟨r1, r2, r3⟩⟩) h
  refine ⟨xs.map (·.2.2), by simpa using h1, fun h0 => ?_, fun l hl => ?_, by simpa using h4⟩
  · obtain ⟨b, o, e, hc⟩ := h2 (by simpa using h0)
    refine ⟨b, o, e, fun i l hi => ?_⟩
    rw [List.getElem?_map] at hi
    cases hx : xs[i]? with
    | none => rw [hx] at hi; simp at hi
    | some x =>
      rw [hx] at hi
      simp at hi
      subst hi
      exact ⟨x.1, x.2.1, by simpa using hc i x hx 0 _ rfl, (h3 x (List.mem_of_getElem? hx)).1⟩
  · obtain ⟨x, hx, rfl⟩ := List.mem_map.1 hl
    exact ⟨(h3 x hx).2.2, (h3 x hx).2.1⟩
theorem view_texts {H : Type} {enc : TypeId × Value → H} {W : World} {d : DataW H} {p : List MemPlace} {A : Option Addr} {len cap : Nat} (h : DataW.Trod enc Tryd.prog W 0 (fun _ => true) true 72 (.slice A len cap) d p) :
    ∃ xs : List By, len = xs.length ∧ (0 < xs.length → ∃ b o, A = some ⟨b, o, none⟩ ∧ ∀ i x, xs[i]? = some x → W.cell? ⟨b, o + i, none⟩ = some (.string ⟨x.toArray⟩)) ∧ (∀ x ∈ xs, x.length ≤ 9223372036854775807) ∧ xs.length ≤ 9223372036854775807 := by
  obtain ⟨xs, h1, h2, h3, h4⟩ := view_gen (k := 1) (fun x : By => [.string ⟨x.toArray⟩]) (fun x => x.length ≤ 9223372036854775807) Tryd.underlying72 (by kernel_rfl) (by omega) (fun _ => rfl) (fun n cs y hy _ => by
    obtain ⟨s, rfl, _, hz⟩ := DataW.trod_string Tryd.underlying9 hy
    unfold maxLen at hz
    exact ⟨s.data.toList, by rw [← bytes_list], by have := size_list s; omega⟩) h
  refine ⟨xs, h1, fun h0 => ?_, h3, h4⟩
  obtain ⟨b, o, e, hc⟩ := h2 h0
  exact ⟨b, o, e, fun i x hx => by simpa using hc i x hx 0 _ rfl⟩
theorem view_bools {H : Type} {enc : TypeId × Value → H} {W : World} {d : DataW H} {p : List MemPlace} {A : Option Addr} {len cap : Nat} (h : DataW.Trod enc Tryd.prog W 0 (fun _ => true) true 52 (.slice A len cap) d p) :
    ∃ xs : List Bool, len = xs.length ∧ (0 < xs.length → ∃ b o, A = some ⟨b, o, none⟩ ∧ ∀ i x, xs[i]? = some x → W.cell? ⟨b, o + i, none⟩ = some (.bool x)) ∧ xs.length ≤ 9223372036854775807 := by
  obtain ⟨xs, h1, h2, _, h4⟩ := view_gen (k := 1) (fun x : Bool => [.bool x]) (fun _ => True) Tryd.underlying52 (by kernel_rfl) (by omega) (fun _ => rfl) (fun n cs y hy _ => by
    obtain ⟨s, rfl, _⟩ := DataW.trod_bool Tryd.underlying4 hy
    exact ⟨s, rfl, trivial⟩) h
  refine ⟨xs, h1, fun h0 => ?_, h4⟩
  obtain ⟨b, o, e, hc⟩ := h2 h0
  exact ⟨b, o, e, fun i x hx => by simpa using hc i x hx 0 _ rfl⟩
theorem trod_struct3 {H : Type} {enc : TypeId × Value → H} {W : World} {t : TypeId} {f0 f1 f2 : Field} {fuel : Nat} {cs : List Value} {x : DataW H × List MemPlace} (ht : Tryd.prog.underlying t = some (.struct #[f0, f1, f2])) (h : DataW.trod enc Tryd.prog W 0 (fun _ => true) true fuel t cs = some x) :
    ∃ (y0 y1 y2 : DataW H × List MemPlace) (n : Nat), DataW.trod enc Tryd.prog W 0 (fun _ => true) true n f0.type ((cs.drop f0.offset).take (Tryd.prog.cellsOf f0.type)) = some y0 ∧ DataW.trod enc Tryd.prog W 0 (fun _ => true) true n f1.type ((cs.drop f1.offset).take (Tryd.prog.cellsOf f1.type)) = some y1 ∧
      DataW.trod enc Tryd.prog W 0 (fun _ => true) true n f2.type ((cs.drop f2.offset).take (Tryd.prog.cellsOf f2.type)) = some y2 := by
  obtain ⟨xs, n, _, rfl, hl, hlen, hf⟩ := DataW.trod_struct ht h
  match xs, hlen with
  | [y0, y1, y2], _ => exact ⟨y0, y1, y2, n, by simpa using hf 0 f0 rfl, by simpa using hf 1 f1 rfl, by simpa using hf 2 f2 rfl⟩
/-- A macro as three cells hold it. -/
structure MacV where
  m : Ml
  B : Option Addr
  d : Nat
instance : Inhabited MacV := ⟨⟨([], 0, []), none, 0⟩⟩
def mcellsV (x : MacV) : List Value := [.string ⟨x.m.1.toArray⟩, .int .i64 x.m.2.1, .slice x.B x.m.2.2.length x.d]
theorem holdM_of {W : World} : ∀ xs : List MacV, (∀ x ∈ xs, Rd W x.B x.m.2.2) → HoldM W none (xs.map (·.m)) (xs.flatMap mcellsV)
  | [], _ => rfl
  | x :: r, h => ⟨x.B, x.d, r.flatMap mcellsV, by simp [mcellsV], h x (by simp), fun _ _ _ => by simp, holdM_of r fun y hy => h y (by simp [hy])⟩
theorem flat_at : ∀ (xs : List MacV) (j : Nat) (u : Value), (xs.flatMap mcellsV)[j]? = some u → ∃ i x k, xs[i]? = some x ∧ (mcellsV x)[k]? = some u ∧ j = i * 3 + k
  | [], j, u, h => by simp at h
  | x :: r, j, u, h => by
    rcases Nat.lt_or_ge j 3 with q | q
    · exact ⟨0, x, j, rfl, by rw [List.flatMap_cons, List.getElem?_append_left (by simpa [mcellsV] using q)] at h; exact h, by omega⟩
    · rw [List.flatMap_cons, List.getElem?_append_right (by simpa [mcellsV] using q)] at h
      obtain ⟨i, y, k, h1, h2, h3⟩ := flat_at r _ u h
      have : (mcellsV x).length = 3 := rfl
      exact ⟨i + 1, y, k, by simpa using h1, h2, by omega⟩
set_option maxRecDepth 100000 in
theorem view_macros {H : Type} {enc : TypeId × Value → H} {W : World} {d : DataW H} {p : List MemPlace} {A : Option Addr} {len cap : Nat} (h : DataW.Trod enc Tryd.prog W 0 (fun _ => true) true 51 (.slice A len cap) d p) :
    ∃ ms : List Ml, len = ms.length ∧ RdM W A ms ∧ (∀ m ∈ ms, m.1.length ≤ 9223372036854775807 ∧ m.2.2.length ≤ 9223372036854775807 ∧ ∀ t ∈ m.2.2, t.2.length ≤ 9223372036854775807) ∧ ms.length ≤ 9223372036854775807 := by
  have k3 : Tryd.prog.cellsOf 3 = 1 := by kernel_rfl
  have k9 : Tryd.prog.cellsOf 9 = 1 := by kernel_rfl
  have k22 : Tryd.prog.cellsOf 22 = 1 := by kernel_rfl
  obtain ⟨xs, h1, h2, h3, h4⟩ := view_gen (k := 3) mcellsV (fun x => x.m.1.length ≤ 9223372036854775807 ∧ ToksOk W x.B x.m.2.2) Tryd.underlying51 (by kernel_rfl) (by omega) (fun _ => rfl) (fun n cs y hy hl => by
    obtain ⟨y0, y1, y2, m, t0, t1, t2⟩ := trod_struct3 Tryd.underlying55 hy
    match cs, hl with
    | [v0, v1, v2], _ =>
      simp only [k3, k9, k22] at t0 t1 t2
      have t0' : DataW.trod enc Tryd.prog W 0 (fun _ => true) true m 9 [v0] = some y0 := t0
      have t1' : DataW.trod enc Tryd.prog W 0 (fun _ => true) true m 3 [v1] = some y1 := t1
      have t2' : DataW.trod enc Tryd.prog W 0 (fun _ => true) true m 22 [v2] = some y2 := t2
      obtain ⟨s0, e0, _, z0⟩ := DataW.trod_string Tryd.underlying9 t0'
      obtain ⟨s1, e1, _, _⟩ := DataW.trod_int Tryd.underlying3 t1'
      simp only [List.cons.injEq, and_true] at e0 e1
      subst e0 e1
      obtain ⟨B, l, c, rfl⟩ := slice_val Tryd.underlying22 t2'
      obtain ⟨fs, rfl, r1, r2, r3⟩ := view_toks (d := y2.1) (p := y2.2) ⟨m, t2'⟩
      unfold maxLen at z0
      exact ⟨⟨(s0.data.toList, s1, fs), B, c⟩, by (show [Value.string s0, _, _] = [_, _, _]; rw [bytes_list s0]), ⟨by show s0.data.toList.length ≤ _; have := size_list s0; omega, r1, r2, r3⟩⟩) h
  refine ⟨xs.map (·.m), by simpa using h1, fun h0 => ?_, fun m hm => ?_, by simpa using h4⟩
  · obtain ⟨b, o, e, hc⟩ := h2 (by simpa using h0)
    refine ⟨b, o, xs.flatMap mcellsV, e, holdM_of xs fun x hx => (h3 x hx).2.1, fun j u hj => ?_⟩
    obtain ⟨i, x, k, q1, q2, rfl⟩ := flat_at xs j u hj
    have := hc i x q1 k u q2
    rwa [Nat.add_assoc] at this
  · obtain ⟨x, hx, rfl⟩ := List.mem_map.1 hm
    exact ⟨(h3 x hx).1, (h3 x hx).2.2.2, (h3 x hx).2.2.1⟩
set_option maxRecDepth 100000 in
theorem view_two {H : Type} {enc : TypeId × Value → H} {W : World} {r : Reach} {b0 : Nat} {v : Value} {d : DataW H} {p : List MemPlace} (hv : Value.okWide Tryd.prog W r b0 76 v)
    (h : DataW.Trod enc Tryd.prog W 0 (fun _ => true) true 76 v d p) : ∃ (E0 E1 : Option Addr) (d0 d1 : Nat) (a0 a1 : List Tok), v = .agg #[.slice E0 a0.length d0, .slice E1 a1.length d1] ∧ ToksOk W E0 a0 ∧ ToksOk W E1 a1 := by
  have k22 : Tryd.prog.cellsOf 22 = 1 := by kernel_rfl
  have k76 : Tryd.prog.cellsOf 76 = 2 := by kernel_rfl
  obtain ⟨cs, rfl, hs⟩ : ∃ cs, v = .agg cs ∧ cs.size = 2 := by
    unfold Value.okWide at hv
    rw [Tryd.underlying76] at hv
    obtain ⟨cs, e, h1, _⟩ := hv
    exact ⟨cs, e, h1.trans k76⟩
  obtain ⟨fuel, hf⟩ := h
  obtain ⟨l⟩ := cs
  have hf' : DataW.trod enc Tryd.prog W 0 (fun _ => true) true fuel 76 l = some (d, p) := by simpa [Value.cells] using hf
  have hl : l.length = 2 := by simpa using hs
  obtain ⟨ys, m, _, _, _, hyl, hall⟩ := DataW.trod_array Tryd.underlying76 hf'
  match l, hl with
  | [v0, v1], _ =>
    have a0 := hall 0 (by omega)
    have a1 := hall 1 (by omega)
    rw [List.getElem?_eq_getElem (by omega)] at a0 a1
    rw [k22] at a0 a1
    have a0' : DataW.trod enc Tryd.prog W 0 (fun _ => true) true m 22 [v0] = some (ys[0]) := by simpa using a0
    have a1' : DataW.trod enc Tryd.prog W 0 (fun _ => true) true m 22 [v1] = some (ys[1]) := by simpa using a1
    obtain ⟨E0, l0, c0, rfl⟩ := slice_val Tryd.underlying22 a0'
    obtain ⟨E1, l1, c1, rfl⟩ := slice_val Tryd.underlying22 a1'
    obtain ⟨x0, rfl, r1, r2, r3⟩ := view_toks (d := ys[0].1) (p := ys[0].2) ⟨m, a0'⟩
    obtain ⟨x1, rfl, s1, s2, s3⟩ := view_toks (d := ys[1].1) (p := ys[1].2) ⟨m, a1'⟩
    exact ⟨E0, E1, c0, c1, x0, x1, rfl, ⟨r1, r2, r3⟩, ⟨s1, s2, s3⟩⟩
end Go.Proofs.YtjneeikkakekjaaDoor

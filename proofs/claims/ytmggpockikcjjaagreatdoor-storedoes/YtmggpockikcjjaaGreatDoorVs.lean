/-
  Arguments that came in, read as plain lists: steps.
-/
import Derived.Test.YtmggpockikcjjaaGreatDoorVw
import Derived.Test.YtmggpockikcjjaaGreatDoorSQ
namespace Go.Proofs.YtmggpockikcjjaaGreatDoor
open Go.RowKit Go.Deep Go.ChangeShapes Go.WideShapes Go.Joins
open Dsk (RdC RdB)

theorem slice_cap {H : Type} {enc : TypeId × Value → H} {W : World} {T e : TypeId} {fuel : Nat} {A : Option Addr} {len cap : Nat} {y : DataW H × List MemPlace} (hT : Tryz.prog.underlying T = some (.slice e)) (h : DataW.trod enc Tryz.prog W 0 (fun _ => true) true fuel T [.slice A len cap] = some y) : len ≤ cap := by
  rcases open_slice hT h with ⟨q, _⟩ | ⟨a, l, c, _, _, _, _, q, _, hl, _⟩
  · simp at q; omega
  · simp at q; omega
theorem slice_val {H : Type} {enc : TypeId × Value → H} {W : World} {T e : TypeId} {fuel : Nat} {v : Value} {y : DataW H × List MemPlace} (hT : Tryz.prog.underlying T = some (.slice e)) (h : DataW.trod enc Tryz.prog W 0 (fun _ => true) true fuel T [v] = some y) : ∃ A l c, v = .slice A l c := by
  rcases open_slice hT h with ⟨q, _⟩ | ⟨a, l, c, _, _, _, _, q, _⟩
  · simp at q; exact ⟨_, _, _, q⟩
  · simp at q; exact ⟨_, _, _, q⟩
theorem trod_struct5 {H : Type} {enc : TypeId × Value → H} {W : World} {t : TypeId} {f0 f1 f2 f3 f4 : Field} {fuel : Nat} {cs : List Value} {x : DataW H × List MemPlace} (ht : Tryz.prog.underlying t = some (.struct #[f0, f1, f2, f3, f4])) (h : DataW.trod enc Tryz.prog W 0 (fun _ => true) true fuel t cs = some x) :
    ∃ (y0 y1 y2 y3 y4 : DataW H × List MemPlace) (n : Nat), DataW.trod enc Tryz.prog W 0 (fun _ => true) true n f0.type ((cs.drop f0.offset).take (Tryz.prog.cellsOf f0.type)) = some y0 ∧ DataW.trod enc Tryz.prog W 0 (fun _ => true) true n f1.type ((cs.drop f1.offset).take (Tryz.prog.cellsOf f1.type)) = some y1 ∧
      DataW.trod enc Tryz.prog W 0 (fun _ => true) true n f2.type ((cs.drop f2.offset).take (Tryz.prog.cellsOf f2.type)) = some y2 ∧ DataW.trod enc Tryz.prog W 0 (fun _ => true) true n f3.type ((cs.drop f3.offset).take (Tryz.prog.cellsOf f3.type)) = some y3 ∧ DataW.trod enc Tryz.prog W 0 (fun _ => true) true n f4.type ((cs.drop f4.offset).take (Tryz.prog.cellsOf f4.type)) = some y4 := by
  obtain ⟨xs, n, _, rfl, hl, hlen, hf⟩ := DataW.trod_struct ht h
  match xs, hlen with
  | [y0, y1, y2, y3, y4], _ => exact ⟨y0, y1, y2, y3, y4, n, by simpa using hf 0 f0 rfl, by simpa using hf 1 f1 rfl, by simpa using hf 2 f2 rfl, by simpa using hf 3 f3 rfl, by simpa using hf 4 f4 rfl⟩
set_option maxRecDepth 100000 in
theorem view_steps {H : Type} {enc : TypeId × Value → H} {W : World} {d : DataW H} {p : List MemPlace} {A : Option Addr} {len cap : Nat} (h : DataW.Trod enc Tryz.prog W 0 (fun _ => true) true 22 (.slice A len cap) d p) :
    ∃ xs : List StepV, len = xs.length ∧ RdP W A xs ∧ (∀ x ∈ xs, StepOk W x) ∧ xs.length ≤ 9223372036854775807 := by
  have k3 : Tryz.prog.cellsOf 3 = 1 := by kernel_rfl
  have k4 : Tryz.prog.cellsOf 4 = 1 := by kernel_rfl
  have k27 : Tryz.prog.cellsOf 27 = 1 := by kernel_rfl
  have k30 : Tryz.prog.cellsOf 30 = 1 := by kernel_rfl
  obtain ⟨xs, h1, h2, h3, h4⟩ := view_gen (k := 5) scellsV (StepOk W) Tryz.underlying22 (by kernel_rfl) (by omega) (fun _ => rfl) (fun n cs y hy hl => by
    obtain ⟨y0, y1, y2, y3, y4, m, t0, t1, t2, t3, t4⟩ := trod_struct5 Tryz.underlying32 hy
    match cs, hl with
    | [v0, v1, v2, v3, v4], _ =>
      simp only [k3, k4, k27, k30] at t0 t1 t2 t3 t4
      have t0' : DataW.trod enc Tryz.prog W 0 (fun _ => true) true m 27 [v0] = some y0 := t0
      have t4' : DataW.trod enc Tryz.prog W 0 (fun _ => true) true m 30 [v4] = some y4 := t4
      obtain ⟨s1, e1, _⟩ := DataW.trod_bool Tryz.underlying4 t1
      obtain ⟨s2, e2, _, w2⟩ := DataW.trod_int Tryz.underlying3 t2
      obtain ⟨s3, e3, _⟩ := DataW.trod_bool Tryz.underlying4 t3
      simp at e1 e2 e3
      subst e1 e2 e3
      obtain ⟨A0, l0, c0, rfl⟩ := slice_val Tryz.underlying27 t0'
      obtain ⟨A4, l4, c4, rfl⟩ := slice_val Tryz.underlying30 t4'
      have hcap := slice_cap Tryz.underlying27 t0'
      obtain ⟨fs, rfl, r1, r2, r3⟩ := view_files (d := y0.1) (p := y0.2) ⟨m, t0'⟩
      obtain ⟨bs, rfl, b1, b2⟩ := view_bools (d := y4.1) (p := y4.2) ⟨m, t4'⟩
      obtain ⟨i1, i2⟩ := int_bounds w2
      exact ⟨⟨A0, fs, c0, s1, s2, s3, A4, bs, c4⟩, by simp only [scellsV], ⟨r1, r2, r3, hcap, b1, b2, i1, i2⟩⟩) h
  refine ⟨xs, h1, fun h0 => ?_, h3, h4⟩
  obtain ⟨b, o, e, hc⟩ := h2 h0
  exact ⟨b, o, e, fun i x hx => ⟨by simpa using hc i x hx 0 _ rfl, by simpa using hc i x hx 1 _ rfl, by simpa using hc i x hx 2 _ rfl, by simpa using hc i x hx 3 _ rfl, by simpa using hc i x hx 4 _ rfl⟩⟩
end Go.Proofs.YtmggpockikcjjaaGreatDoor

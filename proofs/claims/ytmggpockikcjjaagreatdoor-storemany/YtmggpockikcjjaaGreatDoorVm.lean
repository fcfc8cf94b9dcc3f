/-
  Arguments that came in, read as plain lists: lists of files.
-/
import Derived.Test.YtmggpockikcjjaaGreatDoorVw
import Derived.Test.YtmggpockikcjjaaGreatDoorSN
namespace Go.Proofs.YtmggpockikcjjaaGreatDoor
open Go.RowKit Go.Deep Go.ChangeShapes Go.WideShapes Go.Joins
open Dsk (RdC RdB)

theorem slice_valm {H : Type} {enc : TypeId × Value → H} {W : World} {T e : TypeId} {fuel : Nat} {v : Value} {y : DataW H × List MemPlace} (hT : Tryz.prog.underlying T = some (.slice e)) (h : DataW.trod enc Tryz.prog W 0 (fun _ => true) true fuel T [v] = some y) : ∃ A l c, v = .slice A l c := by
  rcases open_slice hT h with ⟨q, _⟩ | ⟨a, l, c, _, _, _, _, q, _⟩
  · simp at q; exact ⟨_, _, _, q⟩
  · simp at q; exact ⟨_, _, _, q⟩
theorem view_many {H : Type} {enc : TypeId × Value → H} {W : World} {d : DataW H} {p : List MemPlace} {A : Option Addr} {len cap : Nat} (h : DataW.Trod enc Tryz.prog W 0 (fun _ => true) true 51 (.slice A len cap) d p) :
    ∃ xs : List FsV, len = xs.length ∧ RdM W A xs ∧ (∀ x ∈ xs, FsOk W x) ∧ xs.length ≤ 9223372036854775807 := by
  obtain ⟨xs, h1, h2, h3, h4⟩ := view_gen (k := 1) (fun x : FsV => [.slice x.A x.fs.length x.c]) (FsOk W) Tryz.underlying51 (by kernel_rfl) (by omega) (fun _ => rfl) (fun n cs y hy hl => by
    match cs, hl with
    | [v0], _ =>
      obtain ⟨A3, l3, c3, rfl⟩ := slice_valm Tryz.underlying27 hy
      obtain ⟨fs, rfl, r1, r2, r3⟩ := view_files (d := y.1) (p := y.2) ⟨n, hy⟩
      exact ⟨⟨A3, fs, c3⟩, rfl, ⟨r1, r2, r3⟩⟩) h
  refine ⟨xs, h1, fun h0 => ?_, h3, h4⟩
  obtain ⟨b, o, e, hc⟩ := h2 h0
  exact ⟨b, o, e, fun i x hx => by simpa using hc i x hx 0 _ rfl⟩
end Go.Proofs.YtmggpockikcjjaaGreatDoor

/-
  The laws of package expand: an answer as the document's own answer; two answers that are the same.
-/
import Derived.Test.YtmnbepapgghdaaaGreatK35
import Derived.Test.YtmnbepapgghdaaaGreatK04
import Derived.Test.YtmnbepapgghdaaaGreatK11
namespace Go.Proofs.YtmnbepapgghdaaaGreat
open Go.RowKit

theorem enter20 (args : Array Value) (w : World) : (callFunc 20 args).run Tryz.prog w = .ok (.enter 20 args) w := enter_of Tryz.func20 (by kernel_rfl) (by kernel_rfl) args w
theorem info37 : (Tryz.prog.info? 37).map (·.size) = some 4 := by kernel_rfl
theorem ref_ahead (w : World) (c : Array Value) : let W := (w.alloc (.cells c 31)).alloc (.cells #[.slice none 0 0, .slice none 0 0, .slice none 0 0, .int .i64 0] 37)
    W.heap[w.heap.size]? = some (.cells c 31) ∧ W.heap[w.heap.size + 1]? = some (.cells #[.slice none 0 0, .slice none 0 0, .slice none 0 0, .int .i64 0] 37) ∧ Below w.heap.size w W ∧ W.heap.size = w.heap.size + 2 := by
  have s1 : (w.alloc (.cells c 31)).heap.size = w.heap.size + 1 := by simp
  have h1 := heap_alloc_new w (.cells c 31)
  have h2 := heap_alloc_new (w.alloc (.cells c 31)) (.cells #[.slice none 0 0, .slice none 0 0, .slice none 0 0, .int .i64 0] 37)
  have b2 := one_below (w.alloc (.cells c 31)) (.cells #[.slice none 0 0, .slice none 0 0, .slice none 0 0, .int .i64 0] 37)
  rw [s1] at h2
  exact ⟨(b2.block _ (by omega)).trans h1, h2, bch (one_below w _) b2, by simp⟩
theorem ref_end {w W w1 : World} {B RA NA : Option Addr} {d rc nc : Nat} {r : Res8} (hb : Below w.heap.size w W) (hz : W.heap.size = w.heap.size + 2) (ho : Own 82 w1 W.heap.size B d r.1) (hb1 : Below W.drew.heap.size W.drew w1) :
    Own 82 (set4 w1 (w.heap.size + 1) B RA NA d rc nc r) w.heap.size B d r.1 ∧ Below w.heap.size w (set4 w1 (w.heap.size + 1) B RA NA d rc nc r) := by
  have nA : ∀ {w' : World} {A : Option Addr} {tt : TypeId} {sz n c : Nat} {xs : List Value}, w'.ownsRow W.heap.size tt sz (.slice A n c) n xs → obA A ≠ some (w.heap.size + 1) := fun h q => by
    have := (World.ownsRow.lt h _ (by rw [obA_own]; exact q)).1
    omega
  have h0 : Below w.heap.size w w1 := bch hb (bch (below_drew W) hb1)
  refine ⟨?_, (((h0.setCell (Nat.le_succ _) (p := ⟨w.heap.size + 1, 0, none⟩) _).setCell (Nat.le_succ _) (p := ⟨w.heap.size + 1, 1, none⟩) _).setCell (Nat.le_succ _) (p := ⟨w.heap.size + 1, 2, none⟩) _).setCell (Nat.le_succ _) (p := ⟨w.heap.size + 1, 3, none⟩) _⟩
  exact row_mono (own_set (own_set (own_set (own_set ho (nA ho)) (nA ho)) (nA ho)) (nA ho)) (by omega)
set_option maxRecDepth 100000 in
set_option maxHeartbeats 4000000 in
theorem ref_any (LA RA NA : Option Addr) (lc rc nc : Nat) (r : Res8) (w : World) (hr : Rd w LA r.1) (hl : r.1.length ≤ 100000) :
    Calls Tryz.prog 14 #[.agg (outC LA RA NA lc rc nc r)] w fun en w' => ∃ B d, en = .returned (.agg (outC B RA NA d rc nc r)) ∧ Own 82 w' w.heap.size B d r.1 ∧ Below w.heap.size w w' := by
  obtain ⟨q1, q2, q3, q4⟩ := ref_ahead w (outC LA RA NA lc rc nc r)
  unfold outC at q1 q2 q3 q4 ⊢
  obtain ⟨W, hW⟩ : ∃ W, (w.alloc (.cells #[.slice LA r.1.length lc, .slice RA r.2.1.length rc, .slice NA r.2.2.1.length nc, .int .i64 r.2.2.2] 31)).alloc (.cells #[.slice none 0 0, .slice none 0 0, .slice none 0 0, .int .i64 0] 37) = W := ⟨_, rfl⟩
  rw [hW] at q1 q2 q3 q4
  have HQ1 := Lib.hid q1
  have HQ2 := Lib.hid q2
  have HB := Lib.hid q3
  have HZ := Lib.hid q4
  have C := Lib.hid (fun W1 (h : Rd W1 LA r.1) => refs_any LA lc r.1 W1 h (by omega))
  have HR := Lib.hid (hr.below q3)
  clear hr
  have k0 : W.drew.cell? ⟨w.heap.size, 0, none⟩ = some (.slice LA r.1.length lc) := cell_of q1 0
  have k1 : W.drew.cell? ⟨w.heap.size, 1, none⟩ = some (.slice RA r.2.1.length rc) := cell_of q1 1
  have k2 : W.drew.cell? ⟨w.heap.size, 2, none⟩ = some (.slice NA r.2.2.1.length nc) := cell_of q1 2
  have k3 : W.drew.cell? ⟨w.heap.size, 3, none⟩ = some (.int .i64 r.2.2.2) := cell_of q1 3
  clear q1 q2 q3 q4
  go_enter Tryz.func14, Tryz.ntmps14
  go_wp2_with fail
  go_region_law
    (refine step_call W.drew (by rfl) 20 _ _ (by rfl) #[.slice LA r.1.length lc] (by rfl) (enter20 _ _) (R := fun z w' => ∃ B d, z = .slice B r.1.length d ∧ Own 82 w' W.drew.heap.size B d r.1 ∧ Below W.drew.heap.size W.drew w') ((C.out W.drew (HR.out.below (below_drew W))).mono fun _ _ ⟨B, d, a1, a2, a3⟩ => ⟨_, a1, B, d, rfl, a2, a3⟩) ?_
     rintro z w1 ⟨B, d, rfl, ho, hb1⟩
     have e0 := cell_below hb1 k0
     have e1 := cell_below hb1 k1
     have e2 := cell_below hb1 k2
     have e3 := cell_below hb1 k3
     have hp : w1.heap[w.heap.size + 1]? = _ := (hb1.block _ (by show w.heap.size + 1 < W.heap.size; have := HZ.out; omega)).trans HQ2.out
     have r0 : w1.cell? ⟨w.heap.size + 1, 0, none⟩ = some (.slice none 0 0) := cell_of hp 0
     have r1 : w1.cell? ⟨w.heap.size + 1, 1, none⟩ = some (.slice none 0 0) := cell_of hp 1
     have r2 : w1.cell? ⟨w.heap.size + 1, 2, none⟩ = some (.slice none 0 0) := cell_of hp 2
     have r3 : w1.cell? ⟨w.heap.size + 1, 3, none⟩ = some (.int .i64 0) := cell_of hp 3
     have f0 := frozen_of hp 0
     have f1 := frozen_of hp 1
     have f2 := frozen_of hp 2
     have f3 := frozen_of hp 3
     have BK := Lib.hid (blk_set (blk_set (blk_set (blk_set hp 0 (.slice B r.1.length d)) 1 (.slice RA r.2.1.length rc)) 2 (.slice NA r.2.2.1.length nc)) 3 (.int .i64 r.2.2.2))
     have HE := Lib.hid (ref_end (RA := RA) (NA := NA) (rc := rc) (nc := nc) HB.out HZ.out (show Own 82 w1 W.heap.size B d r.1 from ho) hb1)
     clear hp ho hb1)
  all_goals
    go_wp2_with fail
    refine bodyPost_ret (results_cell_row (P := Tryz.prog) rfl _ _ (w.heap.size + 1) 37 #[.slice B r.1.length d, .slice RA r.2.1.length rc, .slice NA r.2.2.1.length nc, .int .i64 r.2.2.2] (0, 0) _ (by rfl) BK.out Tryz.underlying37 rfl info37) rfl ?_
    exact ⟨B, d, rfl, HE.out.1, HE.out.2⟩
end Go.Proofs.YtmnbepapgghdaaaGreat

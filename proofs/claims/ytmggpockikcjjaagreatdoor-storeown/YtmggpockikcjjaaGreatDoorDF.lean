/-
  Len and Pending of a disk.
-/
import Derived.Test.YtmggpockikcjjaaGreatDoorDE
namespace Go.Proofs.YtmggpockikcjjaaGreatDoor.Dsk
open Go.RowKit

theorem DiskAt.cells {w : World} {s : Nat} {F : Nat → Prop} {st : DS} (h : DiskAt w s F st) : w.cell? ⟨s, 2, none⟩ = some (.int .i64 st.n) ∧ ∃ A c, w.cell? ⟨s, 5, none⟩ = some (.slice A st.pend.length c) := by
  obtain ⟨set, left, m1, m2, A, c, f1, f2, N1, N2, d⟩ := h
  obtain ⟨⟨_, _, c2, _, _, c5⟩, _⟩ := dcell d.blk
  exact ⟨c2, A, c, c5⟩
theorem pending_disk {w : World} {s : Nat} {F : Nat → Prop} {st : DS} (h : DiskAt w s F st) : Calls Tryz.prog 23 #[.pointer (some ⟨s, 0, none⟩)] w fun e w' => e = .returned (.int .i64 st.pend.length) ∧ w' = w := by
  obtain ⟨_, A, c, c5⟩ := h.cells
  exact pending_any s _ c A w c5
theorem len_disk {w : World} {s : Nat} {F : Nat → Prop} {st : DS} (h : DiskAt w s F st) : Calls Tryz.prog 22 #[.pointer (some ⟨s, 0, none⟩)] w fun e w' => e = .returned (.int .i64 st.n) ∧ w' = w := len_any s _ w h.cells.1
end Go.Proofs.YtmggpockikcjjaaGreatDoor.Dsk

/-
  A disk of the call's own (Mine); the contract of fixed: calls whose answers the document fixes.
-/
import Derived.Test.YtnfnbbipmempjaaE
namespace Go.Proofs.Ytnfnbbipmempjaa
open Go.RowKit

/-- A disk that was made since w0, and nothing of w0 has turned. -/
def Mine (w0 w : World) (s : Nat) (st : DS) : Prop := ∃ F, DiskAt w s F st ∧ (∀ x, F x → w0.heap.size ≤ x) ∧ Below w0.heap.size w0 w
theorem Mine.below {w0 w : World} {s : Nat} {st : DS} (h : Mine w0 w s st) : Below w0.heap.size w0 w := by obtain ⟨_, _, _, h⟩ := h; exact h
theorem Mine.ok {w0 w : World} {s : Nat} {st : DS} (h : Mine w0 w s st) : Ok st := by obtain ⟨_, h, _⟩ := h; exact h.ok
theorem Mine.step {w0 w : World} {s f : Nat} {st st' : DS} {v : Value} {args : Array Value} (h : Mine w0 w s st) (C : ∀ F, DiskAt w s F st → Calls Try.prog f args w (DPost w s F st' v)) :
    Calls Try.prog f args w (fun e w' => e = .returned v ∧ Mine w0 w' s st') := by
  obtain ⟨F, hd, hF, hb⟩ := h
  refine (C F hd).mono ?_
  rintro e w' ⟨rfl, hk, F', hd', hF'⟩
  refine ⟨rfl, F', hd', fun x hx => ?_, hb.trans (hk.below hb.size hF)⟩
  rcases hF' x hx with q | q
  · exact hF x q
  · exact Nat.le_trans hb.size q
theorem Mine.new (w : World) (n : Nat) (h1 : 1 ≤ n) (h2 : n ≤ 4096) :
    Calls Try.prog 8 #[.int .i64 n] w fun e w' => ∃ s, e = .returned (.tuple #[.pointer (some ⟨s, 0, none⟩), .int .i64 0]) ∧ Mine w w' s (newS n) :=
  (new_any n w h1 h2).mono fun _ _ ⟨he, hb, hd⟩ => ⟨_, he, _, hd, fun _ hx => hx.1, hb⟩
theorem Mine.read {w0 w : World} {s : Nat} {st : DS} (h : Mine w0 w s st) (i0 : Int) :
    Calls Try.prog 21 #[.pointer (some ⟨s, 0, none⟩), .int .i64 i0] w fun e w' => e = .returned (.tuple #[.string ⟨(readS st i0).toArray⟩, .int .i64 (readE st i0)]) ∧ w' = w := by
  obtain ⟨F, hd, _⟩ := h
  exact read_any i0 s F st w hd
theorem DiskAt.cells {w : World} {s : Nat} {F : Nat → Prop} {st : DS} (h : DiskAt w s F st) : w.cell? ⟨s, 2, none⟩ = some (.int .i64 st.n) ∧ ∃ A c, w.cell? ⟨s, 5, none⟩ = some (.slice A st.pend.length c) := by
  obtain ⟨set, left, m1, m2, A, c, f1, f2, N1, N2, d⟩ := h
  obtain ⟨⟨_, _, c2, _, _, c5⟩, _⟩ := dcell d.blk
  exact ⟨c2, A, c, c5⟩
theorem pending_disk {w : World} {s : Nat} {F : Nat → Prop} {st : DS} (h : DiskAt w s F st) : Calls Try.prog 19 #[.pointer (some ⟨s, 0, none⟩)] w fun e w' => e = .returned (.int .i64 st.pend.length) ∧ w' = w := by
  obtain ⟨_, A, c, c5⟩ := h.cells
  exact pending_any s _ c A w c5
theorem len_disk {w : World} {s : Nat} {F : Nat → Prop} {st : DS} (h : DiskAt w s F st) : Calls Try.prog 22 #[.pointer (some ⟨s, 0, none⟩)] w fun e w' => e = .returned (.int .i64 st.n) ∧ w' = w := len_any s _ w h.cells.1
theorem Mine.pending {w0 w : World} {s : Nat} {st : DS} (h : Mine w0 w s st) : Calls Try.prog 19 #[.pointer (some ⟨s, 0, none⟩)] w fun e w' => e = .returned (.int .i64 st.pend.length) ∧ w' = w := by
  obtain ⟨F, hd, _⟩ := h
  exact pending_disk hd
theorem Mine.len {w0 w : World} {s : Nat} {st : DS} (h : Mine w0 w s st) : Calls Try.prog 22 #[.pointer (some ⟨s, 0, none⟩)] w fun e w' => e = .returned (.int .i64 st.n) ∧ w' = w := by
  obtain ⟨F, hd, _⟩ := h
  exact len_disk hd
theorem Mine.write {w0 w : World} {s : Nat} {st : DS} (h : Mine w0 w s st) (i0 : Int) (t : Tx) (hc : st.cnt < 1000) (ht : t.length ≤ 1000) :
    Calls Try.prog 17 #[.pointer (some ⟨s, 0, none⟩), .int .i64 i0, .string ⟨t.toArray⟩] w (fun e w' => e = .returned (.int .i64 (writeE st i0 t)) ∧ Mine w0 w' s (writeS st i0 t)) := h.step fun F hd => write_disk i0 s t F st w hd hc ht
theorem Mine.sync {w0 w : World} {s : Nat} {st : DS} (h : Mine w0 w s st) : Calls Try.prog 18 #[.pointer (some ⟨s, 0, none⟩)] w (fun e w' => e = .returned (.int .i64 (syncE st)) ∧ Mine w0 w' s (syncS st)) := h.step fun F hd => sync_disk s F st w hd
theorem Mine.limit {w0 w : World} {s : Nat} {st : DS} (h : Mine w0 w s st) (n : Int) (h1 : -9223372036854775808 ≤ n) (h2 : n ≤ 9223372036854775807) :
    Calls Try.prog 20 #[.pointer (some ⟨s, 0, none⟩), .int .i64 n] w (fun e w' => e = .returned (.tuple #[]) ∧ Mine w0 w' s (limitS st n)) := h.step fun F hd => limit_disk s n F st w hd h1 h2
theorem Mine.crash {w0 w : World} {s : Nat} {st : DS} (h : Mine w0 w s st) (B : Option Addr) (cB : Nat) (ks : List Bool) (hr : RdB w B ks) (hks : ks.length ≤ 9223372036854775807) :
    Calls Try.prog 15 #[.pointer (some ⟨s, 0, none⟩), .slice B ks.length cB] w (fun e w' => e = .returned (.tuple #[]) ∧ Mine w0 w' s (crashS st ks)) := h.step fun F hd => crash_disk B cB s ks F st w hd hr hks
theorem Mine.kp {w0 w w' : World} {s : Nat} {st : DS} (h : Mine w0 w s st) (hk : Below w.heap.size w w') : Mine w0 w' s st := by
  obtain ⟨F, hd, hF, hb⟩ := h
  exact ⟨F, hd.kp (Kp.of_below hk NoB) (fun _ _ h => h), hF, hb.trans (hk.mono hb.size)⟩
theorem Mine.alloc {w0 w : World} {s : Nat} {st : DS} (h : Mine w0 w s st) (o : Obj) : Mine w0 (w.alloc o) s st := h.kp ((Below.refl _ _).alloc (Nat.le_refl _) _)

def fx0 : DS := newS 2
def fx1 : DS := writeS fx0 0 [97]
def fx2 : DS := syncS fx1
def fx3 : DS := writeS fx2 0 [98]
def fx4 : DS := writeS fx3 1 [99]
def fx5 : DS := writeS fx4 2 [120]
def fx6 : DS := limitS fx5 0
def fx7 : DS := writeS fx6 1 [100]
def fx8 : DS := syncS fx7
def fx9 : DS := crashS fx8 [false, true]
def fx10 : DS := writeS fx9 1 [101]
theorem fxc {s : DS} {k : Nat} (h : s.cnt = k) (hk : k < 1000) : s.cnt < 1000 := by omega

set_option maxRecDepth 100000 in
set_option maxHeartbeats 4000000 in
theorem fixed_any (w : World) : Calls Try.prog 10 #[] w fun e w' => e = .returned (.bool true) ∧ Below w.heap.size w w' := by
  go_enter Try.func10, Try.ntmps10
  go_wp2_with fail
  refine (Mine.new w 2 (by omega) (by omega)).mono ?_
  rintro e w1 ⟨s, rfl, h1⟩
  have H1 : Hid (Mine w w1 s fx0) := h1
  clear h1
  go_wp2_with fail
  refine (new_bad 0 w1 (by omega)).mono ?_
  rintro e w1' ⟨rfl, rfl⟩
  go_wp2_with fail
  refine (H1.out.write 0 [97] (fxc (k := 0) rfl (by omega)) (by decide)).mono ?_
  rw [show writeE fx0 0 [97] = 0 from rfl]
  rintro e w2 ⟨rfl, h⟩
  have H2 : Hid (Mine w w2 s fx1) := h
  clear h H1
  go_wp2_with fail
  refine H2.out.sync.mono ?_
  rw [show syncE fx1 = 0 from rfl]
  rintro e w3 ⟨rfl, h⟩
  have H3 : Hid (Mine w w3 s fx2) := h
  clear h H2
  go_wp2_with fail
  refine (H3.out.write 0 [98] (fxc (k := 1) rfl (by omega)) (by decide)).mono ?_
  rw [show writeE fx2 0 [98] = 0 from rfl]
  rintro e w4 ⟨rfl, h⟩
  have H4 : Hid (Mine w w4 s fx3) := h
  clear h H3
  go_wp2_with fail
  refine (H4.out.write 1 [99] (fxc (k := 2) rfl (by omega)) (by decide)).mono ?_
  rw [show writeE fx3 1 [99] = 0 from rfl]
  rintro e w5 ⟨rfl, h⟩
  have H5 : Hid (Mine w w5 s fx4) := h
  clear h H4
  go_wp2_with fail
  refine (H5.out.write 2 [120] (fxc (k := 3) rfl (by omega)) (by decide)).mono ?_
  rw [show writeE fx4 2 [120] = 1 from rfl]
  rintro e w6 ⟨rfl, h⟩
  have H6 : Hid (Mine w w6 s fx5) := h
  clear h H5
  go_wp2_with fail
  refine (H6.out.read 0).mono ?_
  rw [show readS fx5 0 = [98] from rfl, show readE fx5 0 = 0 from rfl]
  rintro e w6' ⟨rfl, rfl⟩
  go_wp2_with fail
  refine H6.out.pending.mono ?_
  rw [show fx5.pend.length = 2 from rfl]
  rintro e w6'' ⟨rfl, rfl⟩
  go_wp2_with fail
  refine (H6.out.limit 0 (by omega) (by omega)).mono ?_
  rintro e w7 ⟨rfl, h⟩
  have H7 : Hid (Mine w w7 s fx6) := h
  clear h H6
  go_wp2_with fail
  refine (H7.out.write 1 [100] (fxc (k := 3) rfl (by omega)) (by decide)).mono ?_
  rw [show writeE fx6 1 [100] = 8 from rfl]
  rintro e w8 ⟨rfl, h⟩
  have H8 : Hid (Mine w w8 s fx7) := h
  clear h H7
  go_wp2_with fail
  refine H8.out.sync.mono ?_
  rw [show syncE fx7 = 8 from rfl]
  rintro e w9 ⟨rfl, h⟩
  have H9 : Hid (Mine w w9 s fx8) := h
  clear h H8
  go_wp2_with fail
  refine ((H9.out.alloc (.cells #[.bool false, .bool true] 4)).crash (some ⟨w9.heap.size, 0, none⟩) 2 [false, true] (fun _ => ⟨w9.heap.size, 0, rfl, fun i x hi => by rw [Nat.zero_add, cell_of (blk_new _ _) i]; simpa [bcells] using hi⟩) (by decide)).mono ?_
  rintro e w10 ⟨rfl, h⟩
  have H10 : Hid (Mine w w10 s fx9) := h
  clear h H9
  go_wp2_with fail
  refine (H10.out.read 0).mono ?_
  rw [show readS fx9 0 = [97] from rfl, show readE fx9 0 = 0 from rfl]
  rintro e w10' ⟨rfl, rfl⟩
  go_wp2_with fail
  refine (H10.out.read 1).mono ?_
  rw [show readS fx9 1 = [99] from rfl, show readE fx9 1 = 0 from rfl]
  rintro e w10'' ⟨rfl, rfl⟩
  go_wp2_with fail
  refine (H10.out.read (-1)).mono ?_
  rw [show readS fx9 (-1) = [] from rfl, show readE fx9 (-1) = 1 from rfl]
  rintro e w10'' ⟨rfl, rfl⟩
  go_wp2_with fail
  refine H10.out.pending.mono ?_
  rw [show fx9.pend.length = 0 from rfl]
  rintro e w10'' ⟨rfl, rfl⟩
  go_wp2_with fail
  refine H10.out.len.mono ?_
  rw [show fx9.n = 2 from rfl]
  rintro e w10'' ⟨rfl, rfl⟩
  go_wp2_with fail
  refine (H10.out.write 1 [101] (fxc (k := 3) rfl (by omega)) (by decide)).mono ?_
  rw [show writeE fx9 1 [101] = 0 from rfl]
  rintro e w11 ⟨rfl, h⟩
  have H11 : Hid (Mine w w11 s fx10) := h
  clear h H10
  go_wp2
  go_ret
  exact ⟨rfl, H11.out.below⟩
end Go.Proofs.Ytnfnbbipmempjaa

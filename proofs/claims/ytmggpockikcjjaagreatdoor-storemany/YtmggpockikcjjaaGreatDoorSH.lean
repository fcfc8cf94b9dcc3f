/-
  Contracts of store.Open and of the law's On.
-/
import Derived.Test.YtmggpockikcjjaaGreatDoorSG
namespace Go.Proofs.YtmggpockikcjjaaGreatDoor
open Go.RowKit
open Dsk (DS Tx Wt Kp DiskAt NoB Ok newS)

/-- A disk that holds a map, whole, with nothing pending; the blocks that it may reach. -/
structure DAt (w : World) (s : Nat) (F : Nat → Prop) (n : Nat) (fs : List Fl) (st : DS) : Prop where
  disk : DiskAt w s F st
  lo : ∀ x, F x → 6 ≤ x
  n4 : 4 ≤ n
  n64 : n ≤ 64
  clean : Clean n fs st
def OpenPost (w : World) (s : Nat) (F : Nat → Prop) (n : Nat) (fs : List Fl) (st : DS) (e : Ending) (w' : World) : Prop :=
  ∃ q, e = .returned (.tuple #[.pointer (some ⟨q, 0, none⟩), .int .i64 0]) ∧ w.heap.size ≤ q ∧ Below w.heap.size w w' ∧ SAt w' q s (fun x => F x ∧ x < w.heap.size) n fs st
set_option maxRecDepth 100000 in
set_option maxHeartbeats 2000000 in
theorem open_any (s n : Nat) (F : Nat → Prop) (st : DS) (fs : List Fl) (w : World) (T : Tabs w) (hD : DAt w s F n fs st) :
    Calls Tryz.prog 19 #[.pointer (some ⟨s, 0, none⟩)] w (OpenPost w s F n fs st) := by
  obtain ⟨hd, hlo, n4, n64, hn, hp, h, k, hH⟩ := hD
  have hk : k ≤ 2047 := by have := hH.k1; unfold halfN at this; omega
  have C1 := Lib.hid (Dsk.len_disk hd)
  rw [hn] at C1
  have C2 := Lib.hid (half_any n w (by omega) (by omega))
  have C3 := Lib.hid (markOn_any s F st h k w hd (by omega) hp hH.mark hH.h1 hk)
  have HD := Lib.hid hd
  have HX := Lib.hid (And.intro hlo (And.intro hn (And.intro hp hH)))
  have hT := T.big
  have hh2 : halfN n ≤ 31 := by unfold halfN; omega
  obtain ⟨H2, hH2⟩ : ∃ H2, 2 + halfN n = H2 := ⟨_, rfl⟩
  have f1 : (2 : Int) + (halfN n : Int) = (H2 : Int) := by omega
  have hi4 : ¬ (n : Int) < 4 := by omega
  clear hd hlo hn hp hH T
  go_enter Tryz.func19, Tryz.ntmps19
  go_wp2_with fail
  refine C1.out.mono ?_
  rintro e w ⟨rfl, rfl⟩
  go_wp2_with fail
  refine C1.out.mono ?_
  rintro e w ⟨rfl, rfl⟩
  go_wp2_with fail
  refine C2.out.mono ?_
  rintro e w ⟨rfl, rfl⟩
  go_wp2_with fail
  refine C3.out.mono ?_
  rintro e w1 ⟨rfl, hb1⟩
  have HB1 := Lib.hid hb1
  clear hb1 C1 C2 C3
  go_wp2
  go_ret2
  subst hH2
  have hs1 := HB1.out.size
  obtain ⟨x1, x2, x3, x4⟩ := HX.out
  have hb2 := bch HB1.out (one_below w1 (.cells (qcells s n h k) 61))
  refine ⟨w1.heap.size, rfl, hs1, hb2, HD.out.within.kp (Kp.of_below hb2 NoB) (fun _ _ h => h), fun x => by omega, fun x hx => x1 x hx.1, by omega, n4, n64, x2, x3, h, k, x4, Dsk.blk_new _ _⟩

theorem open_few (s n : Nat) (F : Nat → Prop) (st : DS) (w : World) (hd : DiskAt w s F st) (hn : st.n = n) (n4 : n < 4) :
    Calls Tryz.prog 19 #[.pointer (some ⟨s, 0, none⟩)] w fun e w' => e = .returned (.tuple #[.pointer none, .int .i64 1]) ∧ w' = w := by
  have C1 := Lib.hid (Dsk.len_disk hd)
  rw [hn] at C1
  have hi4 : (n : Int) < 4 := by omega
  clear hd hn
  go_enter Tryz.func19, Tryz.ntmps19
  go_wp2_with fail
  refine C1.out.mono ?_
  rintro e w ⟨rfl, rfl⟩
  go_wp2
  go_ret2
  exact ⟨rfl, rfl⟩

theorem clean_new {n : Nat} : Clean n [] (newS n) := ⟨rfl, rfl, 0, 0, .inl ⟨rfl, rfl, rfl⟩, by omega, Nat.zero_le _, rfl, Good.nil⟩
def OnPost (n : Nat) (w : World) (e : Ending) (w' : World) : Prop :=
  ∃ q s F, e = .returned (.tuple #[.pointer (some ⟨q, 0, none⟩), .pointer (some ⟨s, 0, none⟩)]) ∧ Below w.heap.size w w' ∧ SAt w' q s F n [] (newS n) ∧ (∀ x, F x → w.heap.size ≤ x) ∧ w.heap.size ≤ q
set_option maxHeartbeats 1000000 in
theorem on_any (n : Nat) (w : World) (T : Tabs w) (n4 : 4 ≤ n) (n64 : n ≤ 64) : Calls Tryz.prog 8 #[.int .i64 n] w (OnPost n w) := by
  have C := Lib.hid (Dsk.new_any n w (by omega) (by omega))
  have HT := Lib.hid T
  have hT := T.big
  clear T
  go_enter Tryz.func8, Tryz.ntmps8
  go_wp2_with fail
  refine C.out.mono ?_
  rintro e w1 ⟨rfl, hb1, hd1⟩
  have H1 := Lib.hid (And.intro hb1 hd1)
  generalize w.heap.size + 2 = s at *
  clear hb1 hd1 C
  go_wp2_with fail
  refine (open_any s n _ (newS n) [] w1 (HT.out.below H1.out.1) ⟨H1.out.2, fun x hx => by omega, n4, n64, clean_new⟩).mono ?_
  rintro e w2 ⟨q, rfl, hq, hb2, hS⟩
  have H2 := Lib.hid (And.intro hb2 hS)
  have hs1 := H1.out.1.size
  clear hb2 hS
  go_wp2
  go_ret2
  exact ⟨q, s, _, rfl, bch H1.out.1 H2.out.1, H2.out.2, fun x hx => hx.1.1, by omega⟩
def FewPost (n : Nat) (w : World) (e : Ending) (w' : World) : Prop :=
  ∃ s F, e = .returned (.tuple #[.pointer none, .pointer (some ⟨s, 0, none⟩)]) ∧ Below w.heap.size w w' ∧ DiskAt w' s F (newS n) ∧ ∀ x, F x → w.heap.size ≤ x
set_option maxHeartbeats 1000000 in
theorem on_few (n : Nat) (w : World) (n1 : 1 ≤ n) (n4 : n < 4) : Calls Tryz.prog 8 #[.int .i64 n] w (FewPost n w) := by
  have C := Lib.hid (Dsk.new_any n w (by omega) (by omega))
  go_enter Tryz.func8, Tryz.ntmps8
  go_wp2_with fail
  refine C.out.mono ?_
  rintro e w1 ⟨rfl, hb1, hd1⟩
  have H1 := Lib.hid (And.intro hb1 hd1)
  generalize w.heap.size + 2 = s at *
  clear hb1 hd1 C
  go_wp2_with fail
  refine (open_few s n _ (newS n) w1 H1.out.2 rfl n4).mono ?_
  rintro e w1 ⟨rfl, rfl⟩
  go_wp2
  go_ret2
  exact ⟨s, _, rfl, H1.out.1, H1.out.2, fun x hx => hx.1⟩
end Go.Proofs.YtmggpockikcjjaaGreatDoor

/-
  A store in memory; the contract of replace: all of the other half, then the mark; where the disk stops it panics, and what a crash leaves is whole.
-/
import Derived.Test.YtmggpockikcjjaaGreatDoorSC
import Derived.Test.YtmggpockikcjjaaGreatDoorSD
namespace Go.Proofs.YtmggpockikcjjaaGreatDoor
open Go.RowKit
open Dsk (DS Tx Wt Kp DiskAt liveB writeE writeS usedS pushS hasB syncS syncE NoB)

theorem Tabs.kp {F : Nat → Prop} {w w' : World} (h : Tabs w) (hk : Kp F w w') (hF : ∀ x, F x → 6 ≤ x) : Tabs w' :=
  ⟨var?_below (hk.below h.big hF) gPow (by omega) h.pow, Nat.le_trans h.big hk.size⟩
def qcells (s n h k : Nat) : Array Value := #[.pointer (some ⟨s, 0, none⟩), .int .i64 2, .int .i64 (2 + halfN n : Nat), .int .i64 h, .int .i64 k]
/-- A store on a disk, both in memory: the disk holds a map, whole, and nothing is pending. -/
structure SAt (w : World) (q s : Nat) (F : Nat → Prop) (n : Nat) (fs : List Fl) (st : DS) : Prop where
  disk : DiskAt w s F st
  nq : ¬ F q
  lo : ∀ x, F x → 6 ≤ x
  qlo : 6 ≤ q
  n4 : 4 ≤ n
  n64 : n ≤ 64
  num : st.n = n
  pend : st.pend = []
  is : ∃ h k, Holds st.base n h k fs ∧ w.heap[q]? = some (.cells (qcells s n h k) 61)
def RepPost (w : World) (q s : Nat) (F : Nat → Prop) (n : Nat) (old new : List Fl) (st0 : DS) (e : Ending) (w' : World) : Prop :=
  Kp (fun x => F x ∨ x = q) w w' ∧ ∃ F' st', (∀ x, F' x → F x ∨ w.heap.size ≤ x) ∧ st'.cnt ≤ st0.cnt + halfN n + 1 ∧
    ((e = .returned (.tuple #[]) ∧ SAt w' q s F' n new st' ∧ (st0.lim = none → st'.lim = none) ∧ st0.lim ≠ some 0) ∨
     (e = .panicked pan8 ∧ DiskAt w' s F' st' ∧ st'.n = n ∧ st0.lim ≠ none ∧ Torn n old new st' ∧ (st0.lim = some 0 → st' = st0)))
theorem lim_live {st : DS} (h : liveB st = false) : st.lim = some 0 := by
  unfold liveB at h
  split at h
  · assumption
  · cases h
theorem FillI.lim {st0 st : DS} {first j : Nat} {text : Tx} (F : FillI st0 first text j st) (h : liveB st = false) : st0.lim ≠ none := fun e => by
  have := F.free e
  rw [lim_live h] at this; cases this
theorem sync_no {st : DS} (h : liveB st = false) : syncE st = 8 ∧ syncS st = st := by unfold syncE syncS; rw [h]; simp
theorem sync_yes {st : DS} (h : liveB st = true) : syncE st = 0 := by unfold syncE; rw [h]; simp


structure Syn (st0 : DS) (n h k j : Nat) (old : List Fl) (text : Tx) (st : DS) : Prop where
  num : st.n = n
  pend : st.pend = []
  H : Holds st.base n h k old
  cat : catR st.base (firstN n (1 - h)) j = text
  cnt : st.cnt = st0.cnt + j
  free : st0.lim = none → st.lim = none
  z0 : st0.lim ≠ some 0
  hj : j ≤ halfN n
theorem FillI.syn {st0 st : DS} {n h k j : Nat} {text : Tx} {fs : List Fl} (F : FillI st0 (firstN n (1 - h)) text j st) (hj : j ≤ halfN n) (hn : st0.n = n) (H : Holds st0.base n h k fs) (hl : liveB st = true) (htx : text.take (64 * j) = text) : Syn st0 n h k j fs text (syncS st) := by
  obtain ⟨a, b, c, d, e, f⟩ := F.synced hj hn H hl
  exact ⟨a, b, c, d.trans htx, e, f, fun q => (by have := F.zero q; subst this; unfold liveB at hl; rw [q] at hl; cases hl), hj⟩
theorem free_lim {st0 st : DS} (hf : st0.lim = none → st.lim = none) (h : liveB st = false) : st0.lim ≠ none := fun e => by
  have := hf e
  rw [lim_live h] at this; cases this
theorem Syn.torn {st0 st : DS} {n h k j : Nat} {text : Tx} {fs gs : List Fl} (S : Syn st0 n h k j fs text st) : Torn n fs gs st := Clean.torn ⟨S.num, S.pend, h, k, S.H⟩
structure Mrk (st0 : DS) (n h k j : Nat) (old : List Fl) (text : Tx) (st : DS) : Prop where
  num : st.n = n
  pend : st.pend = [(0, mkT (1 - h) j)]
  H : Holds st.base n h k old
  cat : catR st.base (firstN n (1 - h)) j = text
  cnt : st.cnt = st0.cnt + j + 1
  free : st0.lim = none → st.lim = none
  z0 : st0.lim ≠ some 0
  hj : j ≤ halfN n
theorem Syn.mark {st0 st : DS} {n h k j : Nat} {text : Tx} {fs : List Fl} (S : Syn st0 n h k j fs text st) : Mrk st0 n h k j fs text (pushS (usedS st) 0 (mkT (1 - h) j)) :=
  ⟨S.num, by show st.pend ++ [(0, mkT (1 - h) j)] = _; rw [S.pend]; rfl, S.H, S.cat, by show st.cnt + 1 = _; rw [S.cnt], fun e => live_used (S.free e), S.z0, S.hj⟩
theorem Mrk.torn {st0 st : DS} {n h k j : Nat} {text : Tx} {fs gs : List Fl} (S : Mrk st0 n h k j fs text st) (hg : Good gs) (ht : filesL gs = text) : Torn n fs gs st := torn_marked S.num S.pend S.H S.hj S.cat hg ht.symm
theorem Mrk.done {st0 st : DS} {n h k j : Nat} {text : Tx} {fs gs : List Fl} (S : Mrk st0 n h k j fs text st) (hg : Good gs) (ht : filesL gs = text) (hl : liveB st = true) :
    (syncS st).n = n ∧ (syncS st).pend = [] ∧ Holds (syncS st).base n (1 - h) j gs ∧ (syncS st).cnt = st0.cnt + j + 1 ∧ (st0.lim = none → (syncS st).lim = none) := by
  unfold syncS
  rw [if_pos hl]
  refine ⟨S.num, rfl, ?_, S.cnt, fun e => live_used (S.free e)⟩
  show Holds (Dsk.doL st.base st.pend) n (1 - h) j gs
  rw [S.pend]
  exact holds_marked S.H.h1 S.hj S.cat hg ht.symm

/-- The disk since a world, with the blocks that it may reach now. -/
structure RS (w0 : World) (s : Nat) (F F' : Nat → Prop) (w : World) (st : DS) : Prop where
  kp : Kp F w0 w
  disk : DiskAt w s F' st
  sub : ∀ x, F' x → F x ∨ w0.heap.size ≤ x
theorem RS.below {w0 : World} {s : Nat} {F F' : Nat → Prop} {w w' : World} {st : DS} (R : RS w0 s F F' w st) (hb : Below w.heap.size w w') : RS w0 s F F' w' st :=
  ⟨R.kp.trans (Kp.of_below hb NoB) (fun _ _ h => h.elim), R.disk.kp (Kp.of_below hb NoB) (fun _ _ h => h), R.sub⟩
theorem RS.step {w0 : World} {s : Nat} {F F' F'' : Nat → Prop} {w w' : World} {st st' : DS} (R : RS w0 s F F' w st) (hk : Kp F' w w') (hd : DiskAt w' s F'' st') (hF : ∀ x, F'' x → F' x ∨ w.heap.size ≤ x) : RS w0 s F F'' w' st' := by
  have hs := R.kp.size
  refine ⟨R.kp.trans hk (fun x hx h => ?_), hd, fun x hx => ?_⟩
  · rcases R.sub x h with p | p
    · exact p
    · omega
  · rcases hF x hx with p | p
    · exact R.sub x p
    · exact .inr (by omega)
theorem RS.within {w0 : World} {s : Nat} {F F' : Nat → Prop} {w : World} {st : DS} (R : RS w0 s F F' w st) : RS w0 s F (fun x => F' x ∧ x < w.heap.size) w st := ⟨R.kp, R.disk.within, fun x hx => R.sub x hx.1⟩
theorem RS.dead {w : World} {q s n : Nat} {F F' : Nat → Prop} {w' : World} {st0 st : DS} {old new : List Fl} (R : RS w s F F' w' st) (hc : st.cnt ≤ st0.cnt + halfN n + 1) (hn : st.n = n) (hl : st0.lim ≠ none) (ht : Torn n old new st) (hz : st0.lim = some 0 → st = st0) :
    RepPost w q s F n old new st0 (.panicked pan8) w' := ⟨R.kp.mono (fun _ h => .inl h), F', st, R.sub, hc, .inr ⟨rfl, R.disk, hn, hl, ht, hz⟩⟩
theorem not_new {F F' : Nat → Prop} {w : World} {b : Nat} (h : ¬ F b) (hb : b < w.heap.size) (hF : ∀ x, F' x → F x ∨ w.heap.size ≤ x) : ¬ F' b := fun hx => by
  rcases hF b hx with p | p
  · exact h p
  · omega
theorem cell_kp {F : Nat → Prop} {w w' : World} {b i : Nat} {v : Value} (h : w.cell? ⟨b, i, none⟩ = some v) (hk : Kp F w w') (hn : ¬ F b) : w'.cell? ⟨b, i, none⟩ = some v :=
  (World.cell?_of_block (hk.block b (World.block_lt_of_cell? w _ h) hn)).trans h
/-- One operation of a drawn region taken first, where its slot is known. -/
theorem takeD {P : Program} {ops : Array Oper} {Q : Exit → Act → World → Prop} {md : Region.Mode} {S : World → Prop} {i d : Nat} {oi : Oper} {v : Value} {fuel : Nat} {listed : Array Bool} {a : Act} {w : World} (hi : ops[i]? = some oi) (hd : oi.dst = some d)
    (hs : Region.noSelect ops = true) (hf : Region.free md ops listed i = true) (hr : (Region.ready md ops listed).contains i = true)
    (hQ : ∀ c a w, Q (.panic c) (a.put (some d) v) w → Q (.panic c) a w) (hy : YieldsIf P ops S oi v a) (hS : S w)
    (h : wpAnyH P md ops Q S fuel (listed.setIfInBounds i true) (a.put (some d) v) w) : wpAnyH P md ops Q S (fuel + 1) listed a w :=
  wpAnyH_take hi hs hf hr (by rw [hd]; exact hQ) hy hS (by rw [hd]; exact h)

set_option maxRecDepth 100000 in
set_option maxHeartbeats 8000000 in
theorem replace_0 (q s n k : Nat) (F : Nat → Prop) (st0 : DS) (old new : List Fl) (text : Tx) (w : World) (T : Tabs w) (hd : DiskAt w s F st0) (hnq : ¬ F q) (hlo : ∀ x, F x → 6 ≤ x) (hqlo : 6 ≤ q) (n4 : 4 ≤ n) (n64 : n ≤ 64) (hn : st0.n = n) (hp : st0.pend = []) (hH : Holds st0.base n 0 k old) (bq : w.heap[q]? = some (.cells (qcells s n 0 k) 61))
    (ht : filesL new = text) (hg : Good new) (hl : text.length ≤ 64 * halfN n) (hc : st0.cnt + halfN n + 1 < 1000) :
    Calls Tryz.prog 28 #[.pointer (some ⟨q, 0, none⟩), .string ⟨text.toArray⟩] w (RepPost w q s F n old new st0) := by
  have hk : k ≤ 2047 := by have := hH.k1; unfold halfN at this; omega
  have C1 := Lib.hid (Dsk.pending_disk hd)
  rw [hp] at C1
  have C2 := Lib.hid (markOn_any s F st0 0 k w hd (by omega) hp hH.mark hH.h1 hk)
  have HR := Lib.hid (show RS w s F F w st0 from ⟨Kp.refl _ _, hd, fun _ h => .inl h⟩)
  have HT := Lib.hid T
  have H0 := Lib.hid (And.intro hnq (And.intro hlo hqlo))
  have HH := Lib.hid hH
  have HP := Lib.hid hp
  have HN := Lib.hid hn
  have HG := Lib.hid (And.intro hg ht)
  have HL := Lib.hid hl
  have c0 : w.cell? ⟨q, 0, none⟩ = some (.pointer (some ⟨s, 0, none⟩)) := Dsk.cell_of bq 0
  have BQ := Lib.hid bq
  have hh2 : halfN n ≤ 31 := by unfold halfN; omega
  have HFE := Lib.hid (show firstN n (1 - 0) = 2 + halfN n from rfl)
  clear hd T hnq hlo hqlo hH hp hn ht hg hl bq
  have hfd : ∀ (a b : Value) (w : World), (Instr.field 59 (.agg #[a, b]) 0).run Tryz.prog w = .ok a w := fun _ _ _ => by kernel_rfl
  go_enter Tryz.func28, Tryz.ntmps28
  go_wp2_with fail
  refine C1.out.mono ?_
  rintro e w ⟨rfl, rfl⟩
  go_wp2_with fail
  refine C2.out.mono ?_
  rintro e w1 ⟨rfl, hb1⟩
  have bq1 := blk_below hb1 BQ.out
  have c1 : w1.cell? ⟨q, 0, none⟩ = some (.pointer (some ⟨s, 0, none⟩)) := Dsk.cell_of bq1 0
  have c1a : w1.cell? ⟨q, 1, none⟩ = some (.int .i64 2) := Dsk.cell_of bq1 1
  have c1b : w1.cell? ⟨q, 2, none⟩ = some (.int .i64 (2 + halfN n : Nat)) := Dsk.cell_of bq1 2
  have BQ1 := Lib.hid bq1
  have HR1 := Lib.hid (HR.out.below hb1)
  clear bq1 hb1 C1 C2 HR
  go_wp2_with fail
  refine (fill_any q s n (2 + halfN n) F st0 text w1 HR1.out.disk c1 H0.out.1 HN.out (by omega) HP.out (by have := first_end (n := n) (h := 1 - 0) n4; rwa [HFE.out] at this) HL.out hc).mono ?_
  rintro e w2 ⟨hk2, F2, st2, j, hd2, hF2, hI, hj, hway⟩
  have HI := Lib.hid (show FillI st0 (firstN n (1 - 0)) text j st2 by rw [HFE.out]; exact hI)
  have HR2 := Lib.hid (HR1.out.step hk2 hd2 hF2).within
  have bq2 := hk2.keep BQ1.out H0.out.1
  have c2 : w2.cell? ⟨q, 0, none⟩ = some (.pointer (some ⟨s, 0, none⟩)) := Dsk.cell_of bq2 0
  have hql2 : q < w2.heap.size := World.block_lt_of_cell? _ _ c2
  have hqw : q < w.heap.size := Dsk.lt_of_blk BQ.out
  have HNQ : Hid (¬ (F2 q ∧ q < w2.heap.size)) := Lib.hid (fun x => by rcases HR2.out.sub q x with p | p; exact H0.out.1 p; omega)
  have BQ2 := Lib.hid bq2
  clear bq2 hk2 hd2 hF2 hI c1 c1a c1b BQ1 HR1 c0
  rcases hway with ⟨rfl, htx⟩ | ⟨rfl, hdead⟩
  · have HX := Lib.hid htx
    obtain ⟨w2a, hw2a⟩ : ∃ w2a, w2.alloc (.cells #[.int .i64 1, .int .i64 j] 59) = w2a := ⟨_, rfl⟩
    have hba : Below w2.heap.size w2 w2a := by rw [← hw2a]; exact one_below _ _
    have bg : w2a.heap[w2.heap.size]? = some (.cells #[.int .i64 1, .int .i64 j] 59) := by rw [← hw2a]; exact Dsk.blk_new _ _
    have BG := Lib.hid bg
    have HRa := Lib.hid (HR2.out.below hba)
    have BQa := Lib.hid (blk_below hba BQ2.out)
    have HNG : Hid (¬ (F2 w2.heap.size ∧ w2.heap.size < w2.heap.size)) := Lib.hid (fun x => by omega)
    have hgl := Dsk.lt_of_blk bg
    have hqa := Dsk.lt_of_blk BQa.out
    have C3 := Lib.hid (Dsk.sync_disk s _ st2 w2a HRa.out.disk)
    have HW2a := Lib.hid hw2a
    clear htx hw2a bg hba
    cases hv : liveB st2
    · obtain ⟨y1, y2⟩ := sync_no hv
      rw [y1, y2] at C3
      have HV := Lib.hid hv
      clear y1 y2 hv
      go_wp2_with fail
      rw [HW2a.out]
      refine C3.out.mono ?_
      rintro e w3 ⟨rfl, hk3, F3, hd3, hF3⟩
      have HR3 := Lib.hid (HRa.out.step hk3 hd3 hF3)
      clear hk3 hd3 hF3 C3
      go_wp2_with fail
      refine (must_dead w3).mono ?_
      rintro e w3' ⟨rfl, rfl⟩
      go_wp2
      refine ⟨rfl, HR3.out.dead ?_ (HI.out.n.trans HN.out) (HI.out.lim HV.out) (HI.out.torn hj HN.out HH.out) HI.out.zero⟩
      have := HI.out.cnt; omega
    · have hy := sync_yes hv
      have HS := Lib.hid (HI.out.syn hj HN.out HH.out hv HX.out)
      rw [hy] at C3
      clear hy hv
      generalize syncS st2 = st3 at *
      go_wp2_with fail
      rw [HW2a.out]
      refine C3.out.mono ?_
      rintro e w3 ⟨rfl, hk3, F3, hd3, hF3⟩
      have HR3 := Lib.hid (HRa.out.step hk3 hd3 hF3)
      have nq3 := Lib.hid (not_new HNQ.out hqa hF3)
      have ng3 := Lib.hid (not_new HNG.out hgl hF3)
      have bq3 := Lib.hid (hk3.keep BQa.out HNQ.out)
      have bg3 := Lib.hid (hk3.keep BG.out HNG.out)
      clear hk3 hd3 hF3 C3 HRa BQa BG HNQ HNG HI c2
      go_wp2_with fail
      refine (must_ok w3).mono ?_
      rintro e w3 ⟨rfl, rfl⟩
      have c3 : w3.cell? ⟨q, 0, none⟩ = some (.pointer (some ⟨s, 0, none⟩)) := Dsk.cell_of bq3.out 0
      have g30 : w3.cell? ⟨w2.heap.size, 0, none⟩ = some (.int .i64 1) := Dsk.cell_of bg3.out 0
      have g31 : w3.cell? ⟨w2.heap.size, 1, none⟩ = some (.int .i64 j) := Dsk.cell_of bg3.out 1
      have T3 := Lib.hid (HT.out.kp HR3.out.kp H0.out.2.1)
      have R3d := Lib.hid (HR3.out.below (below_drew w3))
      have T3d := Lib.hid (T3.out.below (below_drew w3))
      have CT := Lib.hid (fun (w : World) (T : Tabs w) => text_any 1 j w T (by omega) (by omega))
      have hml := mkT_len (h := 1) (k := j) (by omega) (by omega)
      have hcn : st3.cnt < 1000 := by have := HS.out.cnt; omega
      have CW := Lib.hid (fun (w : World) (h : DiskAt w s F3 st3) => Dsk.write_disk 0 s (mkT 1 j) F3 st3 w h hcn (by omega))
      have hin : (0 : Nat) < st3.n := by rw [HS.out.num]; omega
      obtain ⟨z1, z2⟩ := write_in (t := mkT 1 j) hin (by omega)
      have HM := Lib.hid HS.out.mark
      rw [show (1 - 0 : Nat) = 1 from rfl] at HM
      generalize mkT 1 j = mt at *
      rw [show ((1 : Nat) : Int) = 1 from rfl] at CT
      rw [show ((0 : Nat) : Int) = 0 from rfl] at z1 z2
      have f3 : w3.heap.size = w3.heap.size := rfl
      clear T3 HR3 f3
      cases hv : liveB st3
      · obtain ⟨y1, y2⟩ := z2 hv
        rw [y1, y2] at CW
        have HV := Lib.hid hv
        clear y1 y2 hv z1 z2 HM
        go_wp2_with fail
        refine wp_region_held_drew (S := fun w' => w'.cell? ⟨q, 0, none⟩ = some (.pointer (some ⟨s, 0, none⟩)) ∧ w'.cell? ⟨w2.heap.size, 0, none⟩ = some (.int .i64 1) ∧ w'.cell? ⟨w2.heap.size, 1, none⟩ = some (.int .i64 j)) (by kernel_rfl) ⟨c3, g30, g31⟩ (fun hHeld => ?_)
        refine takeD (i := 0) (d := 42) (v := .pointer (some ⟨q, 0, none⟩)) rfl (by kernel_rfl) (by kernel_rfl) (by kernel_rfl) (by kernel_rfl) (fun _ _ _ h => h) (Or.inl ⟨by kernel_rfl, fun w _ => by go_simp⟩) hHeld ?_
        simp only [Act.put, List.setIfInBounds_toArray, List.set_cons_zero, List.set_cons_succ]
        refine takeD (i := 1) (d := 43) (v := .pointer (some ⟨q, 0, none⟩)) rfl (by kernel_rfl) (by kernel_rfl) (by kernel_rfl) (by kernel_rfl) (fun _ _ _ h => h) (Or.inl ⟨by kernel_rfl, fun w _ => by go_simp⟩) hHeld ?_
        simp only [Act.put, List.setIfInBounds_toArray, List.set_cons_zero, List.set_cons_succ]
        refine takeD (i := 2) (d := 44) (v := .pointer (some ⟨q, 0, none⟩)) rfl (by kernel_rfl) (by kernel_rfl) (by kernel_rfl) (by kernel_rfl) (fun _ _ _ h => h) (Or.inl ⟨by kernel_rfl, fun w _ => by go_simp⟩) hHeld ?_
        simp only [Act.put, List.setIfInBounds_toArray, List.set_cons_zero, List.set_cons_succ]
        refine takeD (i := 3) (d := 45) (v := .pointer (some ⟨s, 0, none⟩)) rfl (by kernel_rfl) (by kernel_rfl) (by kernel_rfl) (by kernel_rfl) (fun _ _ _ h => h) (Or.inl ⟨by kernel_rfl, fun w hS => by obtain ⟨s1, s2, s3⟩ := hS; go_simp⟩) hHeld ?_
        simp only [Act.put, List.setIfInBounds_toArray, List.set_cons_zero, List.set_cons_succ]
        refine takeD (i := 4) (d := 46) (v := .agg #[.int .i64 1, .int .i64 j]) rfl (by kernel_rfl) (by kernel_rfl) (by kernel_rfl) (by kernel_rfl) (fun _ _ _ h => h) (Or.inl ⟨by kernel_rfl, fun w hS => by obtain ⟨s1, s2, s3⟩ := hS; go_simp⟩) hHeld ?_
        simp only [Act.put, List.setIfInBounds_toArray, List.set_cons_zero, List.set_cons_succ]
        refine wpAnyH_ready (rs := [5]) (by kernel_rfl) (by simp) ?_
        refine AllReadyH.cons rfl (fun K0 hK => ?_) AllReadyH.nil
        rw [if_pos (by kernel_rfl)]
        simp only [List.getElem_toArray, List.getElem_cons_succ, List.getElem_cons_zero]
        go_wp2_with fail
        refine (CT.out _ T3d.out).mono ?_
        rintro e w4 ⟨rfl, hb4⟩
        have HR4 := Lib.hid (R3d.out.below hb4)
        go_wp2_with fail
        refine hK.out _ _ ⟨cell_below hb4 hHeld.1, cell_below hb4 hHeld.2.1, cell_below hb4 hHeld.2.2⟩ (fun hHeld => ?_)
        clear hK
        try simp only [Act.put, List.setIfInBounds_toArray, List.set_cons_zero, List.set_cons_succ]
        refine wpAnyH_ready (rs := [6]) (by kernel_rfl) (by simp) ?_
        refine AllReadyH.cons rfl (fun K0 hK => ?_) AllReadyH.nil
        rw [if_pos (by kernel_rfl)]
        simp only [List.getElem_toArray, List.getElem_cons_succ, List.getElem_cons_zero]
        go_wp2_with fail
        refine (CW.out _ HR4.out.disk).mono ?_
        rintro e w5 ⟨rfl, hk5, F5, hd5, hF5⟩
        have HR5 := Lib.hid (HR4.out.step hk5 hd5 hF5)
        go_wp2_with fail
        refine hK.out _ _ ⟨cell_kp hHeld.1 hk5 nq3.out, cell_kp hHeld.2.1 hk5 ng3.out, cell_kp hHeld.2.2 hk5 ng3.out⟩ (fun hHeld => ?_)
        clear hK hk5 hd5 hF5
        try simp only [Act.put, List.setIfInBounds_toArray, List.set_cons_zero, List.set_cons_succ]
        refine wpAnyH_ready (rs := [7]) (by kernel_rfl) (by simp) ?_
        refine AllReadyH.cons rfl (fun K0 hK => ?_) AllReadyH.nil
        rw [if_pos (by kernel_rfl)]
        simp only [List.getElem_toArray, List.getElem_cons_succ, List.getElem_cons_zero]
        go_wp2_with fail
        refine (must_dead w5).mono ?_
        rintro e w5 ⟨rfl, rfl⟩
        go_wp2
        refine ⟨rfl, HR5.out.dead ?_ HS.out.num (free_lim HS.out.free HV.out) HS.out.torn (fun e => absurd e HS.out.z0)⟩
        have := HS.out.cnt; have := HS.out.hj; omega
      · obtain ⟨y1, y2⟩ := z1 hv
        rw [y1, y2] at CW
        clear y1 y2 hv z1 z2
        go_wp2_with fail
        go_region_held3 (fun w' => w'.cell? ⟨q, 0, none⟩ = some (.pointer (some ⟨s, 0, none⟩)) ∧ w'.cell? ⟨w2.heap.size, 0, none⟩ = some (.int .i64 1) ∧ w'.cell? ⟨w2.heap.size, 1, none⟩ = some (.int .i64 j))
          (first
            | go_keep
            | (go_split_ands
               refine ⟨?_, ?_, ?_⟩ <;> first | exact cell_later hb4 (by assumption) | exact cell_kp (by assumption) hk5 nq3.out | exact cell_kp (by assumption) hk5 ng3.out))
          (first
            | (go_at_call 44; (with_reducible refine (CT.out _ T3d.out).mono ?_); rintro e w4 ⟨rfl, hb4⟩; have HR4 := Lib.hid (R3d.out.below hb4))
            | (go_at_call 43; (with_reducible refine (CW.out _ HR4.out.disk).mono ?_); rintro e w5 ⟨rfl, hk5, F5, hd5, hF5⟩; have HR5 := Lib.hid (HR4.out.step hk5 hd5 hF5))
            | (go_at_call 40; (with_reducible refine (must_ok _).mono ?_); rintro e w5 ⟨rfl, rfl⟩))
        have nq5 := Lib.hid (not_new nq3.out (Nat.lt_of_lt_of_le (Dsk.lt_of_blk bq3.out) hb4.size) hF5)
        have ng5 := Lib.hid (not_new ng3.out (Nat.lt_of_lt_of_le (Dsk.lt_of_blk bg3.out) hb4.size) hF5)
        have bq5 := Lib.hid (hk5.keep (blk_below hb4 (blk_below (below_drew w3) bq3.out)) nq3.out)
        have bg5 := Lib.hid (hk5.keep (blk_below hb4 (blk_below (below_drew w3) bg3.out)) ng3.out)
        have c5 : w5.cell? ⟨q, 0, none⟩ = some (.pointer (some ⟨s, 0, none⟩)) := Dsk.cell_of bq5.out 0
        have C6 := Lib.hid (Dsk.sync_disk s _ _ w5 HR5.out.disk)
        clear hk5 hd5 hF5 hb4 HR4 R3d T3d c3 g30 g31 bq3 bg3 nq3 ng3 CT CW
        generalize pushS (usedS st3) 0 mt = st4 at *
        have hq5 := Dsk.lt_of_blk bq5.out
        have hg5 := Dsk.lt_of_blk bg5.out
        cases hv : liveB st4
        · obtain ⟨y1, y2⟩ := sync_no hv
          rw [y1, y2] at C6
          have HV := Lib.hid hv
          clear y1 y2 hv
          go_wp2_with fail
          refine C6.out.mono ?_
          rintro e w6 ⟨rfl, hk6, F6, hd6, hF6⟩
          have HR6 := Lib.hid (HR5.out.step hk6 hd6 hF6)
          clear hk6 hd6 hF6 C6
          go_wp2_with fail
          refine (must_dead w6).mono ?_
          rintro e w6 ⟨rfl, rfl⟩
          go_wp2
          refine ⟨rfl, HR6.out.dead ?_ HM.out.num (free_lim HM.out.free HV.out) (HM.out.torn HG.out.1 HG.out.2) (fun e => absurd e HM.out.z0)⟩
          have := HM.out.cnt; have := HM.out.hj; omega
        · have hy := sync_yes hv
          have HE := Lib.hid (HM.out.done HG.out.1 HG.out.2 hv)
          rw [hy] at C6
          clear hy hv
          generalize syncS st4 = st5 at *
          go_wp2_with fail
          refine C6.out.mono ?_
          rintro e w6 ⟨rfl, hk6, F6, hd6, hF6⟩
          have HR6 := Lib.hid (HR5.out.step hk6 hd6 hF6)
          have nq6 := Lib.hid (not_new nq5.out hq5 hF6)
          have bq6 := Lib.hid (hk6.keep bq5.out nq5.out)
          have bg6 := Lib.hid (hk6.keep bg5.out ng5.out)
          clear hk6 hd6 hF6 C6 c5
          go_wp2_with fail
          refine (must_ok w6).mono ?_
          rintro e w6 ⟨rfl, rfl⟩
          have c63 : w6.cell? ⟨q, 3, none⟩ = some (.int .i64 0) := Dsk.cell_of bq6.out 3
          have c64 : w6.cell? ⟨q, 4, none⟩ = some (.int .i64 k) := Dsk.cell_of bq6.out 4
          have f63 := Dsk.frozen_of bq6.out 3
          have f64 := Dsk.frozen_of bq6.out 4
          have g60 : w6.cell? ⟨w2.heap.size, 0, none⟩ = some (.int .i64 1) := Dsk.cell_of bg6.out 0
          have g61 : w6.cell? ⟨w2.heap.size, 1, none⟩ = some (.int .i64 j) := Dsk.cell_of bg6.out 1
          go_wp2
          go_end0
          have hb0 := HT.out.big
          obtain ⟨d1, d2, d3, d4, d5⟩ := HE.out
          refine ⟨((HR6.out.kp.mono (fun _ h => .inl h)).setCell (.inl (.inr rfl)) _).setCell (.inl (.inr rfl)) _, F6, st5, HR6.out.sub, ?_, .inl ⟨rfl, ⟨?_, nq6.out, ?_, H0.out.2.2, n4, n64, d1, d2, 1 - 0, j, d3, ?_⟩, d5, HM.out.z0⟩⟩
          · omega
          · exact HR6.out.disk.kp (((Kp.refl (· = q) w6).setCell (p := ⟨q, 3, none⟩) (.inl rfl) _).setCell (p := ⟨q, 4, none⟩) (.inl rfl) _) (fun x hx e => nq6.out (e ▸ hx))
          · intro x hx
            rcases HR6.out.sub x hx with p | p
            · exact H0.out.2.1 x p
            · omega
          · exact Dsk.blk_set (Dsk.blk_set bq6.out 3 _) 4 _
  · have HV := Lib.hid hdead
    clear hdead
    go_wp2
    refine ⟨rfl, HR2.out.dead ?_ (HI.out.n.trans HN.out) (HI.out.lim HV.out) (HI.out.torn hj HN.out HH.out) HI.out.zero⟩
    have := HI.out.cnt; omega

set_option maxRecDepth 100000 in
set_option maxHeartbeats 8000000 in
theorem replace_1 (q s n k : Nat) (F : Nat → Prop) (st0 : DS) (old new : List Fl) (text : Tx) (w : World) (T : Tabs w) (hd : DiskAt w s F st0) (hnq : ¬ F q) (hlo : ∀ x, F x → 6 ≤ x) (hqlo : 6 ≤ q) (n4 : 4 ≤ n) (n64 : n ≤ 64) (hn : st0.n = n) (hp : st0.pend = []) (hH : Holds st0.base n 1 k old) (bq : w.heap[q]? = some (.cells (qcells s n 1 k) 61))
    (ht : filesL new = text) (hg : Good new) (hl : text.length ≤ 64 * halfN n) (hc : st0.cnt + halfN n + 1 < 1000) :
    Calls Tryz.prog 28 #[.pointer (some ⟨q, 0, none⟩), .string ⟨text.toArray⟩] w (RepPost w q s F n old new st0) := by
  have hk : k ≤ 2047 := by have := hH.k1; unfold halfN at this; omega
  have C1 := Lib.hid (Dsk.pending_disk hd)
  rw [hp] at C1
  have C2 := Lib.hid (markOn_any s F st0 1 k w hd (by omega) hp hH.mark hH.h1 hk)
  have HR := Lib.hid (show RS w s F F w st0 from ⟨Kp.refl _ _, hd, fun _ h => .inl h⟩)
  have HT := Lib.hid T
  have H0 := Lib.hid (And.intro hnq (And.intro hlo hqlo))
  have HH := Lib.hid hH
  have HP := Lib.hid hp
  have HN := Lib.hid hn
  have HG := Lib.hid (And.intro hg ht)
  have HL := Lib.hid hl
  have c0 : w.cell? ⟨q, 0, none⟩ = some (.pointer (some ⟨s, 0, none⟩)) := Dsk.cell_of bq 0
  have BQ := Lib.hid bq
  have hh2 : halfN n ≤ 31 := by unfold halfN; omega
  have HFE := Lib.hid (show firstN n (1 - 1) = 2 from rfl)
  clear hd T hnq hlo hqlo hH hp hn ht hg hl bq
  have hfd : ∀ (a b : Value) (w : World), (Instr.field 59 (.agg #[a, b]) 0).run Tryz.prog w = .ok a w := fun _ _ _ => by kernel_rfl
  go_enter Tryz.func28, Tryz.ntmps28
  go_wp2_with fail
  refine C1.out.mono ?_
  rintro e w ⟨rfl, rfl⟩
  go_wp2_with fail
  refine C2.out.mono ?_
  rintro e w1 ⟨rfl, hb1⟩
  have bq1 := blk_below hb1 BQ.out
  have c1 : w1.cell? ⟨q, 0, none⟩ = some (.pointer (some ⟨s, 0, none⟩)) := Dsk.cell_of bq1 0
  have c1a : w1.cell? ⟨q, 1, none⟩ = some (.int .i64 2) := Dsk.cell_of bq1 1
  have c1b : w1.cell? ⟨q, 2, none⟩ = some (.int .i64 (2 + halfN n : Nat)) := Dsk.cell_of bq1 2
  have BQ1 := Lib.hid bq1
  have HR1 := Lib.hid (HR.out.below hb1)
  clear bq1 hb1 C1 C2 HR
  go_wp2_with fail
  refine (fill_any q s n (2) F st0 text w1 HR1.out.disk c1 H0.out.1 HN.out (by omega) HP.out (by have := first_end (n := n) (h := 1 - 1) n4; rwa [HFE.out] at this) HL.out hc).mono ?_
  rintro e w2 ⟨hk2, F2, st2, j, hd2, hF2, hI, hj, hway⟩
  have HI := Lib.hid (show FillI st0 (firstN n (1 - 1)) text j st2 by rw [HFE.out]; exact hI)
  have HR2 := Lib.hid (HR1.out.step hk2 hd2 hF2).within
  have bq2 := hk2.keep BQ1.out H0.out.1
  have c2 : w2.cell? ⟨q, 0, none⟩ = some (.pointer (some ⟨s, 0, none⟩)) := Dsk.cell_of bq2 0
  have hql2 : q < w2.heap.size := World.block_lt_of_cell? _ _ c2
  have hqw : q < w.heap.size := Dsk.lt_of_blk BQ.out
  have HNQ : Hid (¬ (F2 q ∧ q < w2.heap.size)) := Lib.hid (fun x => by rcases HR2.out.sub q x with p | p; exact H0.out.1 p; omega)
  have BQ2 := Lib.hid bq2
  clear bq2 hk2 hd2 hF2 hI c1 c1a c1b BQ1 HR1 c0
  rcases hway with ⟨rfl, htx⟩ | ⟨rfl, hdead⟩
  · have HX := Lib.hid htx
    obtain ⟨w2a, hw2a⟩ : ∃ w2a, w2.alloc (.cells #[.int .i64 0, .int .i64 j] 59) = w2a := ⟨_, rfl⟩
    have hba : Below w2.heap.size w2 w2a := by rw [← hw2a]; exact one_below _ _
    have bg : w2a.heap[w2.heap.size]? = some (.cells #[.int .i64 0, .int .i64 j] 59) := by rw [← hw2a]; exact Dsk.blk_new _ _
    have BG := Lib.hid bg
    have HRa := Lib.hid (HR2.out.below hba)
    have BQa := Lib.hid (blk_below hba BQ2.out)
    have HNG : Hid (¬ (F2 w2.heap.size ∧ w2.heap.size < w2.heap.size)) := Lib.hid (fun x => by omega)
    have hgl := Dsk.lt_of_blk bg
    have hqa := Dsk.lt_of_blk BQa.out
    have C3 := Lib.hid (Dsk.sync_disk s _ st2 w2a HRa.out.disk)
    have HW2a := Lib.hid hw2a
    clear htx hw2a bg hba
    cases hv : liveB st2
    · obtain ⟨y1, y2⟩ := sync_no hv
      rw [y1, y2] at C3
      have HV := Lib.hid hv
      clear y1 y2 hv
      go_wp2_with fail
      rw [HW2a.out]
      refine C3.out.mono ?_
      rintro e w3 ⟨rfl, hk3, F3, hd3, hF3⟩
      have HR3 := Lib.hid (HRa.out.step hk3 hd3 hF3)
      clear hk3 hd3 hF3 C3
      go_wp2_with fail
      refine (must_dead w3).mono ?_
      rintro e w3' ⟨rfl, rfl⟩
      go_wp2
      refine ⟨rfl, HR3.out.dead ?_ (HI.out.n.trans HN.out) (HI.out.lim HV.out) (HI.out.torn hj HN.out HH.out) HI.out.zero⟩
      have := HI.out.cnt; omega
    · have hy := sync_yes hv
      have HS := Lib.hid (HI.out.syn hj HN.out HH.out hv HX.out)
      rw [hy] at C3
      clear hy hv
      generalize syncS st2 = st3 at *
      go_wp2_with fail
      rw [HW2a.out]
      refine C3.out.mono ?_
      rintro e w3 ⟨rfl, hk3, F3, hd3, hF3⟩
      have HR3 := Lib.hid (HRa.out.step hk3 hd3 hF3)
      have nq3 := Lib.hid (not_new HNQ.out hqa hF3)
      have ng3 := Lib.hid (not_new HNG.out hgl hF3)
      have bq3 := Lib.hid (hk3.keep BQa.out HNQ.out)
      have bg3 := Lib.hid (hk3.keep BG.out HNG.out)
      clear hk3 hd3 hF3 C3 HRa BQa BG HNQ HNG HI c2
      go_wp2_with fail
      refine (must_ok w3).mono ?_
      rintro e w3 ⟨rfl, rfl⟩
      have c3 : w3.cell? ⟨q, 0, none⟩ = some (.pointer (some ⟨s, 0, none⟩)) := Dsk.cell_of bq3.out 0
      have g30 : w3.cell? ⟨w2.heap.size, 0, none⟩ = some (.int .i64 0) := Dsk.cell_of bg3.out 0
      have g31 : w3.cell? ⟨w2.heap.size, 1, none⟩ = some (.int .i64 j) := Dsk.cell_of bg3.out 1
      have T3 := Lib.hid (HT.out.kp HR3.out.kp H0.out.2.1)
      have R3d := Lib.hid (HR3.out.below (below_drew w3))
      have T3d := Lib.hid (T3.out.below (below_drew w3))
      have CT := Lib.hid (fun (w : World) (T : Tabs w) => text_any 0 j w T (by omega) (by omega))
      have hml := mkT_len (h := 0) (k := j) (by omega) (by omega)
      have hcn : st3.cnt < 1000 := by have := HS.out.cnt; omega
      have CW := Lib.hid (fun (w : World) (h : DiskAt w s F3 st3) => Dsk.write_disk 0 s (mkT 0 j) F3 st3 w h hcn (by omega))
      have hin : (0 : Nat) < st3.n := by rw [HS.out.num]; omega
      obtain ⟨z1, z2⟩ := write_in (t := mkT 0 j) hin (by omega)
      have HM := Lib.hid HS.out.mark
      rw [show (1 - 1 : Nat) = 0 from rfl] at HM
      generalize mkT 0 j = mt at *
      rw [show ((0 : Nat) : Int) = 0 from rfl] at CT
      rw [show ((0 : Nat) : Int) = 0 from rfl] at z1 z2
      have f3 : w3.heap.size = w3.heap.size := rfl
      clear T3 HR3 f3
      cases hv : liveB st3
      · obtain ⟨y1, y2⟩ := z2 hv
        rw [y1, y2] at CW
        have HV := Lib.hid hv
        clear y1 y2 hv z1 z2 HM
        go_wp2_with fail
        refine wp_region_held_drew (S := fun w' => w'.cell? ⟨q, 0, none⟩ = some (.pointer (some ⟨s, 0, none⟩)) ∧ w'.cell? ⟨w2.heap.size, 0, none⟩ = some (.int .i64 0) ∧ w'.cell? ⟨w2.heap.size, 1, none⟩ = some (.int .i64 j)) (by kernel_rfl) ⟨c3, g30, g31⟩ (fun hHeld => ?_)
        refine takeD (i := 0) (d := 42) (v := .pointer (some ⟨q, 0, none⟩)) rfl (by kernel_rfl) (by kernel_rfl) (by kernel_rfl) (by kernel_rfl) (fun _ _ _ h => h) (Or.inl ⟨by kernel_rfl, fun w _ => by go_simp⟩) hHeld ?_
        simp only [Act.put, List.setIfInBounds_toArray, List.set_cons_zero, List.set_cons_succ]
        refine takeD (i := 1) (d := 43) (v := .pointer (some ⟨q, 0, none⟩)) rfl (by kernel_rfl) (by kernel_rfl) (by kernel_rfl) (by kernel_rfl) (fun _ _ _ h => h) (Or.inl ⟨by kernel_rfl, fun w _ => by go_simp⟩) hHeld ?_
        simp only [Act.put, List.setIfInBounds_toArray, List.set_cons_zero, List.set_cons_succ]
        refine takeD (i := 2) (d := 44) (v := .pointer (some ⟨q, 0, none⟩)) rfl (by kernel_rfl) (by kernel_rfl) (by kernel_rfl) (by kernel_rfl) (fun _ _ _ h => h) (Or.inl ⟨by kernel_rfl, fun w _ => by go_simp⟩) hHeld ?_
        simp only [Act.put, List.setIfInBounds_toArray, List.set_cons_zero, List.set_cons_succ]
        refine takeD (i := 3) (d := 45) (v := .pointer (some ⟨s, 0, none⟩)) rfl (by kernel_rfl) (by kernel_rfl) (by kernel_rfl) (by kernel_rfl) (fun _ _ _ h => h) (Or.inl ⟨by kernel_rfl, fun w hS => by obtain ⟨s1, s2, s3⟩ := hS; go_simp⟩) hHeld ?_
        simp only [Act.put, List.setIfInBounds_toArray, List.set_cons_zero, List.set_cons_succ]
        refine takeD (i := 4) (d := 46) (v := .agg #[.int .i64 0, .int .i64 j]) rfl (by kernel_rfl) (by kernel_rfl) (by kernel_rfl) (by kernel_rfl) (fun _ _ _ h => h) (Or.inl ⟨by kernel_rfl, fun w hS => by obtain ⟨s1, s2, s3⟩ := hS; go_simp⟩) hHeld ?_
        simp only [Act.put, List.setIfInBounds_toArray, List.set_cons_zero, List.set_cons_succ]
        refine wpAnyH_ready (rs := [5]) (by kernel_rfl) (by simp) ?_
        refine AllReadyH.cons rfl (fun K0 hK => ?_) AllReadyH.nil
        rw [if_pos (by kernel_rfl)]
        simp only [List.getElem_toArray, List.getElem_cons_succ, List.getElem_cons_zero]
        go_wp2_with fail
        refine (CT.out _ T3d.out).mono ?_
        rintro e w4 ⟨rfl, hb4⟩
        have HR4 := Lib.hid (R3d.out.below hb4)
        go_wp2_with fail
        refine hK.out _ _ ⟨cell_below hb4 hHeld.1, cell_below hb4 hHeld.2.1, cell_below hb4 hHeld.2.2⟩ (fun hHeld => ?_)
        clear hK
        try simp only [Act.put, List.setIfInBounds_toArray, List.set_cons_zero, List.set_cons_succ]
        refine wpAnyH_ready (rs := [6]) (by kernel_rfl) (by simp) ?_
        refine AllReadyH.cons rfl (fun K0 hK => ?_) AllReadyH.nil
        rw [if_pos (by kernel_rfl)]
        simp only [List.getElem_toArray, List.getElem_cons_succ, List.getElem_cons_zero]
        go_wp2_with fail
        refine (CW.out _ HR4.out.disk).mono ?_
        rintro e w5 ⟨rfl, hk5, F5, hd5, hF5⟩
        have HR5 := Lib.hid (HR4.out.step hk5 hd5 hF5)
        go_wp2_with fail
        refine hK.out _ _ ⟨cell_kp hHeld.1 hk5 nq3.out, cell_kp hHeld.2.1 hk5 ng3.out, cell_kp hHeld.2.2 hk5 ng3.out⟩ (fun hHeld => ?_)
        clear hK hk5 hd5 hF5
        try simp only [Act.put, List.setIfInBounds_toArray, List.set_cons_zero, List.set_cons_succ]
        refine wpAnyH_ready (rs := [7]) (by kernel_rfl) (by simp) ?_
        refine AllReadyH.cons rfl (fun K0 hK => ?_) AllReadyH.nil
        rw [if_pos (by kernel_rfl)]
        simp only [List.getElem_toArray, List.getElem_cons_succ, List.getElem_cons_zero]
        go_wp2_with fail
        refine (must_dead w5).mono ?_
        rintro e w5 ⟨rfl, rfl⟩
        go_wp2
        refine ⟨rfl, HR5.out.dead ?_ HS.out.num (free_lim HS.out.free HV.out) HS.out.torn (fun e => absurd e HS.out.z0)⟩
        have := HS.out.cnt; have := HS.out.hj; omega
      · obtain ⟨y1, y2⟩ := z1 hv
        rw [y1, y2] at CW
        clear y1 y2 hv z1 z2
        go_wp2_with fail
        go_region_held3 (fun w' => w'.cell? ⟨q, 0, none⟩ = some (.pointer (some ⟨s, 0, none⟩)) ∧ w'.cell? ⟨w2.heap.size, 0, none⟩ = some (.int .i64 0) ∧ w'.cell? ⟨w2.heap.size, 1, none⟩ = some (.int .i64 j))
          (first
            | go_keep
            | (go_split_ands
               refine ⟨?_, ?_, ?_⟩ <;> first | exact cell_later hb4 (by assumption) | exact cell_kp (by assumption) hk5 nq3.out | exact cell_kp (by assumption) hk5 ng3.out))
          (first
            | (go_at_call 44; (with_reducible refine (CT.out _ T3d.out).mono ?_); rintro e w4 ⟨rfl, hb4⟩; have HR4 := Lib.hid (R3d.out.below hb4))
            | (go_at_call 43; (with_reducible refine (CW.out _ HR4.out.disk).mono ?_); rintro e w5 ⟨rfl, hk5, F5, hd5, hF5⟩; have HR5 := Lib.hid (HR4.out.step hk5 hd5 hF5))
            | (go_at_call 40; (with_reducible refine (must_ok _).mono ?_); rintro e w5 ⟨rfl, rfl⟩))
        have nq5 := Lib.hid (not_new nq3.out (Nat.lt_of_lt_of_le (Dsk.lt_of_blk bq3.out) hb4.size) hF5)
        have ng5 := Lib.hid (not_new ng3.out (Nat.lt_of_lt_of_le (Dsk.lt_of_blk bg3.out) hb4.size) hF5)
        have bq5 := Lib.hid (hk5.keep (blk_below hb4 (blk_below (below_drew w3) bq3.out)) nq3.out)
        have bg5 := Lib.hid (hk5.keep (blk_below hb4 (blk_below (below_drew w3) bg3.out)) ng3.out)
        have c5 : w5.cell? ⟨q, 0, none⟩ = some (.pointer (some ⟨s, 0, none⟩)) := Dsk.cell_of bq5.out 0
        have C6 := Lib.hid (Dsk.sync_disk s _ _ w5 HR5.out.disk)
        clear hk5 hd5 hF5 hb4 HR4 R3d T3d c3 g30 g31 bq3 bg3 nq3 ng3 CT CW
        generalize pushS (usedS st3) 0 mt = st4 at *
        have hq5 := Dsk.lt_of_blk bq5.out
        have hg5 := Dsk.lt_of_blk bg5.out
        cases hv : liveB st4
        · obtain ⟨y1, y2⟩ := sync_no hv
          rw [y1, y2] at C6
          have HV := Lib.hid hv
          clear y1 y2 hv
          go_wp2_with fail
          refine C6.out.mono ?_
          rintro e w6 ⟨rfl, hk6, F6, hd6, hF6⟩
          have HR6 := Lib.hid (HR5.out.step hk6 hd6 hF6)
          clear hk6 hd6 hF6 C6
          go_wp2_with fail
          refine (must_dead w6).mono ?_
          rintro e w6 ⟨rfl, rfl⟩
          go_wp2
          refine ⟨rfl, HR6.out.dead ?_ HM.out.num (free_lim HM.out.free HV.out) (HM.out.torn HG.out.1 HG.out.2) (fun e => absurd e HM.out.z0)⟩
          have := HM.out.cnt; have := HM.out.hj; omega
        · have hy := sync_yes hv
          have HE := Lib.hid (HM.out.done HG.out.1 HG.out.2 hv)
          rw [hy] at C6
          clear hy hv
          generalize syncS st4 = st5 at *
          go_wp2_with fail
          refine C6.out.mono ?_
          rintro e w6 ⟨rfl, hk6, F6, hd6, hF6⟩
          have HR6 := Lib.hid (HR5.out.step hk6 hd6 hF6)
          have nq6 := Lib.hid (not_new nq5.out hq5 hF6)
          have bq6 := Lib.hid (hk6.keep bq5.out nq5.out)
          have bg6 := Lib.hid (hk6.keep bg5.out ng5.out)
          clear hk6 hd6 hF6 C6 c5
          go_wp2_with fail
          refine (must_ok w6).mono ?_
          rintro e w6 ⟨rfl, rfl⟩
          have c63 : w6.cell? ⟨q, 3, none⟩ = some (.int .i64 1) := Dsk.cell_of bq6.out 3
          have c64 : w6.cell? ⟨q, 4, none⟩ = some (.int .i64 k) := Dsk.cell_of bq6.out 4
          have f63 := Dsk.frozen_of bq6.out 3
          have f64 := Dsk.frozen_of bq6.out 4
          have g60 : w6.cell? ⟨w2.heap.size, 0, none⟩ = some (.int .i64 0) := Dsk.cell_of bg6.out 0
          have g61 : w6.cell? ⟨w2.heap.size, 1, none⟩ = some (.int .i64 j) := Dsk.cell_of bg6.out 1
          go_wp2
          go_end0
          have hb0 := HT.out.big
          obtain ⟨d1, d2, d3, d4, d5⟩ := HE.out
          refine ⟨((HR6.out.kp.mono (fun _ h => .inl h)).setCell (.inl (.inr rfl)) _).setCell (.inl (.inr rfl)) _, F6, st5, HR6.out.sub, ?_, .inl ⟨rfl, ⟨?_, nq6.out, ?_, H0.out.2.2, n4, n64, d1, d2, 1 - 1, j, d3, ?_⟩, d5, HM.out.z0⟩⟩
          · omega
          · exact HR6.out.disk.kp (((Kp.refl (· = q) w6).setCell (p := ⟨q, 3, none⟩) (.inl rfl) _).setCell (p := ⟨q, 4, none⟩) (.inl rfl) _) (fun x hx e => nq6.out (e ▸ hx))
          · intro x hx
            rcases HR6.out.sub x hx with p | p
            · exact H0.out.2.1 x p
            · omega
          · exact Dsk.blk_set (Dsk.blk_set bq6.out 3 _) 4 _
  · have HV := Lib.hid hdead
    clear hdead
    go_wp2
    refine ⟨rfl, HR2.out.dead ?_ (HI.out.n.trans HN.out) (HI.out.lim HV.out) (HI.out.torn hj HN.out HH.out) HI.out.zero⟩
    have := HI.out.cnt; omega

theorem replace_any (q s n : Nat) (F : Nat → Prop) (st0 : DS) (old new : List Fl) (text : Tx) (w : World) (T : Tabs w) (hS : SAt w q s F n old st0) (ht : filesL new = text) (hg : Good new) (hl : text.length ≤ 64 * halfN n) (hc : st0.cnt + halfN n + 1 < 1000) :
    Calls Tryz.prog 28 #[.pointer (some ⟨q, 0, none⟩), .string ⟨text.toArray⟩] w (RepPost w q s F n old new st0) := by
  obtain ⟨hd, hnq, hlo, hqlo, n4, n64, hn, hp, h, k, hH, bq⟩ := hS
  have h1 := hH.h1
  rcases (show h = 0 ∨ h = 1 by omega) with rfl | rfl
  · exact replace_0 q s n k F st0 old new text w T hd hnq hlo hqlo n4 n64 hn hp hH bq ht hg hl hc
  · exact replace_1 q s n k F st0 old new text w T hd hnq hlo hqlo n4 n64 hn hp hH bq ht hg hl hc
end Go.Proofs.YtmggpockikcjjaaGreatDoor

/-
  Package expand: Expand, within its bounds.
  Package expand: Expand on files that are handed in; a law's own expansion of one file.
  The laws of package expand: two answers that are the same.
  Expansions whose answers the document fixes.
  The law's own calls whose answers the document fixes.
-/
import Derived.Test.YtmnbepapgghdaaaGreatK30
import Derived.Test.YtmnbepapgghdaaaGreatK04
import Derived.Test.YtmnbepapgghdaaaGreatK11
import Derived.KernelRfl
namespace Go.Proofs.YtmnbepapgghdaaaGreat
open Go.RowKit

theorem none_fine {fuel most : Nat} {main : By} (hf : fuel ≤ 50) : Fine most 1000 60000 (({ (noted ((ex0 fuel).ask main) main (some 4)) with inp := [] }) : Ex) := by
  refine ⟨⟨fun t ht => (by cases ht), fun m hm => by cases hm⟩, Good.nil, Nat.zero_le _, fun m hm => (by cases hm), ?_, Nat.zero_le _, ?_⟩
  · show (if main ∈ ([] : List By) then ([] : List By) else [] ++ [main]).length ≤ 32
    simp
  · show ([] ++ [((4 : Int), main)]).length + mu 1000 _ ≤ 60000
    unfold mu
    show 1 + (fuel * (1000 + 1) + 0) ≤ 60000
    have : fuel * (1000 + 1) ≤ 50 * 1001 := Nat.mul_le_mul hf (Nat.le_refl _)
    omega
theorem fs_short {w : World} {A : Option Addr} {fs : List Fl.Fl} (h : Fs w A fs) : Short (flF fs) := fun n t ht => Nat.le_trans (h.txt _ (Fl.getL_mem ht)) (by omega)
theorem fine_ask {k : Xk} {e : Ex} {C : Nat} (h : Fine k.most 1000 C e) (hm : k.most ≤ 1000) (hf : k.fuel ≤ 1000) : Ask k e :=
  ⟨h.pt, h.good, h.len, h.bods, h.reads, by have := h.out; omega, hm, hf⟩
/-- What holds at each round. -/
def Loop (k : Xk) (fs : List Fl.Fl) (R : List Tok × List By × List (Int × By) × Nat) (W2 wr : World) : Prop :=
  ∃ e n, XW k wr e n ∧ outX (runE Fl.nmOk (flF fs) k.most e) = R ∧ Fine k.most 1000 60000 e ∧ n + mu 1000 e ≤ 60000 ∧ Below k.base W2 wr
theorem loop_none {k : Xk} {W2 w4 : World} {fs : List Fl.Fl} {main : By} {fuel : Nat} (hno : flF fs main = none) (hf : fuel ≤ 50) (hx : XWa k w4 (noted ((ex0 fuel).ask main) main (some 4)) 0 0) (hb : Below k.base W2 w4) :
    (∃ v, w4.cell? ⟨k.p, 6, none⟩ = some v) ∧ w4.frozen? ⟨k.p, 6, none⟩ = false ∧ Hid (Loop k fs (outX (expE Fl.nmOk (flF fs) fuel k.most main)) W2 (w4.setCell ⟨k.p, 6, none⟩ (.slice none 0 0))) := by
  obtain ⟨s, hr, hn, ha⟩ := hx
  have hN := hr.newT (Below.refl _ _) (A := none) (c := 0) (l := []) (own_nil _ _ _) (fun g hg => by cases hg) (by omega) (Nat.zero_le _)
  refine ⟨⟨_, hr.cell 6⟩, hr.froz 6, Lib.hid ⟨_, 0, ⟨_, hN, hn⟩, ?_, ?_, ?_, hb.setCell hr.hp (p := ⟨k.p, 6, none⟩) _⟩⟩
  · rw [run_end (by show ([] : List Tok).drop s.at_ = []; simp)]
    unfold expE
    rw [hno]
    rfl
  · rw [ha]; exact none_fine hf
  · rw [ha]; exact Nat.le_trans (Nat.le_of_eq (Nat.zero_add _)) (Nat.le_trans (Nat.le_add_left _ _) (none_fine (most := k.most) (main := main) hf).notes)
theorem loop_some {k : Xk} {W2 w4 w3 : World} {fs : List Fl.Fl} {main t : By} {fuel d : Nat} {B : Option Addr} (hyes : flF fs main = some t) (hf : fuel ≤ 50) (hm : k.most ≤ 900) (ht : t.length ≤ 1000) (hx : XWa k w4 ((ex0 fuel).ask main) 0 0) (hb : Below k.base W2 w4) (ho : Own 89 w3 w4.heap.size B d (toks t)) (hb3 : Below w4.heap.size w4 w3) :
    (∃ v, w3.cell? ⟨k.p, 6, none⟩ = some v) ∧ w3.frozen? ⟨k.p, 6, none⟩ = false ∧ Hid (Loop k fs (outX (expE Fl.nmOk (flF fs) fuel k.most main)) W2 (w3.setCell ⟨k.p, 6, none⟩ (.slice B (toks t).length d))) := by
  obtain ⟨s, hr, hn, ha⟩ := hx
  have hz : k.base ≤ w4.heap.size := by have := lt_of_blk hr.blk; have := hr.hp; omega
  have hl := toks_len t
  have hN := hr.newT hb3 (ho.mono hz) (fun g hg => (World.ownsRow.lt ho g (by rw [obA_own]; exact hg)).1) (by omega) (by omega)
  have hr3 := hr.below hb3
  have hfine := ask_fine (main := main) hf hm ht
  refine ⟨⟨_, hr3.cell 6⟩, hr3.froz 6, Lib.hid ⟨_, 0, ⟨_, hN, hn⟩, ?_, ?_, ?_, (hb.trans (hb3.mono hz)).setCell hr.hp (p := ⟨k.p, 6, none⟩) _⟩⟩
  · rw [ha]
    unfold expE
    rw [hyes]
    rfl
  · rw [ha]; exact hfine
  · rw [ha]; exact Nat.le_trans (Nat.le_of_eq (Nat.zero_add _)) (Nat.le_trans (Nat.le_add_left _ _) hfine.notes)
theorem loop_step {k : Xk} {W2 wr w' : World} {fs : List Fl.Fl} {R : List Tok × List By × List (Int × By) × Nat} {e : Ex} {n : Nat} {t : Tok} {r : List Tok} (hS : Short (flF fs)) (hm : k.most ≤ 900) (h2 : outX (runE Fl.nmOk (flF fs) k.most e) = R) (h3 : Fine k.most 1000 60000 e) (h4 : n + mu 1000 e ≤ 60000) (h5 : Below k.base W2 wr) (hi : e.inp = t :: r) (hb : Below k.base wr w') (hx : XW k w' (stepL Fl.nmOk (flF fs) k.most e) (n + 1)) :
    Loop k fs R W2 w' ∧ muW 1000 k.p w' < mu 1000 e := by
  have hmu := stepL_mu (ok := Fl.nmOk) (F := flF fs) (show k.most ≤ 1000 by omega) h3 (by rw [hi]; simp)
  refine ⟨⟨_, n + 1, hx, run_stepL.trans h2, stepL_fine hS (by omega) h3, by omega, h5.trans hb⟩, ?_⟩
  rw [muW_eq 1000 hx]
  exact hmu
/-- The result's cells, at the end. -/
theorem loop_end {k : Xk} {w0 W2 wr : World} {s : Xs} {e : Ex} (hx : XR k wr s e) (hk : k.base = w0.heap.size + 1) (h2 : Below w0.heap.size w0 W2) (hb : Below k.base W2 wr)
    (hR : W2.heap[w0.heap.size]? = some (.cells #[.slice none 0 0, .slice none 0 0, .slice none 0 0, .int .i64 0] 31)) :
    wr.heap[w0.heap.size]? = some (.cells #[.slice none 0 0, .slice none 0 0, .slice none 0 0, .int .i64 0] 31) ∧
    ∃ wf, wf = (((wr.setCell ⟨w0.heap.size, 0, none⟩ (.slice s.LA e.out.length s.lc)).setCell ⟨w0.heap.size, 1, none⟩ (.slice s.RA e.reads.length s.rc)).setCell ⟨w0.heap.size, 2, none⟩ (.slice s.NA e.notes.length s.nc)).setCell ⟨w0.heap.size, 3, none⟩ (.int .i64 e.used) ∧
    Hid (wf.heap[w0.heap.size]? = some (.cells #[.slice s.LA e.out.length s.lc, .slice s.RA e.reads.length s.rc, .slice s.NA e.notes.length s.nc, .int .i64 e.used] 31)) ∧
    Hid (ExpPost w0 (outX e) (.returned (.tuple #[.agg #[.slice s.LA e.out.length s.lc, .slice s.RA e.reads.length s.rc, .slice s.NA e.notes.length s.nc, .int .i64 e.used], .int .i64 0])) wf) := by
  have hlt := lt_of_blk hR
  have hwr := (hb.block _ (by omega)).trans hR
  refine ⟨hwr, _, rfl, Lib.hid ?_, Lib.hid ?_⟩
  · rw [blk_set (blk_set (blk_set (blk_set hwr 0 _) 1 _) 2 _) 3 _]; rfl
  · refine ⟨s.LA, s.RA, s.NA, s.lc, s.rc, s.nc, rfl, ?_, ?_⟩
    · have h0 : OutO wr k.base s.LA s.RA s.NA s.lc s.rc s.nc (outX e) := ⟨hx.out, hx.reads, hx.notes⟩
      exact ((((h0.set (by omega)).set (by omega)).set (by omega)).set (by omega)).mono (by omega)
    · exact ((((h2.trans ((hb.mono (by omega) : Below w0.heap.size W2 wr))).setCell (Nat.le_refl _) (p := ⟨w0.heap.size, 0, none⟩) _).setCell (Nat.le_refl _) (p := ⟨w0.heap.size, 1, none⟩) _).setCell (Nat.le_refl _) (p := ⟨w0.heap.size, 2, none⟩) _).setCell (Nat.le_refl _) (p := ⟨w0.heap.size, 3, none⟩) _
set_option maxRecDepth 100000 in
set_option maxHeartbeats 4000000 in
theorem expand_go (fs : List Fl.Fl) (main : By) (A : Option Addr) (fc fuel most : Nat) (w : World) (hf : fuel ≤ 50) (hm : most ≤ 900) (hF : Fs w A fs) :
    Calls Tryz.prog 11 #[.slice A fs.length fc, .string ⟨main.toArray⟩, .int .i64 fuel, .int .i64 most] w (ExpPost w (outX (expE Fl.nmOk (flF fs) fuel most main))) := by
  obtain ⟨R, hR⟩ : ∃ R, outX (expE Fl.nmOk (flF fs) fuel most main) = R := ⟨_, rfl⟩
  rw [hR]
  have HRR := Lib.hid hR
  clear hR
  have HSH := Lib.hid (fs_short hF)
  have HK := blk31 w
  have HB := Lib.hid (one_below w (.cells #[.slice none 0 0, .slice none 0 0, .slice none 0 0, .int .i64 0] 31))
  obtain ⟨W0, hW⟩ : ∃ W0, w.alloc (.cells #[.slice none 0 0, .slice none 0 0, .slice none 0 0, .int .i64 0] 31) = W0 := ⟨_, rfl⟩
  rw [hW] at HB HK
  have HBK := Lib.hid HK
  have HZ := Lib.hid (show W0.heap.size = w.heap.size + 1 by rw [← hW]; simp)
  clear HK
  have i1 : (0 : Int) ≤ fuel := by omega
  have i2 : (fuel : Int) ≤ 1000 := by omega
  have i3 : (0 : Int) ≤ most := by omega
  have i4 : (most : Int) ≤ 20000 := by omega
  have C0 := Lib.hid (fun w => commands_any w)
  go_enter Tryz.func11, Tryz.ntmps11
  go_wp2_with fail
  refine (C0.out W0).mono ?_
  rintro en w1 ⟨rfl, hbm, hb1⟩
  rw [HZ.out] at hbm ⊢
  have hmk : ∀ w, (Instr.makeMap 65 none).run Tryz.prog w = .ok (.map (some w.heap.size)) (w.alloc (.map #[] 0)) := fun _ => rfl
  go_wp2_with fail
  obtain ⟨W2, hW2⟩ : ∃ W2, (w1.alloc (.map #[] 0)).alloc (.cells #[.slice A fs.length fc, .int .i64 fuel, .int .i64 most, .map (some (w.heap.size + 1)), .slice none 0 0, .map (some w1.heap.size), .slice none 0 0, .int .i64 0, .slice none 0 0, .slice none 0 0, .slice none 0 0, .int .i64 0] 68) = W2 := ⟨_, rfl⟩
  rw [hW2]
  obtain ⟨HX2, HF2, HL2, HR2, HB2⟩ := expand_new hF HB.out HZ.out HBK.out hbm hb1 hW2
  have HS2 := Lib.hid (show w.heap.size + 1 ≤ W2.heap.size from Nat.le_of_lt (by have := (show XW _ W2 (ex0 fuel) 0 from ⟨_, HX2.out, Nat.le_refl _⟩).size; have h1 : (kE w w1 A fs.length fc fuel most).base = w.heap.size + 1 := rfl; omega))
  obtain ⟨k, hk⟩ : ∃ k, kE w w1 A fs.length fc fuel most = k := ⟨_, rfl⟩
  have HP := Lib.hid (show w1.heap.size + 1 = k.p by rw [← hk]; rfl)
  have HKB := Lib.hid (show k.base = w.heap.size + 1 by rw [← hk]; rfl)
  have HKF := Lib.hid (show k.fuel = fuel by rw [← hk]; rfl)
  have HKM := Lib.hid (show k.most = most by rw [← hk]; rfl)
  rw [hk] at HX2 HF2 HL2
  rw [HP.out]
  clear hW2 hk hbm hb1 hmk
  refine (xask_s k _ (ex0 fuel) 0 fs main W2 HX2.out (Nat.le_refl _) HF2.out HL2.out (Nat.zero_le _)).mono ?_
  rintro en w3 hpost
  rcases hpost with ⟨hno, rfl, hb3, hx3⟩ | ⟨t, B, d, w4, hyes, rfl, hb3, hx3, ho3, hb4⟩
  · have CN := Lib.hid (fun W (hW : XWa k W ((ex0 fuel).ask main) 0 0) => xnote_at k _ 0 0 4 main W hW (err_some (.inr (.inr (.inl rfl)))) (Nat.zero_le _))
    have HX3 := Lib.hid hx3
    have HB3 := Lib.hid hb3
    have HNO := Lib.hid hno
    clear hx3 hb3 hno
    unfold errV at CN ⊢
    go_wp2_with fail
    refine (CN.out _ HX3.out).mono ?_
    rintro en w5 ⟨rfl, hb5, hx5⟩
    obtain ⟨⟨v6, c6⟩, f6, HL⟩ := loop_none HNO.out hf hx5 (HB3.out.trans hb5)
    clear hb5 hx5
    go_wp2_with fail
    rw [HKM.out, HRR.out] at HL
    clear c6 f6
    go_loopw [] (fun wr => Loop k fs R W2 wr) (fun wr => muW 1000 k.p wr)
    case atStart => exact HL.out
    case round =>
      obtain ⟨e, n, hx, h2, h3, h4, h5⟩ := hrel
      have HMU := Lib.hid (muW_eq 1000 hx)
      have HX := Lib.hid hx
      have H2 := Lib.hid h2
      have H3 := Lib.hid h3
      have H4 := Lib.hid h4
      have H5 := Lib.hid h5
      obtain ⟨s, hr, hsn⟩ := hx
      have c6 : wr.cell? ⟨k.p, 6, none⟩ = some (.slice s.TA s.full.length s.tc) := hr.cell 6
      have c7 : wr.cell? ⟨k.p, 7, none⟩ = some (.int .i64 s.at_) := hr.cell 7
      have hil : e.inp.length = s.full.length - s.at_ := by rw [← hr.inp, List.length_drop]
      have hal := hr.atl
      have HR := Lib.hid hr
      clear hr hsn h2 h3 h4 h5
      cases hi : e.inp with
      | cons t r =>
        rw [hi] at hil
        simp only [List.length_cons] at hil
        have HI := Lib.hid hi
        have CS := Lib.hid (xstep_any k e n fs t r wr HX.out hi (fine_ask H3.out (by have := HKM.out; omega) (by have := HKF.out; omega)) (HF2.out.low HL2.out H5.out) HL2.out (by have := H4.out; omega) (by have := H3.out.notes; omega))
        have i5 : (s.at_ : Int) < (s.full.length : Int) := by omega
        clear hi hil hal
        go_wp2_with fail
        refine CS.out.mono ?_
        rintro en w9 ⟨rfl, hb9, hx9⟩
        obtain ⟨hl9, hm9⟩ := loop_step HSH.out (by rw [HKM.out]; exact hm) H2.out H3.out H4.out H5.out HI.out hb9 hx9
        have HL9 := Lib.hid hl9
        have HM9 := Lib.hid hm9
        clear hl9 hm9 hb9 hx9
        go_wp2
        go_roundw
        case rel => exact HL9.out
        case measure => rw [HMU.out]; exact HM9.out
      | nil =>
        rw [hi] at hil
        simp only [List.length_nil] at hil
        have i5 : (s.full.length : Int) ≤ (s.at_ : Int) := by omega
        have c8 : wr.cell? ⟨k.p, 8, none⟩ = some (.slice s.LA e.out.length s.lc) := HR.out.cell 8
        have c9 : wr.cell? ⟨k.p, 9, none⟩ = some (.slice s.RA e.reads.length s.rc) := HR.out.cell 9
        have c10 : wr.cell? ⟨k.p, 10, none⟩ = some (.slice s.NA e.notes.length s.nc) := HR.out.cell 10
        have c11 : wr.cell? ⟨k.p, 11, none⟩ = some (.int .i64 e.used) := HR.out.cell 11
        obtain ⟨hblk, wf, hwf, HW, HP⟩ := loop_end HR.out HKB.out HB2.out H5.out HR2.out
        have r0 : wr.cell? ⟨w.heap.size, 0, none⟩ = some (.slice none 0 0) := cell_of hblk 0
        have r1 : wr.cell? ⟨w.heap.size, 1, none⟩ = some (.slice none 0 0) := cell_of hblk 1
        have r2 : wr.cell? ⟨w.heap.size, 2, none⟩ = some (.slice none 0 0) := cell_of hblk 2
        have r3 : wr.cell? ⟨w.heap.size, 3, none⟩ = some (.int .i64 0) := cell_of hblk 3
        have f0 := frozen_of hblk 0
        have f1 := frozen_of hblk 1
        have f2 := frozen_of hblk 2
        have f3 := frozen_of hblk 3
        have HE := Lib.hid (show outX e = R by rw [← H2.out, run_end hi])
        clear hi hil hal hblk
        subst hwf
        go_wp2_with fail
        refine bodyPost_ret (results_cell_tmp (P := Tryz.prog) rfl _ _ w.heap.size 31 #[.slice s.LA e.out.length s.lc, .slice s.RA e.reads.length s.rc, .slice s.NA e.notes.length s.nc, .int .i64 e.used] (0, 0) _ _ (by rfl) (by rfl) HW.out Tryz.underlying31 rfl (by kernel_rfl)) rfl ?_
        rw [← HE.out]
        exact HP.out
  · obtain ⟨⟨v6, c6⟩, f6, HL⟩ := loop_some hyes hf (by rw [HKM.out]; exact hm) (hF.txt _ (Fl.getL_mem hyes)) hx3 hb3 ho3 hb4
    have CN := Lib.hid (fun W => xnote_none ⟨k.p, 0, none⟩ main W)
    clear hyes hx3 hb3 ho3 hb4
    unfold errV
    go_wp2_with fail
    refine (CN.out _).mono ?_
    rintro en w5 ⟨rfl, rfl⟩
    go_wp2_with fail
    rw [HKM.out, HRR.out] at HL
    clear c6 f6
    go_loopw [] (fun wr => Loop k fs R W2 wr) (fun wr => muW 1000 k.p wr)
    case atStart => exact HL.out
    case round =>
      obtain ⟨e, n, hx, h2, h3, h4, h5⟩ := hrel
      have HMU := Lib.hid (muW_eq 1000 hx)
      have HX := Lib.hid hx
      have H2 := Lib.hid h2
      have H3 := Lib.hid h3
      have H4 := Lib.hid h4
      have H5 := Lib.hid h5
      obtain ⟨s, hr, hsn⟩ := hx
      have c6 : wr.cell? ⟨k.p, 6, none⟩ = some (.slice s.TA s.full.length s.tc) := hr.cell 6
      have c7 : wr.cell? ⟨k.p, 7, none⟩ = some (.int .i64 s.at_) := hr.cell 7
      have hil : e.inp.length = s.full.length - s.at_ := by rw [← hr.inp, List.length_drop]
      have hal := hr.atl
      have HR := Lib.hid hr
      clear hr hsn h2 h3 h4 h5
      cases hi : e.inp with
      | cons t r =>
        rw [hi] at hil
        simp only [List.length_cons] at hil
        have HI := Lib.hid hi
        have CS := Lib.hid (xstep_any k e n fs t r wr HX.out hi (fine_ask H3.out (by have := HKM.out; omega) (by have := HKF.out; omega)) (HF2.out.low HL2.out H5.out) HL2.out (by have := H4.out; omega) (by have := H3.out.notes; omega))
        have i5 : (s.at_ : Int) < (s.full.length : Int) := by omega
        clear hi hil hal
        go_wp2_with fail
        refine CS.out.mono ?_
        rintro en w9 ⟨rfl, hb9, hx9⟩
        obtain ⟨hl9, hm9⟩ := loop_step HSH.out (by rw [HKM.out]; exact hm) H2.out H3.out H4.out H5.out HI.out hb9 hx9
        have HL9 := Lib.hid hl9
        have HM9 := Lib.hid hm9
        clear hl9 hm9 hb9 hx9
        go_wp2
        go_roundw
        case rel => exact HL9.out
        case measure => rw [HMU.out]; exact HM9.out
      | nil =>
        rw [hi] at hil
        simp only [List.length_nil] at hil
        have i5 : (s.full.length : Int) ≤ (s.at_ : Int) := by omega
        have c8 : wr.cell? ⟨k.p, 8, none⟩ = some (.slice s.LA e.out.length s.lc) := HR.out.cell 8
        have c9 : wr.cell? ⟨k.p, 9, none⟩ = some (.slice s.RA e.reads.length s.rc) := HR.out.cell 9
        have c10 : wr.cell? ⟨k.p, 10, none⟩ = some (.slice s.NA e.notes.length s.nc) := HR.out.cell 10
        have c11 : wr.cell? ⟨k.p, 11, none⟩ = some (.int .i64 e.used) := HR.out.cell 11
        obtain ⟨hblk, wf, hwf, HW, HP⟩ := loop_end HR.out HKB.out HB2.out H5.out HR2.out
        have r0 : wr.cell? ⟨w.heap.size, 0, none⟩ = some (.slice none 0 0) := cell_of hblk 0
        have r1 : wr.cell? ⟨w.heap.size, 1, none⟩ = some (.slice none 0 0) := cell_of hblk 1
        have r2 : wr.cell? ⟨w.heap.size, 2, none⟩ = some (.slice none 0 0) := cell_of hblk 2
        have r3 : wr.cell? ⟨w.heap.size, 3, none⟩ = some (.int .i64 0) := cell_of hblk 3
        have f0 := frozen_of hblk 0
        have f1 := frozen_of hblk 1
        have f2 := frozen_of hblk 2
        have f3 := frozen_of hblk 3
        have HE := Lib.hid (show outX e = R by rw [← H2.out, run_end hi])
        clear hi hil hal hblk
        subst hwf
        go_wp2_with fail
        refine bodyPost_ret (results_cell_tmp (P := Tryz.prog) rfl _ _ w.heap.size 31 #[.slice s.LA e.out.length s.lc, .slice s.RA e.reads.length s.rc, .slice s.NA e.notes.length s.nc, .int .i64 e.used] (0, 0) _ _ (by rfl) (by rfl) HW.out Tryz.underlying31 rfl (by kernel_rfl)) rfl ?_
        rw [← HE.out]
        exact HP.out
end Go.Proofs.YtmnbepapgghdaaaGreat

namespace Go.Proofs.YtmnbepapgghdaaaGreat
open Go.RowKit

theorem enter11 (args : Array Value) (w : World) : (callFunc 11 args).run Tryz.prog w = .ok (.enter 11 args) w := enter_of Tryz.func11 (by kernel_rfl) (by kernel_rfl) args w
theorem mono_run {ok : By → Bool} {F : By → Option By} {most B C : Nat} (hF : Short F) (hm : most ≤ B) (e : Ex) : Fine most B C e → Fine most B C (runE ok F most e) :=
  run_ind (fun e e' => Fine most B C e → Fine most B C e') (fun _ _ h => h) (fun _ _ hs h => step_fine hF hm h hs) (fun _ _ _ hs ih h => ih (step_fine hF hm h hs)) e
theorem none_fine' {fuel most : Nat} {main : By} (hf : fuel ≤ 50) : Fine most 1000 60000 (((ex0 fuel).ask main).note 4 main) := none_fine hf
theorem expE_fine {fs : List Fl.Fl} {fuel most : Nat} {main : By} (hf : fuel ≤ 50) (hm : most ≤ 900) (hs : ∀ f ∈ fs, f.2.length ≤ 1000) : Fine most 1000 60000 (expE Fl.nmOk (flF fs) fuel most main) := by
  unfold expE
  cases hF : flF fs main with
  | none => exact none_fine' hf
  | some t => exact mono_run (fun n t ht => Nat.le_trans (hs _ (Fl.getL_mem ht)) (by omega)) (by omega) _ (ask_fine hf hm (hs _ (Fl.getL_mem hF)))
/-- One file. -/
theorem one_fs (w : World) (n s : By) (hs : s.length ≤ 1000) : Fs (w.alloc (.cells #[.string ⟨n.toArray⟩, .string ⟨s.toArray⟩] 45)) (some ⟨w.heap.size, 0, none⟩) [(n, s)] := by
  refine ⟨fun _ => ⟨w.heap.size, 0, rfl, fun i f hi => ?_⟩, by simp, List.pairwise_singleton _ _, fun f hf => ?_⟩
  · match i, hi with
    | 0, hi =>
      cases hi
      exact ⟨new_fst w _ _ 45, new_snd w _ _ 45⟩
    | i + 1, hi => simp at hi
  · simp at hf
    subst hf
    exact hs
/-- An answer, in cells of one block. -/
theorem out_cells (w : World) (LA RA NA : Option Addr) (lc rc nc : Nat) (r : Res8) (t : TypeId) : (w.alloc (.cells (outC LA RA NA lc rc nc r) t)).heap[w.heap.size]? = some (.cells (outC LA RA NA lc rc nc r) t) := heap_alloc_new w _
def OutPost (w : World) (r : Res8) (en : Ending) (w' : World) : Prop :=
  ∃ (LA RA NA : Option Addr) (lc rc nc : Nat), en = .returned (.agg (outC LA RA NA lc rc nc r)) ∧ OutO w' w.heap.size LA RA NA lc rc nc r ∧ Below w.heap.size w w'
def set4 (w : World) (b : Nat) (LA RA NA : Option Addr) (lc rc nc : Nat) (r : Res8) : World :=
  (((w.setCell ⟨b, 0, none⟩ (.slice LA r.1.length lc)).setCell ⟨b, 1, none⟩ (.slice RA r.2.1.length rc)).setCell ⟨b, 2, none⟩ (.slice NA r.2.2.1.length nc)).setCell ⟨b, 3, none⟩ (.int .i64 r.2.2.2)
theorem below4 {b : Nat} {w w' : World} (h : Below b w w') (LA RA NA : Option Addr) (lc rc nc : Nat) (r : Res8) : Below b w (set4 w' b LA RA NA lc rc nc r) :=
  (((h.setCell (Nat.le_refl _) (p := ⟨b, 0, none⟩) _).setCell (Nat.le_refl _) (p := ⟨b, 1, none⟩) _).setCell (Nat.le_refl _) (p := ⟨b, 2, none⟩) _).setCell (Nat.le_refl _) (p := ⟨b, 3, none⟩) _
theorem OutO.set4 {w : World} {b p : Nat} {LA RA NA LA' RA' NA' : Option Addr} {lc rc nc lc' rc' nc' : Nat} {r r' : Res8} (h : OutO w b LA RA NA lc rc nc r) (hp : p < b) : OutO (Go.Proofs.YtmnbepapgghdaaaGreat.set4 w p LA' RA' NA' lc' rc' nc' r') b LA RA NA lc rc nc r :=
  (((h.set hp).set hp).set hp).set hp
/-- Behind a call of Expand in a law, its answer laid in cells; then in the cells of a result. -/
theorem of_end {w W0 w1 : World} {c : Array Value} {LA RA NA : Option Addr} {lc rc nc : Nat} {R : Res8} (hb : Below w.heap.size w W0) (hz : W0.heap.size = w.heap.size + 1)
    (hk : W0.heap[w.heap.size]? = some (.cells #[.slice none 0 0, .slice none 0 0, .slice none 0 0, .int .i64 0] 31))
    (ho : OutO w1 (W0.alloc (.cells c 45)).heap.size LA RA NA lc rc nc R) (hb1 : Below (W0.alloc (.cells c 45)).heap.size (W0.alloc (.cells c 45)) w1) :
    (w1.alloc (.cells (outC LA RA NA lc rc nc R) 31)).heap[w.heap.size]? = some (.cells #[.slice none 0 0, .slice none 0 0, .slice none 0 0, .int .i64 0] 31) ∧ w.heap.size < w1.heap.size ∧
    OutO (set4 (w1.alloc (.cells (outC LA RA NA lc rc nc R) 31)) w.heap.size LA RA NA lc rc nc R) w.heap.size LA RA NA lc rc nc R ∧ Below w.heap.size w (set4 (w1.alloc (.cells (outC LA RA NA lc rc nc R) 31)) w.heap.size LA RA NA lc rc nc R) := by
  have s1 : (W0.alloc (.cells c 45)).heap.size = w.heap.size + 2 := by simp [hz]
  have a1 := one_below W0 (.cells c 45)
  have a2 := one_below w1 (.cells (outC LA RA NA lc rc nc R) 31)
  have a3 : Below W0.heap.size W0 (w1.alloc (.cells (outC LA RA NA lc rc nc R) 31)) := bch (bch a1 hb1) a2
  have hs := hb1.size
  refine ⟨(a3.block _ (by omega)).trans hk, by omega, ?_, below4 (bch hb a3) _ _ _ _ _ _ _⟩
  exact ((ho.below a2).set4 (by omega)).mono (by omega)
set_option maxRecDepth 100000 in
set_option maxHeartbeats 4000000 in
theorem of_any (s : By) (fuel : Nat) (w : World) (hf : fuel ≤ 50) (hs : s.length ≤ 1000) :
    Calls Tryz.prog 17 #[.string ⟨s.toArray⟩, .int .i64 fuel] w (OutPost w (outX (expE Fl.nmOk (flF [([109], s)]) fuel 100 [109]))) := by
  have HK := blk31 w
  have HB := Lib.hid (one_below w (.cells #[.slice none 0 0, .slice none 0 0, .slice none 0 0, .int .i64 0] 31))
  obtain ⟨W0, hW⟩ : ∃ W0, w.alloc (.cells #[.slice none 0 0, .slice none 0 0, .slice none 0 0, .int .i64 0] 31) = W0 := ⟨_, rfl⟩
  rw [hW] at HB HK
  have HBK := Lib.hid HK
  have HZ := Lib.hid (show W0.heap.size = w.heap.size + 1 by rw [← hW]; simp)
  clear HK
  obtain ⟨R, hR⟩ : ∃ R, outX (expE Fl.nmOk (flF [([109], s)]) fuel 100 [109]) = R := ⟨_, rfl⟩
  have C := Lib.hid (expand_go [([109], s)] [109] (some ⟨W0.heap.size, 0, none⟩) 1 fuel 100 (W0.alloc (.cells #[.string ⟨#[109]⟩, .string ⟨s.toArray⟩] 45)) hf (by omega) (one_fs W0 [109] s hs))
  rw [hR] at C ⊢
  clear hR
  go_enter Tryz.func17, Tryz.ntmps17
  go_wp2_with fail
  refine C.out.mono ?_
  rintro en w1 ⟨LA, RA, NA, lc, rc, nc, rfl, ho, hb1⟩
  obtain ⟨hp, hlt, ho2, hb2⟩ := of_end HB.out HZ.out HBK.out ho hb1
  have HO2 := Lib.hid ho2
  have HB2 := Lib.hid hb2
  have hq := out_cells w1 LA RA NA lc rc nc R 31
  have HLT := Lib.hid hlt
  unfold outC at hq ho2 ⊢
  have k0 := cell_of hq 0
  have k1 := cell_of hq 1
  have k2 := cell_of hq 2
  have k3 := cell_of hq 3
  obtain ⟨W2, hW2⟩ : ∃ W2, w1.alloc (.cells #[.slice LA R.1.length lc, .slice RA R.2.1.length rc, .slice NA R.2.2.1.length nc, .int .i64 R.2.2.2] 31) = W2 := ⟨_, rfl⟩
  have hp2 : W2.heap[w.heap.size]? = some (.cells #[.slice none 0 0, .slice none 0 0, .slice none 0 0, .int .i64 0] 31) := by rw [← hW2]; exact hp
  rw [hW2] at k0 k1 k2 k3
  have k0 : W2.cell? ⟨w1.heap.size, 0, none⟩ = some (.slice LA R.1.length lc) := k0
  have k1 : W2.cell? ⟨w1.heap.size, 1, none⟩ = some (.slice RA R.2.1.length rc) := k1
  have k2 : W2.cell? ⟨w1.heap.size, 2, none⟩ = some (.slice NA R.2.2.1.length nc) := k2
  have k3 : W2.cell? ⟨w1.heap.size, 3, none⟩ = some (.int .i64 R.2.2.2) := k3
  have r0 : W2.cell? ⟨w.heap.size, 0, none⟩ = some (.slice none 0 0) := cell_of hp2 0
  have r1 : W2.cell? ⟨w.heap.size, 1, none⟩ = some (.slice none 0 0) := cell_of hp2 1
  have r2 : W2.cell? ⟨w.heap.size, 2, none⟩ = some (.slice none 0 0) := cell_of hp2 2
  have r3 : W2.cell? ⟨w.heap.size, 3, none⟩ = some (.int .i64 0) := cell_of hp2 3
  have f0 := frozen_of hp2 0
  have f1 := frozen_of hp2 1
  have f2 := frozen_of hp2 2
  have f3 := frozen_of hp2 3
  have BK := Lib.hid (blk_set (blk_set (blk_set (blk_set hp2 0 (.slice LA R.1.length lc)) 1 (.slice RA R.2.1.length rc)) 2 (.slice NA R.2.2.1.length nc)) 3 (.int .i64 R.2.2.2))
  have HW2 := Lib.hid hW2
  clear hp hlt ho2 hb2 hq hp2 ho hb1
  go_wp2_with fail
  refine bodyPost_ret (results_cell_row (P := Tryz.prog) rfl _ _ w.heap.size 31 #[.slice LA R.1.length lc, .slice RA R.2.1.length rc, .slice NA R.2.2.1.length nc, .int .i64 R.2.2.2] (0, 0) _ (by rfl) BK.out Tryz.underlying31 rfl (by kernel_rfl)) rfl ?_
  have ho2 := HO2.out
  have hb2 := HB2.out
  unfold outC at ho2 hb2
  rw [HW2.out] at ho2 hb2
  exact ⟨LA, RA, NA, lc, rc, nc, rfl, ho2, hb2⟩
end Go.Proofs.YtmnbepapgghdaaaGreat

namespace Go.Proofs.YtmnbepapgghdaaaGreat
open Go.RowKit

/-- Rows of an answer, to read. -/
structure RdO (w : World) (LA RA NA : Option Addr) (r : Res8) : Prop where
  l : Rd w LA r.1
  reads : RdS w RA r.2.1
  notes : Rd w NA r.2.2.1
theorem RdO.below {w w' : World} {LA RA NA : Option Addr} {r : Res8} (h : RdO w LA RA NA r) (hb : Below w.heap.size w w') : RdO w' LA RA NA r := ⟨h.l.below hb, h.reads.below hb, h.notes.below hb⟩
theorem OutO.rdo {w : World} {b : Nat} {LA RA NA : Option Addr} {lc rc nc : Nat} {r : Res8} (h : OutO w b LA RA NA lc rc nc r) : RdO w LA RA NA r := ⟨h.l.rd, OwnT.rd h.reads, h.notes.rd⟩
/-- No row of it is long. -/
def Sm (r : Res8) : Prop := r.1.length ≤ 1000 ∧ r.2.1.length ≤ 100 ∧ r.2.2.1.length ≤ 100000
theorem two_boxes (w : World) (c d : Array Value) : let W := (w.alloc (.cells c 37)).alloc (.cells d 37)
    W.heap[w.heap.size]? = some (.cells c 37) ∧ W.heap[w.heap.size + 1]? = some (.cells d 37) ∧ Below w.heap.size w W ∧ W.heap.size = w.heap.size + 2 := by
  have s1 : (w.alloc (.cells c 37)).heap.size = w.heap.size + 1 := by simp
  have h1 := heap_alloc_new w (.cells c 37)
  have h2 := heap_alloc_new (w.alloc (.cells c 37)) (.cells d 37)
  have b2 := one_below (w.alloc (.cells c 37)) (.cells d 37)
  rw [s1] at h2
  exact ⟨(b2.block _ (by omega)).trans h1, h2, bch (one_below w _) b2, by simp⟩
set_option maxRecDepth 100000 in
set_option maxHeartbeats 4000000 in
theorem same8_any (LA RA NA LB RB NB : Option Addr) (lc rc nc ld rd nd : Nat) (r : Res8) (w : World) (h : RdO w LA RA NA r) (g : RdO w LB RB NB r) (hs : Sm r) :
    Calls Tryz.prog 13 #[.agg (outC LA RA NA lc rc nc r), .agg (outC LB RB NB ld rd nd r)] w fun en w' => en = .returned (.bool true) ∧ Below w.heap.size w w' := by
  obtain ⟨q1, q2, q3, q4⟩ := two_boxes w (outC LA RA NA lc rc nc r) (outC LB RB NB ld rd nd r)
  unfold outC at q1 q2 q3 q4 ⊢
  obtain ⟨s1, s2, s3⟩ := hs
  obtain ⟨W, hW⟩ : ∃ W, (w.alloc (.cells #[.slice LA r.1.length lc, .slice RA r.2.1.length rc, .slice NA r.2.2.1.length nc, .int .i64 r.2.2.2] 37)).alloc (.cells #[.slice LB r.1.length ld, .slice RB r.2.1.length rd, .slice NB r.2.2.1.length nd, .int .i64 r.2.2.2] 37) = W := ⟨_, rfl⟩
  rw [hW] at q1 q2 q3 q4
  have HB := Lib.hid q3
  have H := Lib.hid (fun n => (h.below q3).below (drewN_below W n))
  have G := Lib.hid (fun n => (g.below q3).below (drewN_below W n))
  have C1 := Lib.hid (fun n => same_any LA LB lc ld r.1 r.1 (W.drewN n) (H.out n).l (G.out n).l (by omega) (by omega))
  have C2 := Lib.hid (fun n => rwords_any RA RB rc rd r.2.1 r.2.1 (W.drewN n) (H.out n).reads (G.out n).reads (by omega) (by omega))
  have C3 := Lib.hid (fun n => rnotes_any NA NB nc nd r.2.2.1 r.2.2.1 (W.drewN n) (H.out n).notes (G.out n).notes (by omega) (by omega))
  simp only [decide_true] at C1 C2 C3
  have k0 : ∀ n, (W.drewN n).cell? ⟨w.heap.size, 0, none⟩ = some (.slice LA r.1.length lc) := fun n => cell_of q1 0
  have k1 : ∀ n, (W.drewN n).cell? ⟨w.heap.size, 1, none⟩ = some (.slice RA r.2.1.length rc) := fun n => cell_of q1 1
  have k2 : ∀ n, (W.drewN n).cell? ⟨w.heap.size, 2, none⟩ = some (.slice NA r.2.2.1.length nc) := fun n => cell_of q1 2
  have k3 : ∀ n, (W.drewN n).cell? ⟨w.heap.size, 3, none⟩ = some (.int .i64 r.2.2.2) := fun n => cell_of q1 3
  have j0 : ∀ n, (W.drewN n).cell? ⟨w.heap.size + 1, 0, none⟩ = some (.slice LB r.1.length ld) := fun n => cell_of q2 0
  have j1 : ∀ n, (W.drewN n).cell? ⟨w.heap.size + 1, 1, none⟩ = some (.slice RB r.2.1.length rd) := fun n => cell_of q2 1
  have j2 : ∀ n, (W.drewN n).cell? ⟨w.heap.size + 1, 2, none⟩ = some (.slice NB r.2.2.1.length nd) := fun n => cell_of q2 2
  have j3 : ∀ n, (W.drewN n).cell? ⟨w.heap.size + 1, 3, none⟩ = some (.int .i64 r.2.2.2) := fun n => cell_of q2 3
  have d0 : W.cell? ⟨w.heap.size, 0, none⟩ = some (.slice LA r.1.length lc) := cell_of q1 0
  have d1 : W.cell? ⟨w.heap.size + 1, 0, none⟩ = some (.slice LB r.1.length ld) := cell_of q2 0
  clear q1 q2 q3 q4
  go_enter Tryz.func13, Tryz.ntmps13
  go_wp2_with fail
  refine (C1.out 0).mono ?_
  rintro en w1 ⟨rfl, n1, rfl⟩
  rw [World.drewN_drewN, Nat.zero_add]
  have a1 := k1 n1
  have a2 := j1 n1
  go_wp2_with fail
  refine (C2.out n1).mono ?_
  rintro en w1 ⟨rfl, n2, rfl⟩
  rw [World.drewN_drewN]
  have b1 := k2 (n1 + n2)
  have b2 := j2 (n1 + n2)
  go_wp2_with fail
  refine (C3.out (n1 + n2)).mono ?_
  rintro en w1 ⟨rfl, n3, rfl⟩
  rw [World.drewN_drewN]
  have c1 := k3 (n1 + n2 + n3)
  have c2 := j3 (n1 + n2 + n3)
  go_wp2
  go_ret
  exact ⟨by simp, HB.out.trans ((drewN_below W _).mono HB.out.size)⟩
end Go.Proofs.YtmnbepapgghdaaaGreat

namespace Go.Proofs.YtmnbepapgghdaaaGreat
open Go.RowKit

def iterL (ok : By → Bool) (F : By → Option By) (most : Nat) : Nat → Ex → Ex
  | 0, e => e
  | n + 1, e => iterL ok F most n (stepL ok F most e)
theorem iter_out {ok : By → Bool} {F : By → Option By} {most : Nat} : ∀ (n : Nat) (e : Ex), (iterL ok F most n e).inp = [] → outX (runE ok F most e) = outX (iterL ok F most n e)
  | 0, e, h => by show outX (runE ok F most e) = outX e; rw [run_end (show e.inp = [] from h)]
  | n + 1, e, h => run_stepL.symm.trans (iter_out n (stepL ok F most e) h)
theorem expE_is {fs : List Fl.Fl} {fuel most : Nat} {main t : By} (n : Nat) (ht : flF fs main = some t) (r : Res8) (h0 : (iterL Fl.nmOk (flF fs) most n { (ex0 fuel).ask main with inp := toks t }).inp = []) (h : outX (iterL Fl.nmOk (flF fs) most n { (ex0 fuel).ask main with inp := toks t }) = r) :
    outX (expE Fl.nmOk (flF fs) fuel most main) = r := by
  unfold expE
  rw [ht]
  exact (iter_out n _ h0).trans h
def tA : By := [92, 100, 101, 102, 123, 120, 125, 123, 49, 125, 123, 60, 35, 49, 62, 125, 92, 120, 123, 97, 125]
def tB : By := [92, 100, 101, 102, 123, 120, 125, 123, 48, 125, 123, 92, 120, 125, 92, 120]
def tC : By := [92, 105, 110, 99, 108, 117, 100, 101, 123, 110, 125, 92, 100, 101, 102, 123, 49, 125, 123, 48, 125, 123, 125, 92, 105, 102, 100, 101, 102, 123, 120, 125, 123, 97, 125, 123, 98, 125]
theorem fixA : outX (expE Fl.nmOk (flF [([109], tA)]) 9 100 [109]) = ([(1, [60]), (1, [97]), (1, [62])], [[109]], [], 1) := expE_is (t := tA) 30 (by kernel_rfl) _ (by kernel_rfl) (by kernel_rfl)
theorem fixB : outX (expE Fl.nmOk (flF [([109], tB)]) 5 100 [109]) = ([], [[109]], [(9, [120])], 5) := expE_is (t := tB) 30 (by kernel_rfl) _ (by kernel_rfl) (by kernel_rfl)
theorem fixC : outX (expE Fl.nmOk (flF [([109], tC)]) 5 100 [109]) = ([(1, [98])], [[109], [110]], [(4, [110]), (2, [49])], 1) := expE_is (t := tC) 30 (by kernel_rfl) _ (by kernel_rfl) (by kernel_rfl)
theorem fixD : outX (expE Fl.nmOk (flF []) 0 0 [109]) = ([], [[109]], [(4, [109])], 0) := by kernel_rfl
end Go.Proofs.YtmnbepapgghdaaaGreat

namespace Go.Proofs.YtmnbepapgghdaaaGreat
open Go.RowKit

def rA : Res8 := ([(1, [60]), (1, [97]), (1, [62])], [[109]], [], 1)
def rB : Res8 := ([], [[109]], [(9, [120])], 5)
def rC : Res8 := ([(1, [98])], [[109], [110]], [(4, [110]), (2, [49])], 1)
def rD : Res8 := ([], [[109]], [(4, [109])], 0)
/-- An answer of known lengths. -/
def Ans (w : World) (r : Res8) (a b c : Nat) (u : Int) (en : Ending) (w' : World) : Prop :=
  ∃ (LA RA NA : Option Addr) (lc rc nc : Nat), en = .returned (.agg #[.slice LA a lc, .slice RA b rc, .slice NA c nc, .int .i64 u]) ∧ RdO w' LA RA NA r ∧ Below w.heap.size w w'
def Ans2 (w : World) (r : Res8) (a b c : Nat) (u : Int) (en : Ending) (w' : World) : Prop :=
  ∃ (LA RA NA : Option Addr) (lc rc nc : Nat), en = .returned (.tuple #[.agg #[.slice LA a lc, .slice RA b rc, .slice NA c nc, .int .i64 u], .int .i64 0]) ∧ RdO w' LA RA NA r ∧ Below w.heap.size w w'
theorem of_A (w : World) : Calls Tryz.prog 17 #[.string ⟨#[92, 100, 101, 102, 123, 120, 125, 123, 49, 125, 123, 60, 35, 49, 62, 125, 92, 120, 123, 97, 125]⟩, .int .i64 9] w (Ans w rA 3 1 0 1) := by
  have h := of_any tA 9 w (by omega) (by decide)
  rw [fixA] at h
  exact h.mono fun en w' ⟨LA, RA, NA, lc, rc, nc, q1, q2, q3⟩ => ⟨LA, RA, NA, lc, rc, nc, q1, q2.rdo, q3⟩
theorem of_B (w : World) : Calls Tryz.prog 17 #[.string ⟨#[92, 100, 101, 102, 123, 120, 125, 123, 48, 125, 123, 92, 120, 125, 92, 120]⟩, .int .i64 5] w (Ans w rB 0 1 1 5) := by
  have h := of_any tB 5 w (by omega) (by decide)
  rw [fixB] at h
  exact h.mono fun en w' ⟨LA, RA, NA, lc, rc, nc, q1, q2, q3⟩ => ⟨LA, RA, NA, lc, rc, nc, q1, q2.rdo, q3⟩
theorem of_C (w : World) : Calls Tryz.prog 17 #[.string ⟨#[92, 105, 110, 99, 108, 117, 100, 101, 123, 110, 125, 92, 100, 101, 102, 123, 49, 125, 123, 48, 125, 123, 125, 92, 105, 102, 100, 101, 102, 123, 120, 125, 123, 97, 125, 123, 98, 125]⟩, .int .i64 5] w (Ans w rC 1 2 2 1) := by
  have h := of_any tC 5 w (by omega) (by decide)
  rw [fixC] at h
  exact h.mono fun en w' ⟨LA, RA, NA, lc, rc, nc, q1, q2, q3⟩ => ⟨LA, RA, NA, lc, rc, nc, q1, q2.rdo, q3⟩
theorem no_fs (w : World) : Fs w none [] := ⟨fun h => absurd h (by decide), by decide, List.Pairwise.nil, fun f hf => by cases hf⟩
theorem exp_D (w : World) : Calls Tryz.prog 11 #[.slice none 0 0, .string ⟨#[109]⟩, .int .i64 0, .int .i64 0] w (Ans2 w rD 0 1 1 0) := by
  have h := expand_go [] [109] none 0 0 0 w (by omega) (by omega) (no_fs w)
  rw [fixD] at h
  exact h.mono fun en w' ⟨LA, RA, NA, lc, rc, nc, q1, q2, q3⟩ => ⟨LA, RA, NA, lc, rc, nc, q1, q2.rdo, q3⟩
/-! ### rows of texts and of notes that are made anew -/
theorem words1 (w : World) (s : By) : RdS (w.alloc (.cells #[.string ⟨s.toArray⟩] 9)) (some ⟨w.heap.size, 0, none⟩) [s] := fun _ => ⟨w.heap.size, 0, rfl, fun i f hi => by
  match i, hi with
  | 0, hi => cases hi; exact (by rw [World.cell?_alloc_new]; rfl)
  | i + 1, hi => simp at hi⟩
theorem words2 (w : World) (s t : By) : RdS (w.alloc (.cells #[.string ⟨s.toArray⟩, .string ⟨t.toArray⟩] 9)) (some ⟨w.heap.size, 0, none⟩) [s, t] := fun _ => ⟨w.heap.size, 0, rfl, fun i f hi => by
  match i, hi with
  | 0, hi => cases hi; exact (by rw [World.cell?_alloc_new]; rfl)
  | 1, hi => cases hi; exact (by rw [World.cell?_alloc_new]; rfl)
  | i + 2, hi => simp at hi⟩
theorem notes1 (w : World) (k : Int) (s : By) : Rd (w.alloc (.cells #[.int .i64 k, .string ⟨s.toArray⟩] 86)) (some ⟨w.heap.size, 0, none⟩) [(k, s)] := fun _ => ⟨w.heap.size, 0, rfl, fun i f hi => by
  match i, hi with
  | 0, hi => cases hi; exact ⟨new_fst w _ _ 86, new_snd w _ _ 86⟩
  | i + 1, hi => simp at hi⟩
theorem notes2 (w : World) (k j : Int) (s t : By) : Rd (w.alloc (.cells #[.int .i64 k, .string ⟨s.toArray⟩, .int .i64 j, .string ⟨t.toArray⟩] 86)) (some ⟨w.heap.size, 0, none⟩) [(k, s), (j, t)] := fun _ => ⟨w.heap.size, 0, rfl, fun i f hi => by
  match i, hi with
  | 0, hi => cases hi; exact ⟨by rw [World.cell?_alloc_new]; rfl, by rw [World.cell?_alloc_new]; rfl⟩
  | 1, hi => cases hi; exact ⟨by rw [World.cell?_alloc_new]; rfl, by rw [World.cell?_alloc_new]; rfl⟩
  | i + 2, hi => simp at hi⟩
end Go.Proofs.YtmnbepapgghdaaaGreat

/-
  Package expand: Expand, within its bounds.
  The document's expansion, what is to come may be cut: note, burn, ask.
-/
import Derived.Test.YtmnbepapgghdaaaGreatK30
import Derived.Test.YtmnbepapgghdaaaGreatK15
namespace Go.Proofs.YtmnbepapgghdaaaGreat
open Go.RowKit

theorem none_fine {fuel most : Nat} {main : By} (hf : fuel ≤ 50) : Fine most 1000 60000 (({ (noted ((ex0 fuel).ask main) main (some 4)) with inp := [] }) : Ex) := by
  refine ⟨⟨fun t ht => (by cases ht), fun m hm => by cases hm⟩, Good.nil, Nat.zero_le _, fun m hm => (by cases hm), ?_, Nat.zero_le _, ?_⟩
  · show (if main ∈ ([] : List By) then ([] : List By) else [] ++ [main]).length ≤ 32
    simp
  · show ([] ++ [((4 : Int), main)]).length + mu 1000 _ ≤ 60000
    unfold mu
    show 1 + (fuel * (1000 + 1) + 0) ≤ 60000
    have : fuel * (1000 + 1) ≤ 50 * 1001 := Nat.mul_le_mul hf (Nat.le_refl _)
    omega
theorem fs_short {w : World} {A : Option Addr} {fs : List Fl.Fl} (h : Fs w A fs) : Short (flF fs) := fun n t ht => Nat.le_trans (h.txt _ (Fl.getL_mem ht)) (by omega)
theorem fine_ask {k : Xk} {e : Ex} {C : Nat} (h : Fine k.most 1000 C e) (hm : k.most ≤ 1000) (hf : k.fuel ≤ 1000) : Ask k e :=
  ⟨h.pt, h.good, h.len, h.bods, h.reads, by have := h.out; omega, hm, hf⟩
/-- What holds at each round. -/
def Loop (k : Xk) (fs : List Fl.Fl) (R : List Tok × List By × List (Int × By) × Nat) (W2 wr : World) : Prop :=
  ∃ e n, XW k wr e n ∧ outX (runE Fl.nmOk (flF fs) k.most e) = R ∧ Fine k.most 1000 60000 e ∧ n + mu 1000 e ≤ 60000 ∧ Below k.base W2 wr
theorem loop_none {k : Xk} {W2 w4 : World} {fs : List Fl.Fl} {main : By} {fuel : Nat} (hno : flF fs main = none) (hf : fuel ≤ 50) (hx : XWa k w4 (noted ((ex0 fuel).ask main) main (some 4)) 0 0) (hb : Below k.base W2 w4) :
    (∃ v, w4.cell? ⟨k.p, 6, none⟩ = some v) ∧ w4.frozen? ⟨k.p, 6, none⟩ = false ∧ Hid (Loop k fs (outX (expE Fl.nmOk (flF fs) fuel k.most main)) W2 (w4.setCell ⟨k.p, 6, none⟩ (.slice none 0 0))) := by
  obtain ⟨s, hr, hn, ha⟩ := hx
  have hN := hr.newT (Below.refl _ _) (A := none) (c := 0) (l := []) (own_nil _ _ _) (fun g hg => by cases hg) (by omega) (Nat.zero_le _)
  refine ⟨⟨_, hr.cell 6⟩, hr.froz 6, Lib.hid ⟨_, 0, ⟨_, hN, hn⟩, ?_, ?_, ?_, hb.setCell hr.hp (p := ⟨k.p, 6, none⟩) _⟩⟩
  · rw [run_end (by show ([] : List Tok).drop s.at_ = []; simp)]
    unfold expE
    rw [hno]
    rfl
  · rw [ha]; exact none_fine hf
  · rw [ha]; exact Nat.le_trans (Nat.le_of_eq (Nat.zero_add _)) (Nat.le_trans (Nat.le_add_left _ _) (none_fine (most := k.most) (main := main) hf).notes)
theorem loop_some {k : Xk} {W2 w4 w3 : World} {fs : List Fl.Fl} {main t : By} {fuel d : Nat} {B : Option Addr} (hyes : flF fs main = some t) (hf : fuel ≤ 50) (hm : k.most ≤ 900) (ht : t.length ≤ 1000) (hx : XWa k w4 ((ex0 fuel).ask main) 0 0) (hb : Below k.base W2 w4) (ho : Own 89 w3 w4.heap.size B d (toks t)) (hb3 : Below w4.heap.size w4 w3) :
    (∃ v, w3.cell? ⟨k.p, 6, none⟩ = some v) ∧ w3.frozen? ⟨k.p, 6, none⟩ = false ∧ Hid (Loop k fs (outX (expE Fl.nmOk (flF fs) fuel k.most main)) W2 (w3.setCell ⟨k.p, 6, none⟩ (.slice B (toks t).length d))) := by
  obtain ⟨s, hr, hn, ha⟩ := hx
  have hz : k.base ≤ w4.heap.size := by have := lt_of_blk hr.blk; have := hr.hp; omega
  have hl := toks_len t
  have hN := hr.newT hb3 (ho.mono hz) (fun g hg => (World.ownsRow.lt ho g (by rw [obA_own]; exact hg)).1) (by omega) (by omega)
  have hr3 := hr.below hb3
  have hfine := ask_fine (main := main) hf hm ht
  refine ⟨⟨_, hr3.cell 6⟩, hr3.froz 6, Lib.hid ⟨_, 0, ⟨_, hN, hn⟩, ?_, ?_, ?_, (hb.trans (hb3.mono hz)).setCell hr.hp (p := ⟨k.p, 6, none⟩) _⟩⟩
  · rw [ha]
    unfold expE
    rw [hyes]
    rfl
  · rw [ha]; exact hfine
  · rw [ha]; exact Nat.le_trans (Nat.le_of_eq (Nat.zero_add _)) (Nat.le_trans (Nat.le_add_left _ _) hfine.notes)
theorem loop_step {k : Xk} {W2 wr w' : World} {fs : List Fl.Fl} {R : List Tok × List By × List (Int × By) × Nat} {e : Ex} {n : Nat} {t : Tok} {r : List Tok} (hS : Short (flF fs)) (hm : k.most ≤ 900) (h2 : outX (runE Fl.nmOk (flF fs) k.most e) = R) (h3 : Fine k.most 1000 60000 e) (h4 : n + mu 1000 e ≤ 60000) (h5 : Below k.base W2 wr) (hi : e.inp = t :: r) (hb : Below k.base wr w') (hx : XW k w' (stepL Fl.nmOk (flF fs) k.most e) (n + 1)) :
    Loop k fs R W2 w' ∧ muW 1000 k.p w' < mu 1000 e := by
  have hmu := stepL_mu (ok := Fl.nmOk) (F := flF fs) (show k.most ≤ 1000 by omega) h3 (by rw [hi]; simp)
  refine ⟨⟨_, n + 1, hx, run_stepL.trans h2, stepL_fine hS (by omega) h3, by omega, h5.trans hb⟩, ?_⟩
  rw [muW_eq 1000 hx]
  exact hmu
/-- The result's cells, at the end. -/
theorem loop_end {k : Xk} {w0 W2 wr : World} {s : Xs} {e : Ex} (hx : XR k wr s e) (hk : k.base = w0.heap.size + 1) (h2 : Below w0.heap.size w0 W2) (hb : Below k.base W2 wr)
    (hR : W2.heap[w0.heap.size]? = some (.cells #[.slice none 0 0, .slice none 0 0, .slice none 0 0, .int .i64 0] 31)) :
    wr.heap[w0.heap.size]? = some (.cells #[.slice none 0 0, .slice none 0 0, .slice none 0 0, .int .i64 0] 31) ∧
    ∃ wf, wf = (((wr.setCell ⟨w0.heap.size, 0, none⟩ (.slice s.LA e.out.length s.lc)).setCell ⟨w0.heap.size, 1, none⟩ (.slice s.RA e.reads.length s.rc)).setCell ⟨w0.heap.size, 2, none⟩ (.slice s.NA e.notes.length s.nc)).setCell ⟨w0.heap.size, 3, none⟩ (.int .i64 e.used) ∧
    Hid (wf.heap[w0.heap.size]? = some (.cells #[.slice s.LA e.out.length s.lc, .slice s.RA e.reads.length s.rc, .slice s.NA e.notes.length s.nc, .int .i64 e.used] 31)) ∧
    Hid (ExpPost w0 (outX e) (.returned (.tuple #[.agg #[.slice s.LA e.out.length s.lc, .slice s.RA e.reads.length s.rc, .slice s.NA e.notes.length s.nc, .int .i64 e.used], .int .i64 0])) wf) := by
  have hlt := lt_of_blk hR
  have hwr := (hb.block _ (by omega)).trans hR
  refine ⟨hwr, _, rfl, Lib.hid ?_, Lib.hid ?_⟩
  · rw [blk_set (blk_set (blk_set (blk_set hwr 0 _) 1 _) 2 _) 3 _]; rfl
  · refine ⟨s.LA, s.RA, s.NA, s.lc, s.rc, s.nc, rfl, ?_, ?_⟩
    · have h0 : OutO wr k.base s.LA s.RA s.NA s.lc s.rc s.nc (outX e) := ⟨hx.out, hx.reads, hx.notes⟩
      exact ((((h0.set (by omega)).set (by omega)).set (by omega)).set (by omega)).mono (by omega)
    · exact ((((h2.trans ((hb.mono (by omega) : Below w0.heap.size W2 wr))).setCell (Nat.le_refl _) (p := ⟨w0.heap.size, 0, none⟩) _).setCell (Nat.le_refl _) (p := ⟨w0.heap.size, 1, none⟩) _).setCell (Nat.le_refl _) (p := ⟨w0.heap.size, 2, none⟩) _).setCell (Nat.le_refl _) (p := ⟨w0.heap.size, 3, none⟩) _
set_option maxRecDepth 100000 in
set_option maxHeartbeats 4000000 in
theorem expand_go (fs : List Fl.Fl) (main : By) (A : Option Addr) (fc fuel most : Nat) (w : World) (hf : fuel ≤ 50) (hm : most ≤ 900) (hF : Fs w A fs) :
    Calls Tryz.prog 11 #[.slice A fs.length fc, .string ⟨main.toArray⟩, .int .i64 fuel, .int .i64 most] w (ExpPost w (outX (expE Fl.nmOk (flF fs) fuel most main))) := by
  obtain ⟨R, hR⟩ : ∃ R, outX (expE Fl.nmOk (flF fs) fuel most main) = R := ⟨_, rfl⟩
  rw [hR]
  have HRR := Lib.hid hR
  clear hR
  have HSH := Lib.hid (fs_short hF)
  have HK := blk31 w
  have HB := Lib.hid (one_below w (.cells #[.slice none 0 0, .slice none 0 0, .slice none 0 0, .int .i64 0] 31))
  obtain ⟨W0, hW⟩ : ∃ W0, w.alloc (.cells #[.slice none 0 0, .slice none 0 0, .slice none 0 0, .int .i64 0] 31) = W0 := ⟨_, rfl⟩
  rw [hW] at HB HK
  have HBK := Lib.hid HK
  have HZ := Lib.hid (show W0.heap.size = w.heap.size + 1 by rw [← hW]; simp)
  clear HK
  have i1 : (0 : Int) ≤ fuel := by omega
  have i2 : (fuel : Int) ≤ 1000 := by omega
  have i3 : (0 : Int) ≤ most := by omega
  have i4 : (most : Int) ≤ 20000 := by omega
  have C0 := Lib.hid (fun w => commands_any w)
  go_enter Tryz.func11, Tryz.ntmps11
  go_wp2_with fail
  refine (C0.out W0).mono ?_
  rintro en w1 ⟨rfl, hbm, hb1⟩
  rw [HZ.out] at hbm ⊢
  have hmk : ∀ w, (Instr.makeMap 65 none).run Tryz.prog w = .ok (.map (some w.heap.size)) (w.alloc (.map #[] 0)) := fun _ => rfl
  go_wp2_with fail
  obtain ⟨W2, hW2⟩ : ∃ W2, (w1.alloc (.map #[] 0)).alloc (.cells #[.slice A fs.length fc, .int .i64 fuel, .int .i64 most, .map (some (w.heap.size + 1)), .slice none 0 0, .map (some w1.heap.size), .slice none 0 0, .int .i64 0, .slice none 0 0, .slice none 0 0, .slice none 0 0, .int .i64 0] 68) = W2 := ⟨_, rfl⟩
  rw [hW2]
  obtain ⟨HX2, HF2, HL2, HR2, HB2⟩ := expand_new hF HB.out HZ.out HBK.out hbm hb1 hW2
  have HS2 := Lib.hid (show w.heap.size + 1 ≤ W2.heap.size from Nat.le_of_lt (by have := (show XW _ W2 (ex0 fuel) 0 from ⟨_, HX2.out, Nat.le_refl _⟩).size; have h1 : (kE w w1 A fs.length fc fuel most).base = w.heap.size + 1 := rfl; omega))
  obtain ⟨k, hk⟩ : ∃ k, kE w w1 A fs.length fc fuel most = k := ⟨_, rfl⟩
  have HP := Lib.hid (show w1.heap.size + 1 = k.p by rw [← hk]; rfl)
  have HKB := Lib.hid (show k.base = w.heap.size + 1 by rw [← hk]; rfl)
  have HKF := Lib.hid (show k.fuel = fuel by rw [← hk]; rfl)
  have HKM := Lib.hid (show k.most = most by rw [← hk]; rfl)
  rw [hk] at HX2 HF2 HL2
  rw [HP.out]
  clear hW2 hk hbm hb1 hmk
  refine (xask_s k _ (ex0 fuel) 0 fs main W2 HX2.out (Nat.le_refl _) HF2.out HL2.out (Nat.zero_le _)).mono ?_
  rintro en w3 hpost
  rcases hpost with ⟨hno, rfl, hb3, hx3⟩ | ⟨t, B, d, w4, hyes, rfl, hb3, hx3, ho3, hb4⟩
  · have CN := Lib.hid (fun W (hW : XWa k W ((ex0 fuel).ask main) 0 0) => xnote_at k _ 0 0 4 main W hW (err_some (.inr (.inr (.inl rfl)))) (Nat.zero_le _))
    have HX3 := Lib.hid hx3
    have HB3 := Lib.hid hb3
    have HNO := Lib.hid hno
    clear hx3 hb3 hno
    unfold errV at CN ⊢
    go_wp2_with fail
    refine (CN.out _ HX3.out).mono ?_
    rintro en w5 ⟨rfl, hb5, hx5⟩
    obtain ⟨⟨v6, c6⟩, f6, HL⟩ := loop_none HNO.out hf hx5 (HB3.out.trans hb5)
    clear hb5 hx5
    go_wp2_with fail
    rw [HKM.out, HRR.out] at HL
    clear c6 f6
    go_loopw [] (fun wr => Loop k fs R W2 wr) (fun wr => muW 1000 k.p wr)
    case atStart => exact HL.out
    case round =>
      obtain ⟨e, n, hx, h2, h3, h4, h5⟩ := hrel
      have HMU := Lib.hid (muW_eq 1000 hx)
      have HX := Lib.hid hx
      have H2 := Lib.hid h2
      have H3 := Lib.hid h3
      have H4 := Lib.hid h4
      have H5 := Lib.hid h5
      obtain ⟨s, hr, hsn⟩ := hx
      have c6 : wr.cell? ⟨k.p, 6, none⟩ = some (.slice s.TA s.full.length s.tc) := hr.cell 6
      have c7 : wr.cell? ⟨k.p, 7, none⟩ = some (.int .i64 s.at_) := hr.cell 7
      have hil : e.inp.length = s.full.length - s.at_ := by rw [← hr.inp, List.length_drop]
      have hal := hr.atl
      have HR := Lib.hid hr
      clear hr hsn h2 h3 h4 h5
      cases hi : e.inp with
      | cons t r =>
        rw [hi] at hil
        simp only [List.length_cons] at hil
        have HI := Lib.hid hi
        have CS := Lib.hid (xstep_any k e n fs t r wr HX.out hi (fine_ask H3.out (by have := HKM.out; omega) (by have := HKF.out; omega)) (HF2.out.low HL2.out H5.out) HL2.out (by have := H4.out; omega) (by have := H3.out.notes; omega))
        have i5 : (s.at_ : Int) < (s.full.length : Int) := by omega
        clear hi hil hal
        go_wp2_with fail
        refine CS.out.mono ?_
        rintro en w9 ⟨rfl, hb9, hx9⟩
        obtain ⟨hl9, hm9⟩ := loop_step HSH.out (by rw [HKM.out]; exact hm) H2.out H3.out H4.out H5.out HI.out hb9 hx9
        have HL9 := Lib.hid hl9
        have HM9 := Lib.hid hm9
        clear hl9 hm9 hb9 hx9
        go_wp2
        go_roundw
        case rel => exact HL9.out
        case measure => rw [HMU.out]; exact HM9.out
      | nil =>
        rw [hi] at hil
        simp only [List.length_nil] at hil
        have i5 : (s.full.length : Int) ≤ (s.at_ : Int) := by omega
        have c8 : wr.cell? ⟨k.p, 8, none⟩ = some (.slice s.LA e.out.length s.lc) := HR.out.cell 8
        have c9 : wr.cell? ⟨k.p, 9, none⟩ = some (.slice s.RA e.reads.length s.rc) := HR.out.cell 9
        have c10 : wr.cell? ⟨k.p, 10, none⟩ = some (.slice s.NA e.notes.length s.nc) := HR.out.cell 10
        have c11 : wr.cell? ⟨k.p, 11, none⟩ = some (.int .i64 e.used) := HR.out.cell 11
        obtain ⟨hblk, wf, hwf, HW, HP⟩ := loop_end HR.out HKB.out HB2.out H5.out HR2.out
        have r0 : wr.cell? ⟨w.heap.size, 0, none⟩ = some (.slice none 0 0) := cell_of hblk 0
        have r1 : wr.cell? ⟨w.heap.size, 1, none⟩ = some (.slice none 0 0) := cell_of hblk 1
        have r2 : wr.cell? ⟨w.heap.size, 2, none⟩ = some (.slice none 0 0) := cell_of hblk 2
        have r3 : wr.cell? ⟨w.heap.size, 3, none⟩ = some (.int .i64 0) := cell_of hblk 3
        have f0 := frozen_of hblk 0
        have f1 := frozen_of hblk 1
        have f2 := frozen_of hblk 2
        have f3 := frozen_of hblk 3
        have HE := Lib.hid (show outX e = R by rw [← H2.out, run_end hi])
        clear hi hil hal hblk
        subst hwf
        go_wp2_with fail
        refine bodyPost_ret (results_cell_tmp (P := Tryz.prog) rfl _ _ w.heap.size 31 #[.slice s.LA e.out.length s.lc, .slice s.RA e.reads.length s.rc, .slice s.NA e.notes.length s.nc, .int .i64 e.used] (0, 0) _ _ (by rfl) (by rfl) HW.out Tryz.underlying31 rfl (by kernel_rfl)) rfl ?_
        rw [← HE.out]
        exact HP.out
  · obtain ⟨⟨v6, c6⟩, f6, HL⟩ := loop_some hyes hf (by rw [HKM.out]; exact hm) (hF.txt _ (Fl.getL_mem hyes)) hx3 hb3 ho3 hb4
    have CN := Lib.hid (fun W => xnote_none ⟨k.p, 0, none⟩ main W)
    clear hyes hx3 hb3 ho3 hb4
    unfold errV
    go_wp2_with fail
    refine (CN.out _).mono ?_
    rintro en w5 ⟨rfl, rfl⟩
    go_wp2_with fail
    rw [HKM.out, HRR.out] at HL
    clear c6 f6
    go_loopw [] (fun wr => Loop k fs R W2 wr) (fun wr => muW 1000 k.p wr)
    case atStart => exact HL.out
    case round =>
      obtain ⟨e, n, hx, h2, h3, h4, h5⟩ := hrel
      have HMU := Lib.hid (muW_eq 1000 hx)
      have HX := Lib.hid hx
      have H2 := Lib.hid h2
      have H3 := Lib.hid h3
      have H4 := Lib.hid h4
      have H5 := Lib.hid h5
      obtain ⟨s, hr, hsn⟩ := hx
      have c6 : wr.cell? ⟨k.p, 6, none⟩ = some (.slice s.TA s.full.length s.tc) := hr.cell 6
      have c7 : wr.cell? ⟨k.p, 7, none⟩ = some (.int .i64 s.at_) := hr.cell 7
      have hil : e.inp.length = s.full.length - s.at_ := by rw [← hr.inp, List.length_drop]
      have hal := hr.atl
      have HR := Lib.hid hr
      clear hr hsn h2 h3 h4 h5
      cases hi : e.inp with
      | cons t r =>
        rw [hi] at hil
        simp only [List.length_cons] at hil
        have HI := Lib.hid hi
        have CS := Lib.hid (xstep_any k e n fs t r wr HX.out hi (fine_ask H3.out (by have := HKM.out; omega) (by have := HKF.out; omega)) (HF2.out.low HL2.out H5.out) HL2.out (by have := H4.out; omega) (by have := H3.out.notes; omega))
        have i5 : (s.at_ : Int) < (s.full.length : Int) := by omega
        clear hi hil hal
        go_wp2_with fail
        refine CS.out.mono ?_
        rintro en w9 ⟨rfl, hb9, hx9⟩
        obtain ⟨hl9, hm9⟩ := loop_step HSH.out (by rw [HKM.out]; exact hm) H2.out H3.out H4.out H5.out HI.out hb9 hx9
        have HL9 := Lib.hid hl9
        have HM9 := Lib.hid hm9
        clear hl9 hm9 hb9 hx9
        go_wp2
        go_roundw
        case rel => exact HL9.out
        case measure => rw [HMU.out]; exact HM9.out
      | nil =>
        rw [hi] at hil
        simp only [List.length_nil] at hil
        have i5 : (s.full.length : Int) ≤ (s.at_ : Int) := by omega
        have c8 : wr.cell? ⟨k.p, 8, none⟩ = some (.slice s.LA e.out.length s.lc) := HR.out.cell 8
        have c9 : wr.cell? ⟨k.p, 9, none⟩ = some (.slice s.RA e.reads.length s.rc) := HR.out.cell 9
        have c10 : wr.cell? ⟨k.p, 10, none⟩ = some (.slice s.NA e.notes.length s.nc) := HR.out.cell 10
        have c11 : wr.cell? ⟨k.p, 11, none⟩ = some (.int .i64 e.used) := HR.out.cell 11
        obtain ⟨hblk, wf, hwf, HW, HP⟩ := loop_end HR.out HKB.out HB2.out H5.out HR2.out
        have r0 : wr.cell? ⟨w.heap.size, 0, none⟩ = some (.slice none 0 0) := cell_of hblk 0
        have r1 : wr.cell? ⟨w.heap.size, 1, none⟩ = some (.slice none 0 0) := cell_of hblk 1
        have r2 : wr.cell? ⟨w.heap.size, 2, none⟩ = some (.slice none 0 0) := cell_of hblk 2
        have r3 : wr.cell? ⟨w.heap.size, 3, none⟩ = some (.int .i64 0) := cell_of hblk 3
        have f0 := frozen_of hblk 0
        have f1 := frozen_of hblk 1
        have f2 := frozen_of hblk 2
        have f3 := frozen_of hblk 3
        have HE := Lib.hid (show outX e = R by rw [← H2.out, run_end hi])
        clear hi hil hal hblk
        subst hwf
        go_wp2_with fail
        refine bodyPost_ret (results_cell_tmp (P := Tryz.prog) rfl _ _ w.heap.size 31 #[.slice s.LA e.out.length s.lc, .slice s.RA e.reads.length s.rc, .slice s.NA e.notes.length s.nc, .int .i64 e.used] (0, 0) _ _ (by rfl) (by rfl) HW.out Tryz.underlying31 rfl (by kernel_rfl)) rfl ?_
        rw [← HE.out]
        exact HP.out
end Go.Proofs.YtmnbepapgghdaaaGreat

namespace Go.Proofs.YtmnbepapgghdaaaGreat
open Go.RowKit

theorem WkR.gd {w : World} {base p : Nat} {IA MA LA RA NA : Option Addr} {lc rc nc : Nat} {e : Ex} (h : WkR w base p IA MA LA RA NA lc rc nc e) (hp : p < w.heap.size) {k : Nat} (hk : w.heap.size ≤ k) : Gd p (obA LA) (obA RA) (obA NA) k := by
  have f : ∀ {t s n c : Nat} {xs : List Value} {A : Option Addr}, w.ownsRow base t s (.slice A n c) n xs → some k ≠ obA A := fun r e => by
    have := (World.ownsRow.lt r k (by rw [obA_own]; exact e.symm)).2
    omega
  exact ⟨by omega, f h.out, f h.reads, f h.notes⟩
/-- An expansion that goes on, in memory of the call's own; what is to come may be cut. -/
def Wq (w : World) (base p : Nat) (FA : Option Addr) (fn fc most : Nat) (e : Ex) : Prop :=
  ∃ (IA MA LA RA NA : Option Addr) (ic mc lc rc nc : Nat), (base ≤ p ∧ e.inp.length ≤ ic ∧ ic ≤ 9223372036854775807) ∧ WkR w base p IA MA LA RA NA lc rc nc e ∧
    w.heap[p]? = some (.cells (wkC FA fn fc most IA MA LA RA NA ic mc lc rc nc e) 77)
theorem Wq.below {w w' : World} {base p : Nat} {FA : Option Addr} {fn fc most : Nat} {e : Ex} (h : Wq w base p FA fn fc most e) (hb : Below w.heap.size w w') : Wq w' base p FA fn fc most e := by
  obtain ⟨IA, MA, LA, RA, NA, ic, mc, lc, rc, nc, hp, hr, hk⟩ := h
  exact ⟨IA, MA, LA, RA, NA, ic, mc, lc, rc, nc, hp, hr.below hb, blk_below hb hk⟩
theorem Wq.lt {w : World} {base p : Nat} {FA : Option Addr} {fn fc most : Nat} {e : Ex} (h : Wq w base p FA fn fc most e) : base ≤ p ∧ p < w.heap.size := by
  obtain ⟨IA, MA, LA, RA, NA, ic, mc, lc, rc, nc, hp, hr, hk⟩ := h
  exact ⟨hp.1, lt_of_blk hk⟩
theorem note_stepq {w w1 w2 : World} {base p : Nat} {FA : Option Addr} {fn fc most : Nat} {IA MA LA RA NA A' : Option Addr} {ic mc lc rc nc c' : Nat} {e : Ex} {k : Int} {s : By} (hic : e.inp.length ≤ ic ∧ ic ≤ 9223372036854775807) (hR : WkR w1 base p IA MA LA RA NA lc rc nc e) (hk : w1.heap[p]? = some (.cells (wkC FA fn fc most IA MA LA RA NA ic mc lc rc nc e) 77)) (hB : Below base w w1) (hp : base ≤ p) (hs : base ≤ w1.heap.size)
    (ho2 : Own 86 w2 base A' c' (e.notes ++ [(k, s)])) (hg2 : w1.grownBy w2 (Value.slice NA e.notes.length nc).ownBlock) (hn2 : (Value.slice A' (e.notes ++ [(k, s)]).length c').ownBlock = (Value.slice NA e.notes.length nc).ownBlock ∨ (Value.slice A' (e.notes ++ [(k, s)]).length c').ownBlock = some w1.heap.size) :
    w2.cell? ⟨p, 7, none⟩ = some (.slice NA e.notes.length nc) ∧ w2.frozen? ⟨p, 7, none⟩ = false ∧ Hid (Wq (w2.setCell ⟨p, 7, none⟩ (.slice A' (e.notes ++ [(k, s)]).length c')) base p FA fn fc most (e.note k s)) ∧ Hid (Below base w (w2.setCell ⟨p, 7, none⟩ (.slice A' (e.notes ++ [(k, s)]).length c'))) := by
  rw [obA_own] at hg2
  rw [obA_own, obA_own] at hn2
  have hpl := lt_of_blk hk
  have hk2 : w2.heap[p]? = some (.cells (wkC FA fn fc most IA MA LA RA NA ic mc lc rc nc e) 77) := by
    obtain ⟨_, _, _, _, q⟩ := hg2
    exact (q p hpl fun x => hR.pn x.symm).trans hk
  have hR2 := hR.note ho2 hg2 hn2 hpl
  exact ⟨cell_of hk2 7, frozen_of hk2 7, Lib.hid ⟨IA, MA, LA, RA, A', ic, mc, lc, rc, c', ⟨hp, hic⟩, hR2.set 7 _, blk_set hk2 7 _⟩, Lib.hid ((hB.trans (below_grown hR.notes (by rw [obA_own]; exact hg2) hs)).setCell hp (p := ⟨p, 7, none⟩) _)⟩
set_option maxRecDepth 100000 in
set_option maxHeartbeats 2000000 in
theorem rnoteq_any (base p : Nat) (FA : Option Addr) (fn fc most : Nat) (e : Ex) (k : Int) (s : By) (w : World) (h : Wq w base p FA fn fc most e) (hn : e.notes.length ≤ 100000) (hbase : base ≤ w.heap.size) :
    Calls Tryz.prog 29 #[.pointer (some ⟨p, 0, none⟩), .int .i64 k, .string ⟨s.toArray⟩] w fun en w' => en = .returned (.tuple #[]) ∧ Below base w w' ∧ Wq w' base p FA fn fc most (e.note k s) := by
  obtain ⟨IA, MA, LA, RA, NA, ic, mc, lc, rc, nc, ⟨hp, hic⟩, hr, hk⟩ := h
  have HIC := Lib.hid hic
  clear hic
  have c7 : w.cell? ⟨p, 7, none⟩ = some (.slice NA e.notes.length nc) := cell_of hk 7
  have o1 := one_below w (.cells #[.int .i64 k, .string ⟨s.toArray⟩] 86)
  have HB1 := Lib.hid (o1.mono hbase)
  have HR1 := Lib.hid (hr.below o1)
  have HK1 := Lib.hid (show (w.alloc (.cells #[.int .i64 k, .string ⟨s.toArray⟩] 86)).heap[p]? = some (.cells (wkC FA fn fc most IA MA LA RA NA ic mc lc rc nc e) 77) from (o1.block p (lt_of_blk hk)).trans hk)
  have HG := Lib.hid (show Rd (w.alloc (.cells #[.int .i64 k, .string ⟨s.toArray⟩] 86)) (some ⟨w.heap.size, 0, none⟩) [(k, s)] from fun _ => ⟨w.heap.size, 0, rfl, fun i f hi => by
    match i, hi with
    | 0, hi => simp at hi; subst hi; exact ⟨by rw [World.cell?_alloc_new]; rfl, by rw [World.cell?_alloc_new]; rfl⟩
    | i + 1, hi => simp at hi⟩)
  have HS := Lib.hid (show base ≤ (w.alloc (.cells #[.int .i64 k, .string ⟨s.toArray⟩] 86)).heap.size by have := o1.size; omega)
  clear hk hr o1
  go_enter Tryz.func29, Tryz.ntmps29
  go_wp2_with (at_builtin; refine wpList_append_n _ rfl _ _ rfl base NA nc e.notes rfl HR1.out.notes (some ⟨w.heap.size, 0, none⟩) 1 1 [(k, s)] rfl rfl HG.out (by show _ + 1 ≤ _; omega) HS.out _ rfl ?_; intro A' c' w2 ho2 hg2 hn2; obtain ⟨d7, f7, HW, HB2⟩ := note_stepq HIC.out HR1.out HK1.out HB1.out hp HS.out ho2 hg2 hn2; clear ho2 hg2 hn2)
  go_end0
  rw [show e.notes.length + 1 = (e.notes ++ [(k, s)]).length by simp]
  exact ⟨rfl, HB2.out, HW.out⟩
/-- Nothing but these cells has turned. -/
def But1 (p : Nat) (w w' : World) : Prop := ∀ b, b < w.heap.size → b ≠ p → w'.heap[b]? = w.heap[b]?
theorem but1_set (p j : Nat) (v : Value) (w : World) : But1 p w (w.setCell ⟨p, j, none⟩ v) := fun b _ hn => Below.heap_setCell w ⟨p, j, none⟩ v b hn
theorem But1.trans {p : Nat} {a b c : World} (h : But1 p a b) (k : But1 p b c) (hs : a.heap.size ≤ b.heap.size) : But1 p a c := fun g h1 h2 => (k g (by omega) h2).trans (h g h1 h2)
theorem but1_of {p : Nat} {w w' : World} (h : Below w.heap.size w w') : But1 p w w' := fun b h1 _ => h.block b h1
theorem Rd.but {p : Nat} {w w' : World} {A : Option Addr} {l : List Tok} (h : Rd w A l) (hb : But1 p w w') (hq : InQ (· ≠ p) A l.length) : Rd w' A l := h.heap fun h0 a ha => hb _ (rd_in h h0 a ha) (hq h0 a ha)
theorem burn_stepq {w : World} {base p : Nat} {FA : Option Addr} {fn fc most : Nat} {e : Ex} (h : Wq w base p FA fn fc most e) (hf : e.fuel ≠ 0) :
    w.cell? ⟨p, 3, none⟩ = some (.int .i64 e.fuel) ∧ w.frozen? ⟨p, 3, none⟩ = false ∧ (w.setCell ⟨p, 3, none⟩ (.int .i64 ((e.fuel : Int) - 1))).cell? ⟨p, 8, none⟩ = some (.int .i64 e.used) ∧ (w.setCell ⟨p, 3, none⟩ (.int .i64 ((e.fuel : Int) - 1))).frozen? ⟨p, 8, none⟩ = false ∧
      Hid (Wq ((w.setCell ⟨p, 3, none⟩ (.int .i64 ((e.fuel : Int) - 1))).setCell ⟨p, 8, none⟩ (.int .i64 ((e.used : Int) + 1))) base p FA fn fc most e.burn) ∧ Hid (Below base w ((w.setCell ⟨p, 3, none⟩ (.int .i64 ((e.fuel : Int) - 1))).setCell ⟨p, 8, none⟩ (.int .i64 ((e.used : Int) + 1))) ∧ But1 p w ((w.setCell ⟨p, 3, none⟩ (.int .i64 ((e.fuel : Int) - 1))).setCell ⟨p, 8, none⟩ (.int .i64 ((e.used : Int) + 1)))) := by
  obtain ⟨IA, MA, LA, RA, NA, ic, mc, lc, rc, nc, ⟨hp, hic⟩, hr, hk⟩ := h
  have k1 := blk_set hk 3 (.int .i64 ((e.fuel : Int) - 1))
  have k2 := blk_set k1 8 (.int .i64 ((e.used : Int) + 1))
  have hR := (hr.set 3 (.int .i64 ((e.fuel : Int) - 1))).set 8 (.int .i64 ((e.used : Int) + 1))
  refine ⟨cell_of hk 3, frozen_of hk 3, cell_of k1 8, frozen_of k1 8, Lib.hid ⟨IA, MA, LA, RA, NA, ic, mc, lc, rc, nc, ⟨hp, hic⟩, ⟨hR.out, hR.reads, hR.notes, hR.pl, hR.pr, hR.pn, hR.inp, hR.inpP, hR.ms, hR.msP⟩, ?_⟩, Lib.hid ⟨((Below.refl base w).setCell hp (p := ⟨p, 3, none⟩) _).setCell hp (p := ⟨p, 8, none⟩) _, (but1_set p 3 _ w).trans (but1_set p 8 _ _) (by simp)⟩⟩
  rw [k2]
  have e1 : ((e.burn.fuel : Nat) : Int) = (e.fuel : Int) - 1 := by show ((e.fuel - 1 : Nat) : Int) = _; omega
  have e2 : ((e.burn.used : Nat) : Int) = (e.used : Int) + 1 := by show ((e.used + 1 : Nat) : Int) = _; omega
  unfold wkC
  rw [e1, e2]
  rfl
theorem wq_fuel {w : World} {base p : Nat} {FA : Option Addr} {fn fc most : Nat} {e : Ex} (h : Wq w base p FA fn fc most e) : w.cell? ⟨p, 3, none⟩ = some (.int .i64 e.fuel) := by
  obtain ⟨IA, MA, LA, RA, NA, ic, mc, lc, rc, nc, hp, hr, hk⟩ := h
  exact cell_of hk 3
set_option maxRecDepth 100000 in
set_option maxHeartbeats 2000000 in
theorem rburnq_no (base p : Nat) (FA : Option Addr) (fn fc most : Nat) (e : Ex) (s : By) (w : World) (h : Wq w base p FA fn fc most e) (hn : e.notes.length ≤ 100000) (hbase : base ≤ w.heap.size) (h0 : e.fuel = 0) :
    Calls Tryz.prog 88 #[.pointer (some ⟨p, 0, none⟩), .string ⟨s.toArray⟩] w fun en w' => en = .returned (.bool false) ∧ Below base w w' ∧ Wq w' base p FA fn fc most (e.note 9 s) := by
  have c3 := wq_fuel h
  rw [h0] at c3
  have C := Lib.hid (rnoteq_any base p FA fn fc most e 9 s w h hn hbase)
  clear h
  go_enter Tryz.func88, Tryz.ntmps88
  go_wp2_with fail
  refine C.out.mono ?_
  rintro en w' ⟨rfl, hb, hw⟩
  go_wp2
  go_ret
  exact ⟨rfl, hb, hw⟩
set_option maxRecDepth 100000 in
set_option maxHeartbeats 2000000 in
theorem rburnq_yes (base p : Nat) (FA : Option Addr) (fn fc most : Nat) (e : Ex) (s : By) (w : World) (h : Wq w base p FA fn fc most e) (h0 : e.fuel ≠ 0) (hf : e.fuel ≤ 1000) (hu : e.used ≤ 100000) :
    Calls Tryz.prog 88 #[.pointer (some ⟨p, 0, none⟩), .string ⟨s.toArray⟩] w fun en w' => en = .returned (.bool true) ∧ Below base w w' ∧ But1 p w w' ∧ Wq w' base p FA fn fc most e.burn := by
  obtain ⟨c3, f3, c8, f8, HW, HB⟩ := burn_stepq h h0
  have q : ((e.fuel : Int) == 0) = false := by simp [h0]
  clear h
  go_enter Tryz.func88, Tryz.ntmps88
  go_wp2
  go_ret
  exact ⟨rfl, HB.out.1, HB.out.2, HW.out⟩
/-- A file more that was asked for. -/
theorem WkR.read {w w' : World} {base p : Nat} {IA MA LA RA NA RA' : Option Addr} {lc rc nc rc' : Nat} {e : Ex} {s : By} (h : WkR w base p IA MA LA RA NA lc rc nc e) (ho : OwnT w' base RA' rc' (e.reads ++ [s])) (hg : w.grownBy w' (obA RA)) (hn : obA RA' = obA RA ∨ obA RA' = some w.heap.size) (hp : p < w.heap.size) :
    WkR w' base p IA MA LA RA' NA lc rc' nc { e with reads := e.reads ++ [s] } := by
  obtain ⟨_, _, _, _, hkeep⟩ := hg
  have far : ∀ g, g < w.heap.size → some g ≠ obA RA → w'.heap[g]? = w.heap[g]? := fun g h1 h2 => hkeep g h1 h2
  have new : ∀ g, g < w.heap.size → some g ≠ obA RA → some g ≠ obA RA' := fun g h1 h2 e => by
    rcases hn with q | q
    · exact h2 (e.trans q)
    · rw [q] at e
      have := Option.some.inj e
      omega
  have hl := rows_apart h.out h.reads (by decide)
  have hr := rows_apart h.notes h.reads (by decide)
  refine ⟨row_keep h.out fun g hg => far g (h.out.lt g hg).2 fun e => hl g hg (by rw [obA_own, e]), ho, row_keep h.notes fun g hg => far g (h.notes.lt g hg).2 fun e => hr g hg (by rw [obA_own, e]), h.pl, fun e => new p hp (fun e => h.pr e.symm) e.symm, h.pn,
    h.inp.heap fun h0 a ha => far _ (rd_in h.inp h0 a ha) (h.inpP h0 a ha).2.2.1, fun h0 a ha => ?_, rdM_move h.ms (fun h0 a ha => far _ (rdM_in h.ms h0 a ha) (h.msP h0 a ha).2.2.1) fun B l r q => ⟨r.heap fun h0 a ha => far _ (rd_in r h0 a ha) (q h0 a ha).2.2.1, fun h0 a ha => ?_⟩, fun h0 a ha => ?_⟩
  · obtain ⟨q1, q2, q3, q4⟩ := h.inpP h0 a ha
    exact ⟨q1, q2, new _ (rd_in h.inp h0 a ha) q3, q4⟩
  · obtain ⟨q1, q2, q3, q4⟩ := q h0 a ha
    exact ⟨q1, q2, new _ (rd_in r h0 a ha) q3, q4⟩
  · obtain ⟨q1, q2, q3, q4⟩ := h.msP h0 a ha
    exact ⟨q1, q2, new _ (rdM_in h.ms h0 a ha) q3, q4⟩
/-- A token more that is put out. -/
theorem WkR.put {w w' : World} {base p : Nat} {IA MA LA RA NA LA' : Option Addr} {lc rc nc lc' : Nat} {e : Ex} {t : Tok} (h : WkR w base p IA MA LA RA NA lc rc nc e) (ho : Own 82 w' base LA' lc' (e.out ++ [t])) (hg : w.grownBy w' (obA LA)) (hn : obA LA' = obA LA ∨ obA LA' = some w.heap.size) (hp : p < w.heap.size) :
    WkR w' base p IA MA LA' RA NA lc' rc nc { e with out := e.out ++ [t] } := by
  obtain ⟨_, _, _, _, hkeep⟩ := hg
  have far : ∀ g, g < w.heap.size → some g ≠ obA LA → w'.heap[g]? = w.heap[g]? := fun g h1 h2 => hkeep g h1 h2
  have new : ∀ g, g < w.heap.size → some g ≠ obA LA → some g ≠ obA LA' := fun g h1 h2 e => by
    rcases hn with q | q
    · exact h2 (e.trans q)
    · rw [q] at e
      have := Option.some.inj e
      omega
  have hl := rows_apart h.reads h.out (by decide)
  have hr := rows_apart h.notes h.out (by decide)
  refine ⟨ho, row_keep h.reads fun g hg => far g (World.ownsRow.lt h.reads g hg).2 fun e => hl g hg (by rw [obA_own, e]), row_keep h.notes fun g hg => far g (h.notes.lt g hg).2 fun e => hr g hg (by rw [obA_own, e]), fun e => new p hp (fun e => h.pl e.symm) e.symm, h.pr, h.pn,
    h.inp.heap fun h0 a ha => far _ (rd_in h.inp h0 a ha) (h.inpP h0 a ha).2.1, fun h0 a ha => ?_, rdM_move h.ms (fun h0 a ha => far _ (rdM_in h.ms h0 a ha) (h.msP h0 a ha).2.1) fun B l r q => ⟨r.heap fun h0 a ha => far _ (rd_in r h0 a ha) (q h0 a ha).2.1, fun h0 a ha => ?_⟩, fun h0 a ha => ?_⟩
  · obtain ⟨q1, q2, q3, q4⟩ := h.inpP h0 a ha
    exact ⟨q1, new _ (rd_in h.inp h0 a ha) q2, q3, q4⟩
  · obtain ⟨q1, q2, q3, q4⟩ := q h0 a ha
    exact ⟨q1, new _ (rd_in r h0 a ha) q2, q3, q4⟩
  · obtain ⟨q1, q2, q3, q4⟩ := h.msP h0 a ha
    exact ⟨q1, new _ (rdM_in h.ms h0 a ha) q2, q3, q4⟩
theorem ask_stepq {w w1 w2 : World} {base p : Nat} {FA : Option Addr} {fn fc most : Nat} {IA MA LA RA NA A' : Option Addr} {ic mc lc rc nc c' : Nat} {e : Ex} {s : By} (hic : e.inp.length ≤ ic ∧ ic ≤ 9223372036854775807) (hR : WkR w1 base p IA MA LA RA NA lc rc nc e) (hk : w1.heap[p]? = some (.cells (wkC FA fn fc most IA MA LA RA NA ic mc lc rc nc e) 77)) (hB : Below base w w1) (hp : base ≤ p) (hs : base ≤ w1.heap.size)
    (ho2 : OwnT w2 base A' c' (e.reads ++ [s])) (hg2 : w1.grownBy w2 (Value.slice RA e.reads.length rc).ownBlock) (hn2 : (Value.slice A' (e.reads ++ [s]).length c').ownBlock = (Value.slice RA e.reads.length rc).ownBlock ∨ (Value.slice A' (e.reads ++ [s]).length c').ownBlock = some w1.heap.size) :
    w2.cell? ⟨p, 6, none⟩ = some (.slice RA e.reads.length rc) ∧ w2.frozen? ⟨p, 6, none⟩ = false ∧ (w2.setCell ⟨p, 6, none⟩ (.slice A' (e.reads ++ [s]).length c')).cell? ⟨p, 0, none⟩ = some (.slice FA fn fc) ∧ Hid (Wq (w2.setCell ⟨p, 6, none⟩ (.slice A' (e.reads ++ [s]).length c')) base p FA fn fc most { e with reads := e.reads ++ [s] }) ∧ Hid (Below base w (w2.setCell ⟨p, 6, none⟩ (.slice A' (e.reads ++ [s]).length c'))) := by
  rw [obA_own] at hg2
  rw [obA_own, obA_own] at hn2
  have hpl := lt_of_blk hk
  have hk2 : w2.heap[p]? = some (.cells (wkC FA fn fc most IA MA LA RA NA ic mc lc rc nc e) 77) := by
    obtain ⟨_, _, _, _, q⟩ := hg2
    exact (q p hpl fun x => hR.pr x.symm).trans hk
  have hR2 := hR.read ho2 hg2 hn2 hpl
  have hk3 := blk_set hk2 6 (.slice A' (e.reads ++ [s]).length c')
  exact ⟨cell_of hk2 6, frozen_of hk2 6, cell_of hk3 0, Lib.hid ⟨IA, MA, LA, A', NA, ic, mc, lc, c', nc, ⟨hp, hic⟩, hR2.set 6 _, hk3⟩, Lib.hid ((hB.trans (below_grown hR.reads (by rw [obA_own]; exact hg2) hs)).setCell hp (p := ⟨p, 6, none⟩) _)⟩
set_option maxRecDepth 100000 in
set_option maxHeartbeats 2000000 in
theorem raskq_any (w0 : World) (p : Nat) (FA : Option Addr) (fs : List Fl.Fl) (fc most : Nat) (e : Ex) (s : By) (w : World) (h : Wq w w0.heap.size p FA fs.length fc most e) (hn : e.reads.length ≤ 1000) (hb : Below w0.heap.size w0 w) (hF : Fl.Rd w0 FA fs) (hfl : fs.length ≤ 1000) :
    Calls Tryz.prog 28 #[.pointer (some ⟨p, 0, none⟩), .string ⟨s.toArray⟩] w fun en w' => en = .returned (.tuple #[.string ⟨(Fl.txtL fs s).toArray⟩, .bool (Fl.hasL fs s)]) ∧ Below w0.heap.size w w' ∧ Wq w' w0.heap.size p FA fs.length fc most (e.ask s) := by
  obtain ⟨IA, MA, LA, RA, NA, ic, mc, lc, rc, nc, ⟨hp, hic⟩, hr, hk⟩ := h
  have hbase := hb.size
  have c6 : w.cell? ⟨p, 6, none⟩ = some (.slice RA e.reads.length rc) := cell_of hk 6
  have CA := Lib.hid (rasked_any p RA rc e.reads s w c6 (OwnT.rd hr.reads) (by omega))
  have CG := Lib.hid (fun W (h : Below w0.heap.size w0 W) => Fl.rget_any FA fc fs s W (hF.below h) (by omega))
  by_cases hm : s ∈ e.reads
  · have c0 : w.cell? ⟨p, 0, none⟩ = some (.slice FA fs.length fc) := cell_of hk 0
    have HW := Lib.hid (show Wq w w0.heap.size p FA fs.length fc most (e.ask s) by
      have : e.ask s = e := by unfold Ex.ask; rw [if_pos hm]
      rw [this]
      exact ⟨IA, MA, LA, RA, NA, ic, mc, lc, rc, nc, ⟨hp, hic⟩, hr, hk⟩)
    have HB := Lib.hid hb
    rw [decide_eq_true hm] at CA
    clear hk hr hm hic hb hF c6
    go_enter Tryz.func28, Tryz.ntmps28
    go_wp2_with fail
    refine CA.out.mono ?_
    rintro en w1 ⟨rfl, rfl⟩
    go_wp2_with fail
    refine (CG.out w HB.out).mono ?_
    rintro en w1 ⟨rfl, rfl⟩
    go_wp2
    go_ret2
    exact ⟨rfl, .refl _ _, HW.out⟩
  · have HE := Lib.hid (show e.ask s = { e with reads := e.reads ++ [s] } by unfold Ex.ask; rw [if_neg hm])
    rw [decide_eq_false hm] at CA
    have o1 := one_below w (.cells #[.string ⟨s.toArray⟩] 9)
    have HB1 := Lib.hid (o1.mono hbase)
    have HR1 := Lib.hid (hr.below o1)
    have HK1 := Lib.hid (blk_below o1 hk)
    have HG := Lib.hid (show (w.alloc (.cells #[.string ⟨s.toArray⟩] 9)).cell? ⟨w.heap.size, 0, none⟩ = some (.string ⟨s.toArray⟩) by rw [World.cell?_alloc_new]; rfl)
    have HS := Lib.hid (show w0.heap.size ≤ (w.alloc (.cells #[.string ⟨s.toArray⟩] 9)).heap.size by have := o1.size; omega)
    have HIC := Lib.hid hic
    have HB := Lib.hid hb
    clear hk hr hm hic hb hF o1
    go_enter Tryz.func28, Tryz.ntmps28
    go_wp2_with fail
    refine CA.out.mono ?_
    rintro en w1 ⟨rfl, rfl⟩
    go_wp2_with (at_builtin; refine wpList_append_t _ rfl _ _ rfl w0.heap.size RA rc e.reads rfl HR1.out.reads w.heap.size 1 s rfl HG.out (by omega) HS.out _ rfl ?_; intro A' c' w2 ho2 hg2 hn2; obtain ⟨d6, f6, d0, HW, HB2⟩ := ask_stepq HIC.out HR1.out HK1.out HB1.out hp HS.out ho2 hg2 hn2; have d0 : (w2.setCell ⟨p, 6, none⟩ (.slice A' (e.reads.length + 1) c')).cell? ⟨p, 0, none⟩ = some (.slice FA fs.length fc) := (by rw [show e.reads.length + 1 = (e.reads ++ [s]).length by simp]; exact d0); clear ho2 hg2 hn2)
    rw [show e.reads.length + 1 = (e.reads ++ [s]).length by simp]
    refine (CG.out _ (HB.out.trans HB2.out)).mono ?_
    rintro en w3 ⟨rfl, rfl⟩
    go_wp2
    go_ret2
    rw [show e.reads.length + 1 = (e.reads ++ [s]).length by simp]
    exact ⟨rfl, HB2.out, by rw [HE.out]; exact HW.out⟩
end Go.Proofs.YtmnbepapgghdaaaGreat

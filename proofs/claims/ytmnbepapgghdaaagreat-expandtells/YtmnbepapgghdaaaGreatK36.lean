/-
  The document's expansion of a file.
  Expansions whose answers the document fixes.
  The law's own calls whose answers the document fixes.
-/
import Derived.Test.YtmnbepapgghdaaaGreatK35
import Derived.KernelRfl
import Derived.Test.YtmnbepapgghdaaaGreatK04
namespace Go.Proofs.YtmnbepapgghdaaaGreat
open Go.RowKit

theorem put_stepq {w w1 w2 : World} {base p : Nat} {FA : Option Addr} {fn fc most : Nat} {IA MA LA RA NA A' : Option Addr} {ic mc lc rc nc c' : Nat} {e : Ex} {t : Tok} {r : List Tok} (hic : e.inp.length ≤ ic ∧ ic ≤ 9223372036854775807) (hR : WkR w1 base p IA MA LA RA NA lc rc nc e) (hk : w1.heap[p]? = some (.cells (wkC FA fn fc most IA MA LA RA NA ic mc lc rc nc e) 77)) (hB : Below base w w1) (hp : base ≤ p) (hs : base ≤ w1.heap.size) (hr : e.out ++ [t] = r)
    (ho2 : Own 82 w2 base A' c' r) (hg2 : w1.grownBy w2 (obA LA)) (hn2 : obA A' = obA LA ∨ obA A' = some w1.heap.size) :
    w2.cell? ⟨p, 5, none⟩ = some (.slice LA e.out.length lc) ∧ w2.frozen? ⟨p, 5, none⟩ = false ∧ Hid (Wq (w2.setCell ⟨p, 5, none⟩ (.slice A' r.length c')) base p FA fn fc most { e with out := r }) ∧ Hid (Below base w (w2.setCell ⟨p, 5, none⟩ (.slice A' r.length c'))) := by
  subst hr
  have hpl := lt_of_blk hk
  have hk2 : w2.heap[p]? = some (.cells (wkC FA fn fc most IA MA LA RA NA ic mc lc rc nc e) 77) := by
    obtain ⟨_, _, _, _, q⟩ := hg2
    exact (q p hpl fun x => hR.pl x.symm).trans hk
  have hR2 := hR.put ho2 hg2 hn2 hpl
  exact ⟨cell_of hk2 5, frozen_of hk2 5, Lib.hid ⟨IA, MA, A', RA, NA, ic, mc, c', rc, nc, ⟨hp, hic⟩, hR2.set 5 _, blk_set hk2 5 _⟩, Lib.hid ((hB.trans (below_grown hR.out (by rw [obA_own]; exact hg2) hs)).setCell hp (p := ⟨p, 5, none⟩) _)⟩
theorem ask_fine4 {fuel most : Nat} {main t : By} (hf : fuel ≤ 50) (ht : t.length ≤ 400) : Fine most 400 60000 { (ex0 fuel).ask main with inp := toks t } := by
  have hl : (toks t).length ≤ 400 := Nat.le_trans (toks_len t) ht
  refine ⟨⟨toks_pt (by omega), fun m hm => by cases hm⟩, Good.nil, hl, fun m hm => (by cases hm), ?_, Nat.zero_le _, ?_⟩
  · show (if main ∈ ([] : List By) then ([] : List By) else [] ++ [main]).length ≤ 32
    simp
  · show 0 + mu 400 _ ≤ 60000
    unfold mu
    show 0 + (fuel * (400 + 1) + (toks t).length) ≤ 60000
    have : fuel * (400 + 1) ≤ 50 * 401 := Nat.mul_le_mul hf (Nat.le_refl _)
    omega
/-- What is answered. -/
def ExpPost8 (w : World) (r : Res8) (en : Ending) (w' : World) : Prop :=
  ∃ (LA RA NA : Option Addr) (lc rc nc : Nat), en = .returned (.tuple #[.agg (outC LA RA NA lc rc nc r), .int .i64 0]) ∧ RdO w' LA RA NA r ∧ Below w.heap.size w w'
theorem zero37 (w : World) : (zeroValue 37).run Tryz.prog w = .ok (.agg #[.slice none 0 0, .slice none 0 0, .slice none 0 0, .int .i64 0]) w := by kernel_rfl
set_option maxRecDepth 100000 in
set_option maxHeartbeats 4000000 in
theorem rexpand_bad (A : Option Addr) (fn fc : Nat) (main : By) (fuel most : Int) (w : World) (h : fuel < 0 ∨ 1000 < fuel ∨ most < 0 ∨ 20000 < most) :
    Calls Tryz.prog 12 #[.slice A fn fc, .string ⟨main.toArray⟩, .int .i64 fuel, .int .i64 most] w fun en w' => en = .returned (.tuple #[.agg #[.slice none 0 0, .slice none 0 0, .slice none 0 0, .int .i64 0], .int .i64 1]) ∧ Below w.heap.size w w' := by
  have HK := heap_alloc_new w (.cells #[.slice none 0 0, .slice none 0 0, .slice none 0 0, .int .i64 0] 37)
  have HB := Lib.hid (one_below w (.cells #[.slice none 0 0, .slice none 0 0, .slice none 0 0, .int .i64 0] 37))
  obtain ⟨W0, hW⟩ : ∃ W0, w.alloc (.cells #[.slice none 0 0, .slice none 0 0, .slice none 0 0, .int .i64 0] 37) = W0 := ⟨_, rfl⟩
  have k0 : W0.cell? ⟨w.heap.size, 0, none⟩ = some (.slice none 0 0) := by rw [← hW]; exact cell_of HK 0
  have k1 : W0.cell? ⟨w.heap.size, 1, none⟩ = some (.slice none 0 0) := by rw [← hW]; exact cell_of HK 1
  have k2 : W0.cell? ⟨w.heap.size, 2, none⟩ = some (.slice none 0 0) := by rw [← hW]; exact cell_of HK 2
  have k3 : W0.cell? ⟨w.heap.size, 3, none⟩ = some (.int .i64 0) := by rw [← hW]; exact cell_of HK 3
  rw [hW] at HB HK
  have f0 := frozen_of HK 0
  have f1 := frozen_of HK 1
  have f2 := frozen_of HK 2
  have f3 := frozen_of HK 3
  have HR := Lib.hid ((((HB.out.setCell (Nat.le_refl _) (p := ⟨w.heap.size, 0, none⟩) (.slice none 0 0)).setCell (Nat.le_refl _) (p := ⟨w.heap.size, 1, none⟩) (.slice none 0 0)).setCell (Nat.le_refl _) (p := ⟨w.heap.size, 2, none⟩) (.slice none 0 0)).setCell (Nat.le_refl _) (p := ⟨w.heap.size, 3, none⟩) (.int .i64 0))
  have BK := Lib.hid (blk_set (blk_set (blk_set (blk_set HK 0 (.slice none 0 0)) 1 (.slice none 0 0)) 2 (.slice none 0 0)) 3 (.int .i64 0))
  clear HK
  have h' : fuel < 0 ∨ (0 ≤ fuel ∧ 1000 < fuel) ∨ (0 ≤ fuel ∧ fuel ≤ 1000 ∧ most < 0) ∨ (0 ≤ fuel ∧ fuel ≤ 1000 ∧ 0 ≤ most ∧ 20000 < most) := by omega
  clear h
  rcases h' with h1 | ⟨h1, h2⟩ | ⟨h1, h2, h3⟩ | ⟨h1, h2, h3, h4⟩
  all_goals
    go_enter Tryz.func12, Tryz.ntmps12
    go_wp2_with fail
    refine bodyPost_ret (results_cell_tmp (P := Tryz.prog) rfl _ _ w.heap.size 37 #[.slice none 0 0, .slice none 0 0, .slice none 0 0, .int .i64 0] (0, 0) _ _ (by rfl) (by rfl) BK.out Tryz.underlying37 rfl (by kernel_rfl)) rfl ?_
    exact ⟨rfl, HR.out⟩
set_option maxRecDepth 100000 in
set_option maxHeartbeats 8000000 in
theorem rexpand_go (fs : List Fl.Fl) (main : By) (A : Option Addr) (fc fuel most : Nat) (w : World) (hf : fuel ≤ 50) (hm : most ≤ 400) (hF : Fs w A fs) (htx : ∀ f ∈ fs, f.2.length ≤ 400) :
    Calls Tryz.prog 12 #[.slice A fs.length fc, .string ⟨main.toArray⟩, .int .i64 fuel, .int .i64 most] w (ExpPost8 w (outX (expE Fl.nmOk (flF fs) fuel most main))) := by
  obtain ⟨R, hR⟩ : ∃ R, outX (expE Fl.nmOk (flF fs) fuel most main) = R := ⟨_, rfl⟩
  rw [hR]
  have HRR := Lib.hid hR
  have HSH := Lib.hid (fs_short hF)
  have HTX := Lib.hid (show ∀ f ∈ fs, f.2.length ≤ 1000 from hF.txt)
  have HT4 := Lib.hid htx
  have K0 := heap_alloc_new w (.cells #[.slice none 0 0, .slice none 0 0, .slice none 0 0, .int .i64 0] 37)
  have b0 := one_below w (.cells #[.slice none 0 0, .slice none 0 0, .slice none 0 0, .int .i64 0] 37)
  obtain ⟨W1, hW1⟩ : ∃ W1, w.alloc (.cells #[.slice none 0 0, .slice none 0 0, .slice none 0 0, .int .i64 0] 37) = W1 := ⟨_, rfl⟩
  have HZ := Lib.hid (show W1.heap.size = w.heap.size + 1 by rw [← hW1]; simp)
  rw [hW1] at K0 b0
  have HK0 := Lib.hid K0
  have HB01 := Lib.hid b0
  have HF1 := Lib.hid (hF.rd.below b0)
  have q2 := wq_new W1 A fs.length fc fuel most
  have b2 := one_below W1 (.cells #[.slice A fs.length fc, .slice none 0 0, .slice none 0 0, .int .i64 fuel, .int .i64 most, .slice none 0 0, .slice none 0 0, .slice none 0 0, .int .i64 0] 77)
  obtain ⟨W2, hW2⟩ : ∃ W2, W1.alloc (.cells #[.slice A fs.length fc, .slice none 0 0, .slice none 0 0, .int .i64 fuel, .int .i64 most, .slice none 0 0, .slice none 0 0, .slice none 0 0, .int .i64 0] 77) = W2 := ⟨_, rfl⟩
  rw [hW2] at q2 b2
  have HB12 := Lib.hid b2
  have CK := Lib.hid (raskq_any W1 W1.heap.size A fs fc most (ex0 fuel) main W2 q2 (Nat.zero_le _) b2 HF1.out hF.len)
  have i1 : (0 : Int) ≤ fuel := by omega
  have i2 : (fuel : Int) ≤ 1000 := by omega
  have i3 : (0 : Int) ≤ most := by omega
  have i4 : (most : Int) ≤ 20000 := by omega
  clear hR K0 b0 q2 b2 htx
  go_enter Tryz.func12, Tryz.ntmps12
  go_wp2_with fail
  refine CK.out.mono ?_
  rintro en w3 ⟨rfl, hb, hq⟩
  have HBX := Lib.hid (HB12.out.trans hb)
  have HQ3 := Lib.hid hq
  clear hb hq CK hW2 i1 i2 i3 i4
  cases hfs : flF fs main with
  | none =>
    rw [flF_no hfs]
    have HE := Lib.hid (show outX (((ex0 fuel).ask main).note 4 main) = R by rw [← HRR.out]; unfold expE; rw [hfs])
    have CN := Lib.hid (rnoteq_any W1.heap.size W1.heap.size A fs.length fc most ((ex0 fuel).ask main) 4 main w3 HQ3.out (Nat.zero_le _) HBX.out.size)
    obtain ⟨e5, he5⟩ : ∃ e5, ((ex0 fuel).ask main).note 4 main = e5 := ⟨_, rfl⟩
    rw [he5] at HE CN
    clear hfs he5
    go_wp2_with fail
    refine CN.out.mono ?_
    rintro en w5 ⟨rfl, hb, hq⟩
    have HB5 := Lib.hid (HBX.out.trans hb)
    have HQ5 := Lib.hid hq
    clear hb hq
    obtain ⟨LA', RA', NA', lc', rc', nc', ⟨c5, c6, c7, c8⟩, ⟨r0, r1, r2, r3⟩, ⟨f0, f1, f2, f3⟩, wf, hwf, HW, HP, HBF⟩ := end_q HQ5.out HZ.out HB01.out HB5.out HK0.out
    subst hwf
    go_wp2_with fail
    (try simp only [Exit.inBlock, Exit.then])
    refine bodyPost_ret (results_cell_tmp (P := Tryz.prog) rfl _ _ w.heap.size 37 #[.slice LA' e5.out.length lc', .slice RA' e5.reads.length rc', .slice NA' e5.notes.length nc', .int .i64 e5.used] (0, 0) _ _ (by rfl) (by rfl) HW.out Tryz.underlying37 rfl (by kernel_rfl)) rfl ?_
    rw [← HE.out]
    exact ⟨LA', RA', NA', lc', rc', nc', rfl, HP.out, HBF.out⟩
  | some tx =>
    obtain ⟨hyes, htxt⟩ := flF_yes hfs
    rw [hyes, htxt]
    have htl : tx.length ≤ 400 := HT4.out _ (Fl.getL_mem hfs)
    have HE0 := Lib.hid (show outX (runE Fl.nmOk (flF fs) most { (ex0 fuel).ask main with inp := toks tx }) = R by rw [← HRR.out]; unfold expE; rw [hfs])
    have HF0 := Lib.hid (ask_fine4 (most := most) (main := main) hf htl)
    have CL := Lib.hid (rlex_by tx w3 (by omega))
    obtain ⟨T, hT⟩ : ∃ T, toks tx = T := ⟨_, rfl⟩
    rw [hT] at HE0 HF0 CL
    clear hfs hyes htxt hT
    go_wp2_with fail
    refine CL.out.mono ?_
    rintro en w4 ⟨D, dc, rfl, ho, hb⟩
    obtain ⟨IA, MA, LA, RA, NA, ic, mc, lc, rc, nc, ⟨hp, hic⟩, hr, hk⟩ := HQ3.out
    obtain ⟨f1, f2, HQ4, HB4, _⟩ := in_stepq (c := dc) hr hk hp hb ho.rd (own_newQ ho fun k q => hr.gd (lt_of_blk hk) q) ⟨ho.cap.1, ho.cap.2.1⟩
    have HL := Lib.hid (show LoopQ W1 W1.heap.size A fs fc most R (w4.setCell ⟨W1.heap.size, 1, none⟩ (.slice D T.length dc)) from ⟨_, HQ4.out, HE0.out, HF0.out, by show 0 + fuel ≤ 50; omega, HBX.out.trans HB4.out⟩)
    clear hp hic hr hk ho hb HQ4 HB4 CL HQ3 HBX HE0 HF0 HB12
    go_wp2_with fail
    go_loopw [] (fun wr => LoopQ W1 W1.heap.size A fs fc most R wr) (fun wr => muQ 400 W1.heap.size wr)
    case atStart => exact HL.out
    case round =>
      obtain ⟨e, hq, h2, h3, h4, h5⟩ := hrel
      have HMU := Lib.hid (muQ_eq 400 hq)
      have HQ := Lib.hid hq
      have H2 := Lib.hid h2
      have H3 := Lib.hid h3
      have H4 := Lib.hid h4
      have H5 := Lib.hid h5
      have HBD := Lib.hid (bd_of h3 hm h4)
      obtain ⟨IA, MA, LA, RA, NA, ic, mc, lc, rc, nc, ⟨hp, hic⟩, hr, hk⟩ := hq
      have c1 : wr.cell? ⟨W1.heap.size, 1, none⟩ = some (.slice IA e.inp.length ic) := cell_of hk 1
      clear h2 h3 h4 h5
      cases hi : e.inp with
      | nil =>
        rw [hi] at c1
        simp only [List.length_nil] at c1
        have HE := Lib.hid (show outX e = R by rw [← H2.out, run_end hi])
        clear hi hr hk hic hp
        obtain ⟨LA', RA', NA', lc', rc', nc', ⟨c5, c6, c7, c8⟩, ⟨r0, r1, r2, r3⟩, ⟨f0, f1, f2, f3⟩, wf, hwf, HW, HP, HBF⟩ := end_q HQ.out HZ.out HB01.out H5.out HK0.out
        subst hwf
        go_wp2_with fail
        (try simp only [Exit.inBlock, Exit.then])
        refine bodyPost_ret (results_cell_tmp (P := Tryz.prog) rfl _ _ w.heap.size 37 #[.slice LA' e.out.length lc', .slice RA' e.reads.length rc', .slice NA' e.notes.length nc', .int .i64 e.used] (0, 0) _ _ (by rfl) (by rfl) HW.out Tryz.underlying37 rfl (by kernel_rfl)) rfl ?_
        rw [← HE.out]
        exact ⟨LA', RA', NA', lc', rc', nc', rfl, HP.out, HBF.out⟩
      | cons t r =>
        have HI := Lib.hid hi
        have i5 : (0 : Int) < (e.inp.length : Int) := by rw [hi]; simp
        have hil : 1 ≤ e.inp.length := by rw [hi]; simp
        obtain ⟨b, o, rfl, hcell⟩ := hr.inp (by omega)
        obtain ⟨t0, t1⟩ := hcell 0 t (by rw [hi]; rfl)
        simp only [Nat.zero_mul, Nat.add_zero] at t0 t1
        have hpl := lt_of_blk hk
        have hqp : wr.heap.size ≠ W1.heap.size := by omega
        have bT := one_below wr (.cells #[.int .i64 t.1, .string ⟨t.2.toArray⟩] 82)
        obtain ⟨f1, f2, w3, hw3, HR3, HK3, HB3, HBU, HIC3⟩ := cut_stepr (k := 1) hic hr hk hp bT hil
        have hcut : ∀ w, (Instr.slice 35 (.slice (some ⟨b, o, none⟩) e.inp.length ic) (some (.int .i64 1)) none none).run Tryz.prog w = .ok (.slice (cutS 2 (some ⟨b, o, none⟩) ic 1) (e.inp.length - 1) (ic - 1)) w := fun w => rtok_from hil w
        have hw3' : w3 = (wr.setCell ⟨W1.heap.size, 1, none⟩ (.slice (cutS 2 (some ⟨b, o, none⟩) ic 1) (e.inp.length - 1) (ic - 1))).alloc (.cells #[.int .i64 t.1, .string ⟨t.2.toArray⟩] 82) := by
          rw [hw3]
          exact World.setCell_alloc_past _ _ _ _ hpl
        have n0 : (wr.alloc (.cells #[.int .i64 t.1, .string ⟨t.2.toArray⟩] 82)).cell? ⟨wr.heap.size, 0, none⟩ = some (.int .i64 t.1) := new_fst _ _ _ _
        have n1 : (wr.alloc (.cells #[.int .i64 t.1, .string ⟨t.2.toArray⟩] 82)).cell? ⟨wr.heap.size, 1, none⟩ = some (.string ⟨t.2.toArray⟩) := new_snd _ _ _ _
        have c5 : wr.cell? ⟨W1.heap.size, 5, none⟩ = some (.slice LA e.out.length lc) := cell_of hk 5
        have T0 := Lib.hid (HBU.out.cell hqp n0)
        have T1 := Lib.hid (HBU.out.cell hqp n1)
        have C5 := Lib.hid (show w3.cell? ⟨W1.heap.size, 5, none⟩ = some (.slice LA e.out.length lc) from cell_of HK3.out 5)
        have HQ3 := Lib.hid (show Wq w3 W1.heap.size W1.heap.size A fs.length fc most (e.go 1) from ⟨_, MA, LA, RA, NA, _, mc, lc, rc, nc, ⟨hp, HIC3.out⟩, HR3.out, HK3.out⟩)
        have HBX := Lib.hid (H5.out.trans HB3.out)
        clear hi hr hk hic hp hcell HR3 HK3 HIC3 HB3 HBU HQ bT
        by_cases hk4 : t.1 = 4
        · have hk4b : (t.1 == 4) = true := by simp [hk4]
          have HK4 := Lib.hid hk4
          clear hk4
          have CM := Lib.hid (rcommand_any W1 W1.heap.size A fs fc most (e.go 1) t.2 w3 HQ3.out (bd_go HBD.out) HBX.out HF1.out hF.len HTX.out (by omega))
          go_wp2_with fail
          rw [← hw3']
          clear c1 f1 f2 hw3 hw3' hcut n0 n1 c5 t0 t1
          refine CM.out.mono ?_
          rintro en w4 hpost
          cases hc : cmdE Fl.nmOk (flF fs) most (e.go 1) t.2 with
          | some e2 =>
            rw [hc] at hpost
            obtain ⟨rfl, hb, hq⟩ := hpost
            obtain ⟨hl9, hm9⟩ := loopq_step HSH.out hm H2.out H3.out H4.out (step_cmd HI.out HK4.out hc) hq (HBX.out.trans hb)
            have HL9 := Lib.hid hl9
            have HM9 := Lib.hid hm9
            clear hl9 hm9 hb hq hc CM
            go_wp2_with fail
            go_roundw
            case rel => exact HL9.out
            case measure => rw [HMU.out]; exact HM9.out
          | none =>
            rw [hc] at hpost
            obtain ⟨rfl, hb⟩ := hpost
            have HQW := Lib.hid (HQ3.out.below hb)
            have HBW := Lib.hid (HBX.out.trans (hb.mono HBX.out.size))
            have c5w := cell_below hb C5.out
            have t0w := cell_below hb T0.out
            have t1w := cell_below hb T1.out
            have HNO := Lib.hid (show t.1 ≠ 4 ∨ cmdE Fl.nmOk (flF fs) most (e.go 1) t.2 = none from .inr hc)
            clear hb hc CM HQ3 HBX T0 T1 C5
            by_cases hbig : most ≤ e.out.length
            · have hb1 : (most : Int) ≤ (e.out.length : Int) := by omega
              have HE := Lib.hid (show outX ((e.go 1).note 3 []) = R by
                have hs := step_none HI.out HNO.out
                rw [if_pos hbig] at hs
                rw [← H2.out, run_stop hs])
              have CN := Lib.hid (rnoteq_any W1.heap.size W1.heap.size A fs.length fc most (e.go 1) 3 [] w4 HQW.out (by have := H3.out.notes; show e.notes.length ≤ _; omega) HBW.out.size)
              go_wp2_with fail
              refine CN.out.mono ?_
              rintro en w5 ⟨rfl, hb, hq⟩
              have HB5 := Lib.hid (HBW.out.trans hb)
              have HQ5 := Lib.hid hq
              clear hb hq c5w t0w t1w
              obtain ⟨e5, he5⟩ : ∃ e5, (e.go 1).note 3 [] = e5 := ⟨_, rfl⟩
              rw [he5] at HE HQ5
              clear he5
              obtain ⟨LA', RA', NA', lc', rc', nc', ⟨c5, c6, c7, c8⟩, ⟨r0, r1, r2, r3⟩, ⟨f0, f1, f2, f3⟩, wf, hwf, HW, HP, HBF⟩ := end_q HQ5.out HZ.out HB01.out HB5.out HK0.out
              subst hwf
              go_wp2_with fail
              (try simp only [Exit.inBlock, Exit.then])
              refine bodyPost_ret (results_cell_tmp (P := Tryz.prog) rfl _ _ w.heap.size 37 #[.slice LA' e5.out.length lc', .slice RA' e5.reads.length rc', .slice NA' e5.notes.length nc', .int .i64 e5.used] (0, 0) _ _ (by rfl) (by rfl) HW.out Tryz.underlying37 rfl (by kernel_rfl)) rfl ?_
              rw [← HE.out]
              exact ⟨LA', RA', NA', lc', rc', nc', rfl, HP.out, HBF.out⟩
            · have hb1 : (e.out.length : Int) < (most : Int) := by omega
              have HST := Lib.hid (show stepE Fl.nmOk (flF fs) most e = some (true, { e.go 1 with out := e.out ++ [t] }) by
                have hs := step_none HI.out HNO.out
                rwa [if_neg hbig] at hs)
              go_wp2_with fail
              obtain ⟨I4, M4, L4, R4, N4, i4, m4, l4, r4, n4, ⟨hp4, hic4⟩, hr4, hk4⟩ := HQW.out
              have hL4 : L4 = LA ∧ l4 = lc := by
                have q1 : some (Value.slice L4 (e.go 1).out.length l4) = some (Value.slice LA e.out.length lc) := (cell_of hk4 5).symm.trans c5w
                have q2 := Option.some.inj q1
                simp only [Value.slice.injEq] at q2
                exact ⟨q2.1, q2.2.2⟩
              obtain ⟨rfl, rfl⟩ := hL4
              have bA := one_below w4 (.cells #[.int .i64 t.1, .string ⟨t.2.toArray⟩] 82)
              have bd := below_drew (w4.alloc (.cells #[.int .i64 t.1, .string ⟨t.2.toArray⟩] 82))
              have HRA := Lib.hid ((hr4.below bA).below bd)
              have HKA := Lib.hid (blk_below bd (blk_below bA hk4))
              have HBA := Lib.hid (HBW.out.trans ((bch bA bd).mono HBW.out.size))
              have HZA := Lib.hid (show W1.heap.size ≤ (w4.alloc (.cells #[.int .i64 t.1, .string ⟨t.2.toArray⟩] 82)).drew.heap.size from HBA.out.size)
              have HIC4 := Lib.hid hic4
              have c5a := cell_below bA c5w
              have HRD := Lib.hid (show Rd (w4.alloc (.cells #[.int .i64 t.1, .string ⟨t.2.toArray⟩] 82)).drew (some ⟨w4.heap.size, 0, none⟩) [t] from Rd.below (one_new w4 t 82) bd)
              have hol := H3.out.out
              obtain ⟨ro, hro⟩ : ∃ ro, e.out ++ [t] = ro := ⟨_, rfl⟩
              have HRO := Lib.hid hro
              rw [hro] at HST
              clear hr4 hk4 bA bd hic4 hro
              go_region_law (refine step_append_d (w4.alloc (.cells #[.int .i64 t.1, .string ⟨t.2.toArray⟩] 82)).drew (by rfl) _ _ (by rfl) W1.heap.size L4 l4 e.out (by rfl) HRA.out.out (some ⟨w4.heap.size, 0, none⟩) 1 1 [t] (by rfl) (by rfl) HRD.out (by show _ + 1 ≤ _; omega) HZA.out ro HRO.out ?_
                             intro A' c' w9 ho9 hg9 hn9
                             obtain ⟨d5, g5, HW9, HB9⟩ := put_stepq HIC4.out HRA.out HKA.out HBA.out hp4 HZA.out HRO.out ho9 hg9 hn9)
              all_goals
                obtain ⟨hl9, hm9⟩ := loopq_step HSH.out hm H2.out H3.out H4.out HST.out HW9.out HB9.out
                have HL9 := Lib.hid hl9
                have HM9 := Lib.hid hm9
                clear hl9 hm9
                go_wp2
                go_roundw
                case rel => exact HL9.out
                case measure => rw [HMU.out]; exact HM9.out
        · have hk4b : (t.1 == 4) = false := by simp [hk4]
          have HNO := Lib.hid (show t.1 ≠ 4 ∨ cmdE Fl.nmOk (flF fs) most (e.go 1) t.2 = none from .inl hk4)
          clear hk4
          have HQW := HQ3
          have HBW := HBX
          by_cases hbig : most ≤ e.out.length
          · have hb1 : (most : Int) ≤ (e.out.length : Int) := by omega
            have HE := Lib.hid (show outX ((e.go 1).note 3 []) = R by
              have hs := step_none HI.out HNO.out
              rw [if_pos hbig] at hs
              rw [← H2.out, run_stop hs])
            have CN := Lib.hid (rnoteq_any W1.heap.size W1.heap.size A fs.length fc most (e.go 1) 3 [] w3 HQW.out (by have := H3.out.notes; show e.notes.length ≤ _; omega) HBW.out.size)
            go_wp2_with fail
            rw [← hw3']
            clear c1 f1 f2 hw3 hw3' hcut n0 n1 c5 t0 t1
            have c5w := C5.out
            have t0w := T0.out
            have t1w := T1.out
            refine CN.out.mono ?_
            rintro en w5 ⟨rfl, hb, hq⟩
            have HB5 := Lib.hid (HBW.out.trans hb)
            have HQ5 := Lib.hid hq
            clear hb hq c5w t0w t1w
            obtain ⟨e5, he5⟩ : ∃ e5, (e.go 1).note 3 [] = e5 := ⟨_, rfl⟩
            rw [he5] at HE HQ5
            clear he5
            obtain ⟨LA', RA', NA', lc', rc', nc', ⟨c5, c6, c7, c8⟩, ⟨r0, r1, r2, r3⟩, ⟨f0, f1, f2, f3⟩, wf, hwf, HW, HP, HBF⟩ := end_q HQ5.out HZ.out HB01.out HB5.out HK0.out
            subst hwf
            go_wp2_with fail
            (try simp only [Exit.inBlock, Exit.then])
            refine bodyPost_ret (results_cell_tmp (P := Tryz.prog) rfl _ _ w.heap.size 37 #[.slice LA' e5.out.length lc', .slice RA' e5.reads.length rc', .slice NA' e5.notes.length nc', .int .i64 e5.used] (0, 0) _ _ (by rfl) (by rfl) HW.out Tryz.underlying37 rfl (by kernel_rfl)) rfl ?_
            rw [← HE.out]
            exact ⟨LA', RA', NA', lc', rc', nc', rfl, HP.out, HBF.out⟩
          · have hb1 : (e.out.length : Int) < (most : Int) := by omega
            have HST := Lib.hid (show stepE Fl.nmOk (flF fs) most e = some (true, { e.go 1 with out := e.out ++ [t] }) by
              have hs := step_none HI.out HNO.out
              rwa [if_neg hbig] at hs)
            go_wp2_with fail
            rw [← hw3']
            clear c1 f1 f2 hw3 hw3' hcut n0 n1 c5 t0 t1
            have c5w := C5.out
            have t0w := T0.out
            have t1w := T1.out
            obtain ⟨I4, M4, L4, R4, N4, i4, m4, l4, r4, n4, ⟨hp4, hic4⟩, hr4, hk4⟩ := HQW.out
            have hL4 : L4 = LA ∧ l4 = lc := by
              have q1 : some (Value.slice L4 (e.go 1).out.length l4) = some (Value.slice LA e.out.length lc) := (cell_of hk4 5).symm.trans c5w
              have q2 := Option.some.inj q1
              simp only [Value.slice.injEq] at q2
              exact ⟨q2.1, q2.2.2⟩
            obtain ⟨rfl, rfl⟩ := hL4
            have bA := one_below w3 (.cells #[.int .i64 t.1, .string ⟨t.2.toArray⟩] 82)
            have bd := below_drew (w3.alloc (.cells #[.int .i64 t.1, .string ⟨t.2.toArray⟩] 82))
            have HRA := Lib.hid ((hr4.below bA).below bd)
            have HKA := Lib.hid (blk_below bd (blk_below bA hk4))
            have HBA := Lib.hid (HBW.out.trans ((bch bA bd).mono HBW.out.size))
            have HZA := Lib.hid (show W1.heap.size ≤ (w3.alloc (.cells #[.int .i64 t.1, .string ⟨t.2.toArray⟩] 82)).drew.heap.size from HBA.out.size)
            have HIC4 := Lib.hid hic4
            have c5a := cell_below bA c5w
            have HRD := Lib.hid (show Rd (w3.alloc (.cells #[.int .i64 t.1, .string ⟨t.2.toArray⟩] 82)).drew (some ⟨w3.heap.size, 0, none⟩) [t] from Rd.below (one_new w3 t 82) bd)
            have hol := H3.out.out
            obtain ⟨ro, hro⟩ : ∃ ro, e.out ++ [t] = ro := ⟨_, rfl⟩
            have HRO := Lib.hid hro
            rw [hro] at HST
            clear hr4 hk4 bA bd hic4 hro
            go_region_law (refine step_append_d (w3.alloc (.cells #[.int .i64 t.1, .string ⟨t.2.toArray⟩] 82)).drew (by rfl) _ _ (by rfl) W1.heap.size L4 l4 e.out (by rfl) HRA.out.out (some ⟨w3.heap.size, 0, none⟩) 1 1 [t] (by rfl) (by rfl) HRD.out (by show _ + 1 ≤ _; omega) HZA.out ro HRO.out ?_
                           intro A' c' w9 ho9 hg9 hn9
                           obtain ⟨d5, g5, HW9, HB9⟩ := put_stepq HIC4.out HRA.out HKA.out HBA.out hp4 HZA.out HRO.out ho9 hg9 hn9)
            all_goals
              obtain ⟨hl9, hm9⟩ := loopq_step HSH.out hm H2.out H3.out H4.out HST.out HW9.out HB9.out
              have HL9 := Lib.hid hl9
              have HM9 := Lib.hid hm9
              clear hl9 hm9
              go_wp2
              go_roundw
              case rel => exact HL9.out
              case measure => rw [HMU.out]; exact HM9.out
end Go.Proofs.YtmnbepapgghdaaaGreat

namespace Go.Proofs.YtmnbepapgghdaaaGreat
open Go.RowKit

def iterL (ok : By → Bool) (F : By → Option By) (most : Nat) : Nat → Ex → Ex
  | 0, e => e
  | n + 1, e => iterL ok F most n (stepL ok F most e)
theorem iter_out {ok : By → Bool} {F : By → Option By} {most : Nat} : ∀ (n : Nat) (e : Ex), (iterL ok F most n e).inp = [] → outX (runE ok F most e) = outX (iterL ok F most n e)
  | 0, e, h => by show outX (runE ok F most e) = outX e; rw [run_end (show e.inp = [] from h)]
  | n + 1, e, h => run_stepL.symm.trans (iter_out n (stepL ok F most e) h)
theorem expE_is {fs : List Fl.Fl} {fuel most : Nat} {main t : By} (n : Nat) (ht : flF fs main = some t) (r : Res8) (h0 : (iterL Fl.nmOk (flF fs) most n { (ex0 fuel).ask main with inp := toks t }).inp = []) (h : outX (iterL Fl.nmOk (flF fs) most n { (ex0 fuel).ask main with inp := toks t }) = r) :
    outX (expE Fl.nmOk (flF fs) fuel most main) = r := by
  unfold expE
  rw [ht]
  exact (iter_out n _ h0).trans h
def tA : By := [92, 100, 101, 102, 123, 120, 125, 123, 49, 125, 123, 60, 35, 49, 62, 125, 92, 120, 123, 97, 125]
def tB : By := [92, 100, 101, 102, 123, 120, 125, 123, 48, 125, 123, 92, 120, 125, 92, 120]
def tC : By := [92, 105, 110, 99, 108, 117, 100, 101, 123, 110, 125, 92, 100, 101, 102, 123, 49, 125, 123, 48, 125, 123, 125, 92, 105, 102, 100, 101, 102, 123, 120, 125, 123, 97, 125, 123, 98, 125]
theorem fixA : outX (expE Fl.nmOk (flF [([109], tA)]) 9 100 [109]) = ([(1, [60]), (1, [97]), (1, [62])], [[109]], [], 1) := expE_is (t := tA) 30 (by kernel_rfl) _ (by kernel_rfl) (by kernel_rfl)
theorem fixB : outX (expE Fl.nmOk (flF [([109], tB)]) 5 100 [109]) = ([], [[109]], [(9, [120])], 5) := expE_is (t := tB) 30 (by kernel_rfl) _ (by kernel_rfl) (by kernel_rfl)
theorem fixC : outX (expE Fl.nmOk (flF [([109], tC)]) 5 100 [109]) = ([(1, [98])], [[109], [110]], [(4, [110]), (2, [49])], 1) := expE_is (t := tC) 30 (by kernel_rfl) _ (by kernel_rfl) (by kernel_rfl)
theorem fixD : outX (expE Fl.nmOk (flF []) 0 0 [109]) = ([], [[109]], [(4, [109])], 0) := by kernel_rfl
end Go.Proofs.YtmnbepapgghdaaaGreat

namespace Go.Proofs.YtmnbepapgghdaaaGreat
open Go.RowKit

def rA : Res8 := ([(1, [60]), (1, [97]), (1, [62])], [[109]], [], 1)
def rB : Res8 := ([], [[109]], [(9, [120])], 5)
def rC : Res8 := ([(1, [98])], [[109], [110]], [(4, [110]), (2, [49])], 1)
def rD : Res8 := ([], [[109]], [(4, [109])], 0)
/-- An answer of known lengths. -/
def Ans (w : World) (r : Res8) (a b c : Nat) (u : Int) (en : Ending) (w' : World) : Prop :=
  ∃ (LA RA NA : Option Addr) (lc rc nc : Nat), en = .returned (.agg #[.slice LA a lc, .slice RA b rc, .slice NA c nc, .int .i64 u]) ∧ RdO w' LA RA NA r ∧ Below w.heap.size w w'
def Ans2 (w : World) (r : Res8) (a b c : Nat) (u : Int) (en : Ending) (w' : World) : Prop :=
  ∃ (LA RA NA : Option Addr) (lc rc nc : Nat), en = .returned (.tuple #[.agg #[.slice LA a lc, .slice RA b rc, .slice NA c nc, .int .i64 u], .int .i64 0]) ∧ RdO w' LA RA NA r ∧ Below w.heap.size w w'
theorem of_A (w : World) : Calls Tryz.prog 17 #[.string ⟨#[92, 100, 101, 102, 123, 120, 125, 123, 49, 125, 123, 60, 35, 49, 62, 125, 92, 120, 123, 97, 125]⟩, .int .i64 9] w (Ans w rA 3 1 0 1) := by
  have h := of_any tA 9 w (by omega) (by decide)
  rw [fixA] at h
  exact h.mono fun en w' ⟨LA, RA, NA, lc, rc, nc, q1, q2, q3⟩ => ⟨LA, RA, NA, lc, rc, nc, q1, q2.rdo, q3⟩
theorem of_B (w : World) : Calls Tryz.prog 17 #[.string ⟨#[92, 100, 101, 102, 123, 120, 125, 123, 48, 125, 123, 92, 120, 125, 92, 120]⟩, .int .i64 5] w (Ans w rB 0 1 1 5) := by
  have h := of_any tB 5 w (by omega) (by decide)
  rw [fixB] at h
  exact h.mono fun en w' ⟨LA, RA, NA, lc, rc, nc, q1, q2, q3⟩ => ⟨LA, RA, NA, lc, rc, nc, q1, q2.rdo, q3⟩
theorem of_C (w : World) : Calls Tryz.prog 17 #[.string ⟨#[92, 105, 110, 99, 108, 117, 100, 101, 123, 110, 125, 92, 100, 101, 102, 123, 49, 125, 123, 48, 125, 123, 125, 92, 105, 102, 100, 101, 102, 123, 120, 125, 123, 97, 125, 123, 98, 125]⟩, .int .i64 5] w (Ans w rC 1 2 2 1) := by
  have h := of_any tC 5 w (by omega) (by decide)
  rw [fixC] at h
  exact h.mono fun en w' ⟨LA, RA, NA, lc, rc, nc, q1, q2, q3⟩ => ⟨LA, RA, NA, lc, rc, nc, q1, q2.rdo, q3⟩
theorem no_fs (w : World) : Fs w none [] := ⟨fun h => absurd h (by decide), by decide, List.Pairwise.nil, fun f hf => by cases hf⟩
theorem exp_D (w : World) : Calls Tryz.prog 11 #[.slice none 0 0, .string ⟨#[109]⟩, .int .i64 0, .int .i64 0] w (Ans2 w rD 0 1 1 0) := by
  have h := expand_go [] [109] none 0 0 0 w (by omega) (by omega) (no_fs w)
  rw [fixD] at h
  exact h.mono fun en w' ⟨LA, RA, NA, lc, rc, nc, q1, q2, q3⟩ => ⟨LA, RA, NA, lc, rc, nc, q1, q2.rdo, q3⟩
/-! ### rows of texts and of notes that are made anew -/
theorem words1 (w : World) (s : By) : RdS (w.alloc (.cells #[.string ⟨s.toArray⟩] 9)) (some ⟨w.heap.size, 0, none⟩) [s] := fun _ => ⟨w.heap.size, 0, rfl, fun i f hi => by
  match i, hi with
  | 0, hi => cases hi; exact (by rw [World.cell?_alloc_new]; rfl)
  | i + 1, hi => simp at hi⟩
theorem words2 (w : World) (s t : By) : RdS (w.alloc (.cells #[.string ⟨s.toArray⟩, .string ⟨t.toArray⟩] 9)) (some ⟨w.heap.size, 0, none⟩) [s, t] := fun _ => ⟨w.heap.size, 0, rfl, fun i f hi => by
  match i, hi with
  | 0, hi => cases hi; exact (by rw [World.cell?_alloc_new]; rfl)
  | 1, hi => cases hi; exact (by rw [World.cell?_alloc_new]; rfl)
  | i + 2, hi => simp at hi⟩
theorem notes1 (w : World) (k : Int) (s : By) : Rd (w.alloc (.cells #[.int .i64 k, .string ⟨s.toArray⟩] 86)) (some ⟨w.heap.size, 0, none⟩) [(k, s)] := fun _ => ⟨w.heap.size, 0, rfl, fun i f hi => by
  match i, hi with
  | 0, hi => cases hi; exact ⟨new_fst w _ _ 86, new_snd w _ _ 86⟩
  | i + 1, hi => simp at hi⟩
theorem notes2 (w : World) (k j : Int) (s t : By) : Rd (w.alloc (.cells #[.int .i64 k, .string ⟨s.toArray⟩, .int .i64 j, .string ⟨t.toArray⟩] 86)) (some ⟨w.heap.size, 0, none⟩) [(k, s), (j, t)] := fun _ => ⟨w.heap.size, 0, rfl, fun i f hi => by
  match i, hi with
  | 0, hi => cases hi; exact ⟨by rw [World.cell?_alloc_new]; rfl, by rw [World.cell?_alloc_new]; rfl⟩
  | 1, hi => cases hi; exact ⟨by rw [World.cell?_alloc_new]; rfl, by rw [World.cell?_alloc_new]; rfl⟩
  | i + 2, hi => simp at hi⟩
end Go.Proofs.YtmnbepapgghdaaaGreat

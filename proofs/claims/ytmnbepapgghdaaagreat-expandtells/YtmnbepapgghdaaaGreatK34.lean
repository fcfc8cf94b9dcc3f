/-
  The document's expansion: an include.
  The document's expansion: a macro that is called.
  The document's expansion: a command.
-/
import Derived.Test.YtmnbepapgghdaaaGreatK32
import Derived.Test.YtmnbepapgghdaaaGreatK33
namespace Go.Proofs.YtmnbepapgghdaaaGreat
open Go.RowKit

theorem flF_no {fs : List Fl.Fl} {s : By} (h : flF fs s = none) : Fl.hasL fs s = false := by
  rw [Fl.hasL_get]
  unfold flF at h
  rw [h]
  rfl
theorem flF_yes {fs : List Fl.Fl} {s t : By} (h : flF fs s = some t) : Fl.hasL fs s = true ∧ Fl.txtL fs s = t := by
  unfold flF at h
  exact ⟨by rw [Fl.hasL_get, h]; rfl, by unfold Fl.txtL; rw [h]; rfl⟩
theorem rlex_by (t : By) (w : World) (h : t.length ≤ 100000) : Calls Tryz.prog 21 #[.string ⟨t.toArray⟩] w (Res 82 w (toks t)) :=
  rlex_any ⟨t.toArray⟩ w (by show t.toArray.size ≤ _; simp; omega)
theorem enter21q (args : Array Value) (w : World) : (callFunc 21 args).run Tryz.prog w = .ok (.enter 21 args) w := enter_of Tryz.func21 (by kernel_rfl) (by kernel_rfl) args w
theorem enter89q (args : Array Value) (w : World) : (callFunc 89 args).run Tryz.prog w = .ok (.enter 89 args) w := enter_of Tryz.func89 (by kernel_rfl) (by kernel_rfl) args w
/-- Its cell of what is to come. -/
theorem Wq.open {w : World} {base p : Nat} {FA : Option Addr} {fn fc most : Nat} {e : Ex} (h : Wq w base p FA fn fc most e) : ∃ IA ic, w.cell? ⟨p, 1, none⟩ = some (.slice IA e.inp.length ic) ∧ Rd w IA e.inp ∧ InQ (· ≠ p) IA e.inp.length := by
  obtain ⟨IA, MA, LA, RA, NA, ic, mc, lc, rc, nc, hp, hr, hk⟩ := h
  exact ⟨IA, ic, cell_of hk 1, hr.inp, fun h0 a ha => (hr.inpP h0 a ha).1⟩
set_option maxRecDepth 100000 in
set_option maxHeartbeats 4000000 in
theorem rinclude_any (w0 : World) (p : Nat) (FA : Option Addr) (fs : List Fl.Fl) (fc most : Nat) (e : Ex) (w : World) (h : Wq w w0.heap.size p FA fs.length fc most e) (hbd : Bd e) (hb0 : Below w0.heap.size w0 w) (hF : Fl.Rd w0 FA fs) (hfl : fs.length ≤ 1000) (htx : ∀ f ∈ fs, f.2.length ≤ 1000) (hm : most ≤ 1000) :
    Calls Tryz.prog 60 #[.pointer (some ⟨p, 0, none⟩)] w fun en w' => en = .returned (.tuple #[]) ∧ Below w0.heap.size w w' ∧ Wq w' w0.heap.size p FA fs.length fc most (incE Fl.nmOk (flF fs) most e) := by
  have HBD := Lib.hid hbd
  have HWQ := Lib.hid h
  have HB0 := Lib.hid hb0
  obtain ⟨IA, MA, LA, RA, NA, ic, mc, lc, rc, nc, ⟨hp, hic⟩, hr, hk⟩ := h
  have hbase := hb0.size
  have hpl := lt_of_blk hk
  have CW := Lib.hid (rwordq_any (P := Gd p (obA LA) (obA RA) (obA NA)) p IA ic e.inp 1 w (cell_of hk 1) hr.inp (by have := hbd.len; omega) hic.1 hic.2 ⟨by omega, by omega⟩ (Lib.hid (fun k q => hr.gd hpl q)))
  have CN := Lib.hid (fun W (h : Wq W w0.heap.size p FA fs.length fc most e) (q : w0.heap.size ≤ W.heap.size) => rnoteq_any w0.heap.size p FA fs.length fc most e 10 sInc W h (by have := hbd.notes; omega) q)
  have HR := Lib.hid hr
  have HK := Lib.hid hk
  have HIC := Lib.hid hic
  have HBS := Lib.hid hbase
  clear hr hk hic hbd hb0
  obtain ⟨G, hG⟩ : ∃ G, incE Fl.nmOk (flF fs) most e = G := ⟨_, rfl⟩
  rw [hG]
  have HG : Hid ((match argsW e.inp 1 with
    | none => e.note 10 sInc
    | some (_, s, p) =>
      if Fl.nmOk s = false then (e.go p).note 2 s else if 32 ≤ e.reads.length ∧ s ∉ e.reads then (e.go p).note 3 s else if e.fuel = 0 then (e.go p).note 9 s else
      match flF fs s with
      | none => ((e.go p).burn.ask s).note 4 s
      | some t => ((e.go p).burn.ask s).come most s (toks t)) = G) := Lib.hid hG
  clear hG
  cases hw : argsW e.inp 1 with
  | none =>
    rw [hw] at CW HG
    simp only at HG
    rw [HG.out] at CN
    clear hw HG
    go_enter Tryz.func60, Tryz.ntmps60
    go_wp2_with fail
    refine CW.out.mono ?_
    rintro en w1 ⟨a, b, c, rfl, hb⟩
    have HB := Lib.hid hb
    clear hb
    go_wp2_with fail
    refine (CN.out w1 (HWQ.out.below HB.out) (by have := HB.out.size; omega)).mono ?_
    rintro en w2 ⟨rfl, hb, hq⟩
    have HB2 := Lib.hid ((HB.out.mono HBS.out).trans hb)
    have HQ := Lib.hid hq
    clear hb hq
    go_wp2_with fail
    (try simp only [Exit.inBlock, Exit.then])
    refine bodyPost_ret (results_none rfl _ _ _) rfl ?_
    exact ⟨rfl, HB2.out, HQ.out⟩
  | some y =>
    obtain ⟨x, s, k⟩ := y
    rw [hw] at CW HG
    have hx1 : x.length = 1 := (args_le (argsW_some hw).1 (Nat.zero_le _)).1
    obtain ⟨_, hkl, _⟩ := args_part (argsW_some hw).1 (Nat.zero_le _)
    have hs := argsW_name HBD.out.pt.1 hw
    have hil := HBD.out.len
    simp only at HG
    clear hw CN
    go_enter Tryz.func60, Tryz.ntmps60
    go_wp2_with fail
    refine CW.out.mono ?_
    rintro en w1 ⟨B, d, rfl, ho, hb⟩
    obtain ⟨f1, f2, w3, hw3, HR3, HK3, HB3, HBU, HIC3⟩ := cut_stepr HIC.out HR.out HK.out hp hb hkl
    have HCUT := fun w => rtok_from (A := IA) (n := e.inp.length) (c := ic) (l := k) hkl w
    have HQ3 := Lib.hid (show Wq w3 w0.heap.size p FA fs.length fc most (e.go k) from ⟨_, MA, LA, RA, NA, _, mc, lc, rc, nc, ⟨hp, HIC3.out⟩, HR3.out, HK3.out⟩)
    have HZ3 := Lib.hid (show w0.heap.size ≤ w3.heap.size by have := HB3.out.size; omega)
    have hrl := HBD.out.reads
    have HNM := Lib.hid (Fl.rname_any s w3 (by omega))
    have CA := Lib.hid (rasked_any p RA rc e.reads s w3 (cell_of HK3.out 6) (OwnT.rd HR3.out.reads) (by omega))
    have c6 : w3.cell? ⟨p, 6, none⟩ = some (.slice RA e.reads.length rc) := cell_of HK3.out 6
    have C6 := Lib.hid c6
    have CN := Lib.hid (fun (j : Int) => rnoteq_any w0.heap.size p FA fs.length fc most (e.go k) j s w3 HQ3.out (by have := HBD.out.notes; show e.notes.length ≤ _; omega) HZ3.out)
    have e1r : (e.go k).reads = e.reads := rfl
    have e1f : (e.go k).fuel = e.fuel := rfl
    have e1u : (e.go k).used = e.used := rfl
    have e1n : (e.go k).notes = e.notes := rfl
    have e1l : (e.go k).inp.length ≤ 1000 := by show (e.inp.drop k).length ≤ _; simp; omega
    have HE1 := Lib.hid (And.intro e1r (And.intro e1f (And.intro e1u (And.intro e1n e1l))))
    clear e1r e1f e1u e1n e1l hb ho c6 HR3 HK3 HIC3 HBU
    obtain ⟨e1, he1⟩ : ∃ e1, e.go k = e1 := ⟨_, rfl⟩
    rw [he1] at HG HQ3 HE1
    simp only [he1] at CN
    clear he1
    go_wp2_with fail
    rw [← hw3]
    clear f1 f2 HCUT hw3
    refine HNM.out.mono ?_
    rintro en w2 ⟨rfl, rfl⟩
    have HBX := HB3
    cases hok : Fl.nmOk s with
    | false =>
      rw [hok, if_pos rfl] at HG
      go_wp2_with fail
      refine (CN.out 2).mono ?_
      rintro en w2 ⟨rfl, hb, hq⟩
      have HBF := Lib.hid (HBX.out.trans hb)
      have HQF := Lib.hid hq
      clear hb hq
      go_wp2_with fail
      (try simp only [Exit.inBlock, Exit.then])
      refine bodyPost_ret (results_none rfl _ _ _) rfl ?_
      exact ⟨rfl, HBF.out, by rw [← HG.out]; exact HQF.out⟩
    | true =>
      rw [hok, if_neg (by decide)] at HG
      have c6 := C6.out
      clear hok HNM
      by_cases hbig : 32 ≤ e.reads.length ∧ s ∉ e.reads
      · rw [if_pos hbig] at HG
        rw [decide_eq_false hbig.2] at CA
        have i1 : (32 : Int) ≤ (e.reads.length : Int) := by have := hbig.1; omega
        clear hbig
        go_wp2_with fail
        refine CA.out.mono ?_
        rintro en w2 ⟨rfl, rfl⟩
        go_wp2_with fail
        refine (CN.out 3).mono ?_
        rintro en w2 ⟨rfl, hb, hq⟩
        have HBF := Lib.hid (HBX.out.trans hb)
        have HQF := Lib.hid hq
        clear hb hq
        go_wp2_with fail
        (try simp only [Exit.inBlock, Exit.then])
        refine bodyPost_ret (results_none rfl _ _ _) rfl ?_
        exact ⟨rfl, HBF.out, by rw [← HG.out]; exact HQF.out⟩
      · rw [if_neg hbig] at HG
        have HBIG := Lib.hid hbig
        clear hbig
        have hways : e.reads.length < 32 ∨ (32 ≤ e.reads.length ∧ s ∈ e.reads) := by
          rcases Nat.lt_or_ge e.reads.length 32 with q | q
          · exact .inl q
          · exact .inr ⟨q, Classical.byContradiction fun z => HBIG.out ⟨q, z⟩⟩
        rcases hways with hsm | ⟨hge, hin⟩
        · have i1 : (e.reads.length : Int) < 32 := by omega
          go_wp2_with fail
          clear c6 C6 CN CA
          by_cases hfu : e.fuel = 0
          · rw [if_pos hfu] at HG
            have C88 := Lib.hid (rburnq_no w0.heap.size p FA fs.length fc most e1 s w3 HQ3.out (by rw [HE1.out.2.2.2.1]; have := HBD.out.notes; omega) HZ3.out (by rw [HE1.out.2.1]; exact hfu))
            refine C88.out.mono ?_
            rintro en w2 ⟨rfl, hb, hq⟩
            have HBF := Lib.hid (HBX.out.trans hb)
            have HQF := Lib.hid hq
            clear hb hq
            go_wp2_with fail
            (try simp only [Exit.inBlock, Exit.then])
            refine bodyPost_ret (results_none rfl _ _ _) rfl ?_
            exact ⟨rfl, HBF.out, by rw [← HG.out]; exact HQF.out⟩
          · rw [if_neg hfu] at HG
            have C88 := Lib.hid (rburnq_yes w0.heap.size p FA fs.length fc most e1 s w3 HQ3.out (by rw [HE1.out.2.1]; exact hfu) (by rw [HE1.out.2.1]; have := HBD.out.fuel; omega) (by rw [HE1.out.2.2.1]; have := HBD.out.used; omega))
            refine C88.out.mono ?_
            rintro en w4 ⟨rfl, hb, _, hq⟩
            have HBX := Lib.hid (HBX.out.trans hb)
            have HQ4 := Lib.hid hq
            clear hb hq
            have CK := Lib.hid (raskq_any w0 p FA fs fc most e1.burn s w4 HQ4.out (by show e1.reads.length ≤ _; rw [HE1.out.1]; omega) (HB0.out.trans HBX.out) hF hfl)
            have HE2 := Lib.hid (show (e1.burn.ask s).notes.length ≤ 90000 ∧ (e1.burn.ask s).inp.length ≤ 1000 from ⟨by show e1.notes.length ≤ _; rw [HE1.out.2.2.2.1]; exact HBD.out.notes, HE1.out.2.2.2.2⟩)
            obtain ⟨e2, he2⟩ : ∃ e2, e1.burn.ask s = e2 := ⟨_, rfl⟩
            rw [he2] at CK HG HE2
            clear he2 hfu
            go_wp2_with fail
            refine CK.out.mono ?_
            rintro en w5 ⟨rfl, hb, hq⟩
            have HBX := Lib.hid (HBX.out.trans hb)
            have HQ5 := Lib.hid hq
            have HZ5 := Lib.hid (show w0.heap.size ≤ w5.heap.size by have := (HB0.out.trans HBX.out).size; omega)
            clear hb hq CK
            cases hfs : flF fs s with
            | none =>
              rw [hfs] at HG
              simp only at HG
              have hno := flF_no hfs
              have CN5 := Lib.hid (rnoteq_any w0.heap.size p FA fs.length fc most e2 4 s w5 HQ5.out (by have := HE2.out.1; omega) HZ5.out)
              rw [hno]
              clear hfs hno
              go_wp2_with fail
              refine (CN5.out).mono ?_
              rintro en w2 ⟨rfl, hb, hq⟩
              have HBF := Lib.hid (HBX.out.trans hb)
              have HQF := Lib.hid hq
              clear hb hq
              go_wp2_with fail
              (try simp only [Exit.inBlock, Exit.then])
              refine bodyPost_ret (results_none rfl _ _ _) rfl ?_
              exact ⟨rfl, HBF.out, by rw [← HG.out]; exact HQF.out⟩
            | some tx =>
              rw [hfs] at HG
              simp only at HG
              obtain ⟨hyes, htxt⟩ := flF_yes hfs
              have htl : tx.length ≤ 1000 := htx _ (Fl.getL_mem hfs)
              rw [hyes, htxt]
              clear hfs hyes htxt
              obtain ⟨I5, i5, c1, r5, _⟩ := HQ5.out.open
              have CL := Lib.hid (rlex_by tx w5.drew (by omega))
              have htk := toks_len tx
              have HR5 := Lib.hid r5
              have c1 : w5.drew.cell? ⟨p, 1, none⟩ = some (.slice I5 e2.inp.length i5) := c1
              have HQ6 := Lib.hid (HQ5.out.below (below_drew w5))
              have htk2 : (toks tx).length ≤ 1000 := by omega
              obtain ⟨T, hT⟩ : ∃ T, toks tx = T := ⟨_, rfl⟩
              rw [hT] at CL HG htk2
              clear r5 htk hT
              go_wp2_with fail
              go_region_law (first
              | (refine step_call w5.drew (by rfl) 21 _ _ (by rfl) #[.string ⟨tx.toArray⟩] (by rfl) (enter21q _ _) (R := fun z w' => ∃ D dd, z = .slice D T.length dd ∧ Own 82 w' w5.drew.heap.size D dd T ∧ Below w5.drew.heap.size w5.drew w') (CL.out.mono fun _ _ ⟨D, dd, q1, q2, q3⟩ => ⟨_, q1, D, dd, rfl, q2, q3⟩) ?_
                 rintro z w7 ⟨D, dd, rfl, ho7, hb7⟩
                 have HB7 := Lib.hid hb7
                 have HO7 := Lib.hid ho7
                 have c7 := cell_below hb7 c1
                 clear hb7 ho7)
              | (refine step_call w7 (by rfl) 89 _ _ (by rfl) #[.pointer (some ⟨p, 0, none⟩), .string ⟨s.toArray⟩, .slice D T.length dd, .slice I5 e2.inp.length i5] (by rfl) (enter89q _ _) (R := fun z w' => z = .tuple #[] ∧ Below w0.heap.size w7 w' ∧ Wq w' w0.heap.size p FA fs.length fc most (e2.come most s T)) ((rcome_any w0.heap.size p FA fs.length fc most e2 s D I5 dd i5 T w7 (HQ6.out.below HB7.out) HO7.out.rd ((HR5.out.below (below_drew w5)).below HB7.out) (by omega) (by omega) (by have := HE2.out.2; omega) (by have := HE2.out.1; omega) (by have := HB7.out.size; have := HZ5.out; show _ ≤ w7.heap.size; have e0 : w5.drew.heap.size = w5.heap.size := rfl; omega)).mono fun _ _ ⟨q1, q2, q3⟩ => ⟨_, q1, rfl, q2, q3⟩) ?_
                 rintro z w8 ⟨rfl, hb8, hq8⟩
                 have HB8 := Lib.hid hb8
                 have HQ8 := Lib.hid hq8
                 clear hb8 hq8))
              all_goals
                have HBF := Lib.hid (HBX.out.trans (((below_drew w5).trans HB7.out).mono HZ5.out |>.trans HB8.out))
                go_wp2_with fail
                go_end0
                exact ⟨rfl, HBF.out, by rw [← HG.out]; exact HQ8.out⟩
        · have i1 : (32 : Int) ≤ (e.reads.length : Int) := by omega
          rw [decide_eq_true hin] at CA
          clear hin
          go_wp2_with fail
          refine CA.out.mono ?_
          rintro en w2 ⟨rfl, rfl⟩
          go_wp2_with fail
          clear c6 C6 CN CA
          by_cases hfu : e.fuel = 0
          · rw [if_pos hfu] at HG
            have C88 := Lib.hid (rburnq_no w0.heap.size p FA fs.length fc most e1 s w3 HQ3.out (by rw [HE1.out.2.2.2.1]; have := HBD.out.notes; omega) HZ3.out (by rw [HE1.out.2.1]; exact hfu))
            refine C88.out.mono ?_
            rintro en w2 ⟨rfl, hb, hq⟩
            have HBF := Lib.hid (HBX.out.trans hb)
            have HQF := Lib.hid hq
            clear hb hq
            go_wp2_with fail
            (try simp only [Exit.inBlock, Exit.then])
            refine bodyPost_ret (results_none rfl _ _ _) rfl ?_
            exact ⟨rfl, HBF.out, by rw [← HG.out]; exact HQF.out⟩
          · rw [if_neg hfu] at HG
            have C88 := Lib.hid (rburnq_yes w0.heap.size p FA fs.length fc most e1 s w3 HQ3.out (by rw [HE1.out.2.1]; exact hfu) (by rw [HE1.out.2.1]; have := HBD.out.fuel; omega) (by rw [HE1.out.2.2.1]; have := HBD.out.used; omega))
            refine C88.out.mono ?_
            rintro en w4 ⟨rfl, hb, _, hq⟩
            have HBX := Lib.hid (HBX.out.trans hb)
            have HQ4 := Lib.hid hq
            clear hb hq
            have CK := Lib.hid (raskq_any w0 p FA fs fc most e1.burn s w4 HQ4.out (by show e1.reads.length ≤ _; rw [HE1.out.1]; omega) (HB0.out.trans HBX.out) hF hfl)
            have HE2 := Lib.hid (show (e1.burn.ask s).notes.length ≤ 90000 ∧ (e1.burn.ask s).inp.length ≤ 1000 from ⟨by show e1.notes.length ≤ _; rw [HE1.out.2.2.2.1]; exact HBD.out.notes, HE1.out.2.2.2.2⟩)
            obtain ⟨e2, he2⟩ : ∃ e2, e1.burn.ask s = e2 := ⟨_, rfl⟩
            rw [he2] at CK HG HE2
            clear he2 hfu
            go_wp2_with fail
            refine CK.out.mono ?_
            rintro en w5 ⟨rfl, hb, hq⟩
            have HBX := Lib.hid (HBX.out.trans hb)
            have HQ5 := Lib.hid hq
            have HZ5 := Lib.hid (show w0.heap.size ≤ w5.heap.size by have := (HB0.out.trans HBX.out).size; omega)
            clear hb hq CK
            cases hfs : flF fs s with
            | none =>
              rw [hfs] at HG
              simp only at HG
              have hno := flF_no hfs
              have CN5 := Lib.hid (rnoteq_any w0.heap.size p FA fs.length fc most e2 4 s w5 HQ5.out (by have := HE2.out.1; omega) HZ5.out)
              rw [hno]
              clear hfs hno
              go_wp2_with fail
              refine (CN5.out).mono ?_
              rintro en w2 ⟨rfl, hb, hq⟩
              have HBF := Lib.hid (HBX.out.trans hb)
              have HQF := Lib.hid hq
              clear hb hq
              go_wp2_with fail
              (try simp only [Exit.inBlock, Exit.then])
              refine bodyPost_ret (results_none rfl _ _ _) rfl ?_
              exact ⟨rfl, HBF.out, by rw [← HG.out]; exact HQF.out⟩
            | some tx =>
              rw [hfs] at HG
              simp only at HG
              obtain ⟨hyes, htxt⟩ := flF_yes hfs
              have htl : tx.length ≤ 1000 := htx _ (Fl.getL_mem hfs)
              rw [hyes, htxt]
              clear hfs hyes htxt
              obtain ⟨I5, i5, c1, r5, _⟩ := HQ5.out.open
              have CL := Lib.hid (rlex_by tx w5.drew (by omega))
              have htk := toks_len tx
              have HR5 := Lib.hid r5
              have c1 : w5.drew.cell? ⟨p, 1, none⟩ = some (.slice I5 e2.inp.length i5) := c1
              have HQ6 := Lib.hid (HQ5.out.below (below_drew w5))
              have htk2 : (toks tx).length ≤ 1000 := by omega
              obtain ⟨T, hT⟩ : ∃ T, toks tx = T := ⟨_, rfl⟩
              rw [hT] at CL HG htk2
              clear r5 htk hT
              go_wp2_with fail
              go_region_law (first
              | (refine step_call w5.drew (by rfl) 21 _ _ (by rfl) #[.string ⟨tx.toArray⟩] (by rfl) (enter21q _ _) (R := fun z w' => ∃ D dd, z = .slice D T.length dd ∧ Own 82 w' w5.drew.heap.size D dd T ∧ Below w5.drew.heap.size w5.drew w') (CL.out.mono fun _ _ ⟨D, dd, q1, q2, q3⟩ => ⟨_, q1, D, dd, rfl, q2, q3⟩) ?_
                 rintro z w7 ⟨D, dd, rfl, ho7, hb7⟩
                 have HB7 := Lib.hid hb7
                 have HO7 := Lib.hid ho7
                 have c7 := cell_below hb7 c1
                 clear hb7 ho7)
              | (refine step_call w7 (by rfl) 89 _ _ (by rfl) #[.pointer (some ⟨p, 0, none⟩), .string ⟨s.toArray⟩, .slice D T.length dd, .slice I5 e2.inp.length i5] (by rfl) (enter89q _ _) (R := fun z w' => z = .tuple #[] ∧ Below w0.heap.size w7 w' ∧ Wq w' w0.heap.size p FA fs.length fc most (e2.come most s T)) ((rcome_any w0.heap.size p FA fs.length fc most e2 s D I5 dd i5 T w7 (HQ6.out.below HB7.out) HO7.out.rd ((HR5.out.below (below_drew w5)).below HB7.out) (by omega) (by omega) (by have := HE2.out.2; omega) (by have := HE2.out.1; omega) (by have := HB7.out.size; have := HZ5.out; show _ ≤ w7.heap.size; have e0 : w5.drew.heap.size = w5.heap.size := rfl; omega)).mono fun _ _ ⟨q1, q2, q3⟩ => ⟨_, q1, rfl, q2, q3⟩) ?_
                 rintro z w8 ⟨rfl, hb8, hq8⟩
                 have HB8 := Lib.hid hb8
                 have HQ8 := Lib.hid hq8
                 clear hb8 hq8))
              all_goals
                have HBF := Lib.hid (HBX.out.trans (((below_drew w5).trans HB7.out).mono HZ5.out |>.trans HB8.out))
                go_wp2_with fail
                go_end0
                exact ⟨rfl, HBF.out, by rw [← HG.out]; exact HQ8.out⟩
end Go.Proofs.YtmnbepapgghdaaaGreat

namespace Go.Proofs.YtmnbepapgghdaaaGreat
open Go.RowKit

theorem enter90q (args : Array Value) (w : World) : (callFunc 90 args).run Tryz.prog w = .ok (.enter 90 args) w := enter_of Tryz.func90 (by kernel_rfl) (by kernel_rfl) args w
/-- Lists in blocks that stay. -/
theorem ownL_but {P : Nat → Prop} {t : TypeId} {w w' : World} {base p : Nat} {A : Option Addr} {c : Nat} {ll : List (List Tok)} (h : Pq.OwnL P t w base A c ll) (hb : But1 p w w') (hp : p < base) (hP : ∀ b, P b → b ≠ p) : RdL w' A ll := fun h0 => by
  obtain ⟨l0, hl0⟩ : ∃ l0, ll[0]? = some l0 := ⟨_, List.getElem?_eq_getElem h0⟩
  obtain ⟨b, _, _, rfl, hbb, _⟩ := ownL_atq h hl0
  refine ⟨b, 0, rfl, fun i l hi => ?_⟩
  obtain ⟨b2, B, d, e, _, _, c1, r1, q1⟩ := ownL_atq h hi
  cases e
  rw [Nat.zero_add]
  exact ⟨B, d, hb.cell (by omega) c1, r1.but hb fun h0 a ha => hP _ (q1 h0 a ha)⟩
theorem fill_small {x : List (List Tok)} {b : List Tok} (hx : ∀ y ∈ x, y.length ≤ 400) (hb : b.length ≤ 400) : (fillL b x).length ≤ 160000 := by
  have := fill_bound (B := 400) hx (by omega) b
  have h2 : b.length * 400 ≤ 400 * 400 := Nat.mul_le_mul_right _ hb
  omega
set_option maxRecDepth 100000 in
set_option maxHeartbeats 4000000 in
theorem rcall_any (base p : Nat) (FA : Option Addr) (fn fc most : Nat) (e : Ex) (s : By) (dd : Int) (body : List Tok) (B : Option Addr) (bd : Nat) (w : World) (h : Wq w base p FA fn fc most e) (hbd : Bd e) (hbase : base ≤ w.heap.size) (hd : 0 ≤ dd ∧ dd ≤ 9) (hb : Rd w B body) (hbq : InQ (· ≠ p) B body.length) (hbl : body.length ≤ 400) (hm : most ≤ 1000) :
    Calls Tryz.prog 61 #[.pointer (some ⟨p, 0, none⟩), .agg #[.string ⟨s.toArray⟩, .int .i64 dd, .slice B body.length bd]] w fun en w' => en = .returned (.tuple #[]) ∧ Below base w w' ∧ Wq w' base p FA fn fc most (callE most e s (dd, body)) := by
  have HBD := Lib.hid hbd
  have b0 := one_below w (.cells #[.string ⟨s.toArray⟩, .int .i64 dd, .slice B body.length bd] 110)
  have m0 : (w.alloc (.cells #[.string ⟨s.toArray⟩, .int .i64 dd, .slice B body.length bd] 110)).cell? ⟨w.heap.size, 0, none⟩ = some (.string ⟨s.toArray⟩) := by rw [World.cell?_alloc_new]; rfl
  have m1 : (w.alloc (.cells #[.string ⟨s.toArray⟩, .int .i64 dd, .slice B body.length bd] 110)).cell? ⟨w.heap.size, 1, none⟩ = some (.int .i64 dd) := by rw [World.cell?_alloc_new]; rfl
  have m2 : (w.alloc (.cells #[.string ⟨s.toArray⟩, .int .i64 dd, .slice B body.length bd] 110)).cell? ⟨w.heap.size, 2, none⟩ = some (.slice B body.length bd) := by rw [World.cell?_alloc_new]; rfl
  have h1 := h.below b0
  have hb1 := hb.below b0
  have hlt := h.lt.2
  have HB1 := Lib.hid (b0.mono hbase)
  obtain ⟨W, hW⟩ : ∃ W, w.alloc (.cells #[.string ⟨s.toArray⟩, .int .i64 dd, .slice B body.length bd] 110) = W := ⟨_, rfl⟩
  have hWs : w.heap.size < W.heap.size := by rw [← hW]; simp
  rw [hW] at m0 m1 m2 h1 hb1 HB1
  clear h hb b0
  obtain ⟨q, hq⟩ : ∃ q, w.heap.size = q := ⟨_, rfl⟩
  have hqp : q ≠ p := by omega
  obtain ⟨IA, MA, LA, RA, NA, ic, mc, lc, rc, nc, ⟨hp, hic⟩, hr, hk⟩ := h1
  have hpl := lt_of_blk hk
  have e0 : argsE e.inp 0 dd = argsP (argsG e.inp dd.toNat 0) := by
    unfold argsE
    rw [if_neg (by omega)]
    rfl
  have CA := Lib.hid (Pq.rargs_any (P := Gd p (obA LA) (obA RA) (obA NA)) IA ic e.inp 0 dd W.drew (hr.inp.below (below_drew W)) (by have := hbd.len; omega) hic.1 hic.2 (Lib.hid (fun k (z : W.heap.size ≤ k) => hr.gd hpl z)))
  rw [e0] at CA
  have HQW := Lib.hid (show Wq W base p FA fn fc most e from ⟨IA, MA, LA, RA, NA, ic, mc, lc, rc, nc, ⟨hp, hic⟩, hr, hk⟩)
  have HR := Lib.hid hr
  have HK := Lib.hid hk
  have HIC := Lib.hid hic
  have k1 : W.drew.cell? ⟨p, 1, none⟩ = some (.slice IA e.inp.length ic) := cell_of hk 1
  rw [hq] at m0 m1 m2 hWs
  have M0 := Lib.hid m0
  have M2 := Lib.hid m2
  have m1 : W.drew.cell? ⟨q, 1, none⟩ = some (.int .i64 dd) := m1
  have HRB := Lib.hid hb1
  have HBQ := Lib.hid hbq
  clear hr hk hic hbd e0 m0 m2 hb1 hbq
  unfold callE
  simp only
  cases hg : argsG e.inp dd.toNat 0 with
  | none =>
    rw [hg] at CA
    simp only [argsP, List.length_nil] at CA
    clear hg
    go_enter Tryz.func61, Tryz.ntmps61
    go_wp2_with fail
    try rw [hW]
    try rw [hq]
    go_region_held3 (fun v => v.cell? ⟨p, 1, none⟩ = some (.slice IA e.inp.length ic) ∧ v.cell? ⟨q, 1, none⟩ = some (.int .i64 dd))
      (first
        | exact ⟨cell_below HB2.out k1, cell_below HB2.out m1⟩
        | exact ⟨k1, m1⟩
        | go_keep)
      (first
        | (go_at_call 87; refine CA.out.mono ?_; rintro e' w2 ⟨A2, c2, rfl, ho2, hb2⟩; have HB2 := Lib.hid hb2; clear hb2 ho2))
    have HB3 := Lib.hid (show Below W.heap.size W w2 from bch (below_drew W) HB2.out)
    have n0 := cell_below HB3.out M0.out
    have CN := Lib.hid (rnoteq_any base p FA fn fc most e 10 s w2 (HQW.out.below HB3.out) (by have := HBD.out.notes; omega) (by have := HB3.out.size; omega))
    have HB4 := Lib.hid (HB1.out.trans (HB3.out.mono (by omega)))
    clear k1 m1
    go_wp2_with fail
    refine CN.out.mono ?_
    rintro en w3 ⟨rfl, hb, hq⟩
    have HBF := Lib.hid (HB4.out.trans hb)
    have HQF := Lib.hid hq
    clear hb hq n0
    go_wp2_with fail
    (try simp only [Exit.inBlock, Exit.then])
    refine bodyPost_ret (results_none rfl _ _ _) rfl ?_
    exact ⟨rfl, HBF.out, HQF.out⟩
  | some y =>
    obtain ⟨x, k⟩ := y
    rw [hg] at CA
    simp only [argsP] at CA
    obtain ⟨a1, hkl, a3⟩ := args_le hg (Nat.zero_le _)
    simp only at a1 hkl a3
    have HXL := Lib.hid (fun y hy => Nat.le_trans (a3 y hy) HBD.out.len)
    have A1 := Lib.hid a1
    clear hg a3 a1
    have HE1 := Lib.hid (show (e.go k).fuel = e.fuel ∧ (e.go k).used = e.used ∧ (e.go k).notes = e.notes ∧ (e.go k).inp.length ≤ 400 from ⟨rfl, rfl, rfl, by show (e.inp.drop k).length ≤ _; have := HBD.out.len; simp; omega⟩)
    obtain ⟨T, hT⟩ : ∃ T, fillL body x = T := ⟨_, rfl⟩
    have HT := Lib.hid hT
    have hTl : T.length ≤ 160000 := by rw [← hT]; exact fill_small HXL.out hbl
    obtain ⟨e1, he1⟩ : ∃ e1, e.go k = e1 := ⟨_, rfl⟩
    obtain ⟨G, hG⟩ : ∃ G, (if e.fuel = 0 then e1.note 9 s else e1.burn.come most s T) = G := ⟨_, rfl⟩
    have HG := Lib.hid hG
    simp only [he1, hT, hG]
    have HHE := Lib.hid he1
    rw [he1] at HE1
    clear hT hG he1
    go_enter Tryz.func61, Tryz.ntmps61
    go_wp2_with fail
    try rw [hW]
    try rw [hq]
    go_region_held3 (fun v => v.cell? ⟨p, 1, none⟩ = some (.slice IA e.inp.length ic) ∧ v.cell? ⟨q, 1, none⟩ = some (.int .i64 dd))
      (first
        | exact ⟨cell_below HB2.out k1, cell_below HB2.out m1⟩
        | exact ⟨k1, m1⟩
        | go_keep)
      (first
        | (go_at_call 87; refine CA.out.mono ?_; rintro e' w2 ⟨A2, c2, rfl, ho2, hb2⟩; have HB2 := Lib.hid hb2; have HO2 := Lib.hid ho2; clear hb2 ho2))
    have HB3 := Lib.hid (show Below W.heap.size W w2 from bch (below_drew W) HB2.out)
    obtain ⟨f1, f2, w3, hw3, HR3, HK3, HB3b, HBU, HIC3⟩ := cut_stepr HIC.out HR.out HK.out hp HB3.out hkl
    have HCUT := fun w => rtok_from (A := IA) (n := e.inp.length) (c := ic) (l := k) hkl w
    have HQ3 := Lib.hid (show Wq w3 base p FA fn fc most e1 by rw [← HHE.out]; exact ⟨_, MA, LA, RA, NA, _, mc, lc, rc, nc, ⟨hp, HIC3.out⟩, HR3.out, HK3.out⟩)
    have n0 := HBU.out.cell hqp (cell_below HB3.out M0.out)
    have N2 := Lib.hid (HBU.out.cell hqp (cell_below HB3.out M2.out))
    have HRB3 := Lib.hid ((HRB.out.below HB3.out).but HBU.out HBQ.out)
    have HZ3 := Lib.hid (show base ≤ w3.heap.size by have := HB3b.out.size; omega)
    have HBU3S := Lib.hid (show w2.heap.size ≤ w3.heap.size by rw [hw3]; simp)
    have HBX := Lib.hid (HB1.out.trans HB3b.out)
    have N0 := Lib.hid n0
    have n00 := cell_below HB3.out M0.out
    clear k1 m1 CA HR3 HK3 HIC3 HB2 HB3b n0
    go_wp2_with fail
    rw [← hw3]
    clear f1 f2 HCUT hw3 n00
    have n0 := N0.out
    by_cases hfu : e.fuel = 0
    · rw [if_pos hfu] at HG
      have C88 := Lib.hid (rburnq_no base p FA fn fc most e1 s w3 HQ3.out (by rw [HE1.out.2.2.1]; have := HBD.out.notes; omega) HZ3.out (by rw [HE1.out.1]; exact hfu))
      refine C88.out.mono ?_
      rintro en w4 ⟨rfl, hb, hq⟩
      have HBF := Lib.hid (HBX.out.trans hb)
      have HQF := Lib.hid hq
      clear hb hq n0
      go_wp2_with fail
      go_end0
      exact ⟨rfl, HBF.out, by rw [← HG.out]; exact HQF.out⟩
    · rw [if_neg hfu] at HG
      have C88 := Lib.hid (rburnq_yes base p FA fn fc most e1 s w3 HQ3.out (by rw [HE1.out.1]; exact hfu) (by rw [HE1.out.1]; have := HBD.out.fuel; omega) (by rw [HE1.out.2.1]; have := HBD.out.used; omega))
      refine C88.out.mono ?_
      rintro en w4 ⟨rfl, hb, hbu4, hq4⟩
      have HBX := Lib.hid (HBX.out.trans hb)
      have HZ4 := Lib.hid (show base ≤ w4.heap.size by have := HBX.out.size; omega)
      have HB24 := Lib.hid (HBU.out.trans hbu4 (by have := HBU3S.out; omega))
      have HRL := Lib.hid (ownL_but HO2.out HB24.out (show p < W.drew.heap.size from hpl) (fun b z => z.1))
      have HRB4 := Lib.hid (HRB3.out.but hbu4 HBQ.out)
      have HQ4 := Lib.hid hq4
      have n0 := hbu4.cell hqp N0.out
      have n2 := hbu4.cell hqp N2.out
      obtain ⟨I4, i4, c1, r4, _⟩ := hq4.open
      have CL := Lib.hid (rfill_any B A2 bd c2 body x w4.drew (HRB4.out.below (below_drew w4)) (HRL.out.below (below_drew w4)) (by omega) (by have := A1.out; omega) (by rw [HT.out]; omega))
      rw [HT.out] at CL
      have HI4 := Lib.hid r4
      have HQ5 := Lib.hid (HQ4.out.below (below_drew w4))
      have HE2 := Lib.hid (show e1.burn.notes.length ≤ 90000 ∧ e1.burn.inp.length ≤ 400 from ⟨by show e1.notes.length ≤ _; rw [HE1.out.2.2.1]; exact HBD.out.notes, HE1.out.2.2.2⟩)
      obtain ⟨e2, he2⟩ : ∃ e2, e1.burn = e2 := ⟨_, rfl⟩
      rw [he2] at HG HE2 HQ5 c1 r4 HI4
      have n0 : w4.drew.cell? ⟨q, 0, none⟩ = some (.string ⟨s.toArray⟩) := n0
      have n2 : w4.drew.cell? ⟨q, 2, none⟩ = some (.slice B body.length bd) := n2
      have c1 : w4.drew.cell? ⟨p, 1, none⟩ = some (.slice I4 e2.inp.length i4) := c1
      clear hb hbu4 hq4 he2 hfu r4 HO2 HRL HRB4 HRB3 C88 HQ3 HQ4 HB24 N0 N2 M0 M2
      go_wp2_with fail
      go_region_law (first
        | (refine step_call w4.drew (by rfl) 90 _ _ (by rfl) #[.slice B body.length bd, .slice A2 x.length c2] (by rfl) (enter90q _ _) (R := fun z w' => ∃ D dd, z = .slice D T.length dd ∧ Own 82 w' w4.drew.heap.size D dd T ∧ Below w4.drew.heap.size w4.drew w') (CL.out.mono fun _ _ ⟨D, dd, q1, q2, q3⟩ => ⟨_, q1, D, dd, rfl, q2, q3⟩) ?_
           rintro z w7 ⟨D, d7, rfl, ho7, hb7⟩
           have HB7 := Lib.hid hb7
           have HO7 := Lib.hid ho7
           have c7 := cell_below hb7 c1
           have n7 := cell_below hb7 n0
           clear hb7 ho7)
        | (refine step_call w7 (by rfl) 89 _ _ (by rfl) #[.pointer (some ⟨p, 0, none⟩), .string ⟨s.toArray⟩, .slice D T.length d7, .slice I4 e2.inp.length i4] (by rfl) (enter89q _ _) (R := fun z w' => z = .tuple #[] ∧ Below base w7 w' ∧ Wq w' base p FA fn fc most (e2.come most s T)) ((rcome_any base p FA fn fc most e2 s D I4 d7 i4 T w7 (HQ5.out.below HB7.out) HO7.out.rd ((HI4.out.below (below_drew w4)).below HB7.out) (by omega) (by omega) (by have := HE2.out.2; omega) (by have := HE2.out.1; omega) (by have := HB7.out.size; have := HZ4.out; show _ ≤ w7.heap.size; have e0 : w4.drew.heap.size = w4.heap.size := rfl; omega)).mono fun _ _ ⟨q1, q2, q3⟩ => ⟨_, q1, rfl, q2, q3⟩) ?_
           rintro z w8 ⟨rfl, hb8, hq8⟩
           have HB8 := Lib.hid hb8
           have HQ8 := Lib.hid hq8
           clear hb8 hq8))
      all_goals
        have HBF := Lib.hid (HBX.out.trans (((below_drew w4).trans HB7.out).mono HZ4.out |>.trans HB8.out))
        go_wp2_with fail
        go_end0
        exact ⟨rfl, HBF.out, by rw [← HG.out]; exact HQ8.out⟩
end Go.Proofs.YtmnbepapgghdaaaGreat

namespace Go.Proofs.YtmnbepapgghdaaaGreat
open Go.RowKit

theorem enter59q (args : Array Value) (w : World) : (callFunc 59 args).run Tryz.prog w = .ok (.enter 59 args) w := enter_of Tryz.func59 (by kernel_rfl) (by kernel_rfl) args w
theorem rfront_n (base p : Nat) (FA : Option Addr) (fn fc most : Nat) (e : Ex) (X Y : Option Addr) (n m xc yc : Nat) (l r : List Tok) (w : World) (h : Wq w base p FA fn fc most e) (hn : n = l.length) (hm : m = r.length) (hx : Rd w X l) (hy : Rd w Y r) (hlen : l.length + r.length ≤ 200000) :
    Calls Tryz.prog 59 #[.pointer (some ⟨p, 0, none⟩), .slice X n xc, .slice Y m yc] w fun en w' => en = .returned (.tuple #[]) ∧ Below base w w' ∧ Wq w' base p FA fn fc most { e with inp := l ++ r } := by
  subst hn hm
  exact rfront_any base p FA fn fc most e X Y xc yc l r w h hx hy hlen
/-- A command that is known, or none. -/
def ComPost (base : Nat) (w : World) (p : Nat) (FA : Option Addr) (fn fc most : Nat) (r : Option Ex) (en : Ending) (w' : World) : Prop := match r with
  | some e' => en = .returned (.bool true) ∧ Below base w w' ∧ Wq w' base p FA fn fc most e'
  | none => en = .returned (.bool false) ∧ Below w.heap.size w w'
/-- The beginning: what is asked of the macros. -/
theorem get_front {w : World} {base p : Nat} {FA : Option Addr} {fn fc most : Nat} {e : Ex} (h : Wq w base p FA fn fc most e) (hg : Good e.ms) (s : By) : ∃ (MA : Option Addr) (mc : Nat), w.cell? ⟨p, 2, none⟩ = some (.slice MA e.ms.length mc) ∧
    Hid (Calls Tryz.prog 55 #[.slice MA e.ms.length mc, .string ⟨s.toArray⟩] w (Pq.GetPost (· ≠ p) w (getM e.ms s) (hasL e.ms s))) := by
  obtain ⟨IA, MA, LA, RA, NA, ic, mc, lc, rc, nc, hp, hr, hk⟩ := h
  exact ⟨MA, mc, cell_of hk 2, Lib.hid ((Pq.rget_any MA mc e.ms s w hr.ms (by have := hg.2.1; omega)).mono fun en w' ⟨B, d, q1, q2, q3, q4⟩ => ⟨B, d, q1, q2, fun h0 a ha => (q3 h0 a ha).1, q4⟩)⟩
set_option maxRecDepth 100000 in
set_option maxHeartbeats 4000000 in
theorem cmd_def (base p : Nat) (FA : Option Addr) (fn fc most : Nat) (e : Ex) (w : World) (h : Wq w base p FA fn fc most e) (hbd : Bd e) (hbase : base ≤ w.heap.size) :
    Calls Tryz.prog 30 #[.pointer (some ⟨p, 0, none⟩), .string ⟨#[100, 101, 102]⟩] w (ComPost base w p FA fn fc most (some (defE e))) := by
  obtain ⟨MA, mc, c2, CG⟩ := get_front h hbd.good [100, 101, 102]
  have HBD := Lib.hid hbd
  have HWQ := Lib.hid h
  have HBS := Lib.hid hbase
  clear h hbd
  go_enter Tryz.func30, Tryz.ntmps30
  go_wp2_with fail
  refine CG.out.mono ?_
  rintro en w1 ⟨B, d, rfl, _, _, hb1⟩
  generalize getM e.ms [100, 101, 102] = mm
  generalize hasL e.ms [100, 101, 102] = bb
  have HB1 := Lib.hid (bch hb1 (one_below w1 (.cells #[.string ⟨mm.1.toArray⟩, .int .i64 mm.2.1, .slice B mm.2.2.length d] 110)))
  clear hb1 CG
  go_wp2_with fail
  refine (rdef_any base p FA fn fc most e _ (HWQ.out.below HB1.out) HBD.out (by have := HB1.out.size; have := HBS.out; omega)).mono ?_
  rintro en w2 ⟨rfl, hb, hq⟩
  have HBF := Lib.hid ((HB1.out.mono HBS.out).trans hb)
  have HQF := Lib.hid hq
  clear hb hq
  go_wp2_with fail
  go_ret
  exact ⟨rfl, HBF.out, HQF.out⟩
set_option maxRecDepth 100000 in
set_option maxHeartbeats 4000000 in
theorem cmd_inc (w0 : World) (p : Nat) (FA : Option Addr) (fs : List Fl.Fl) (fc most : Nat) (e : Ex) (w : World) (h : Wq w w0.heap.size p FA fs.length fc most e) (hbd : Bd e) (hb0 : Below w0.heap.size w0 w) (hF : Fl.Rd w0 FA fs) (hfl : fs.length ≤ 1000) (htx : ∀ f ∈ fs, f.2.length ≤ 1000) (hm : most ≤ 1000) :
    Calls Tryz.prog 30 #[.pointer (some ⟨p, 0, none⟩), .string ⟨#[105, 110, 99, 108, 117, 100, 101]⟩] w (ComPost w0.heap.size w p FA fs.length fc most (some (incE Fl.nmOk (flF fs) most e))) := by
  obtain ⟨MA, mc, c2, CG⟩ := get_front h hbd.good [105, 110, 99, 108, 117, 100, 101]
  have HBD := Lib.hid hbd
  have HWQ := Lib.hid h
  have HB0 := Lib.hid hb0
  have HTX := Lib.hid htx
  have HF := Lib.hid hF
  clear h hbd hb0 htx hF
  go_enter Tryz.func30, Tryz.ntmps30
  go_wp2_with fail
  refine CG.out.mono ?_
  rintro en w1 ⟨B, d, rfl, _, _, hb1⟩
  generalize getM e.ms [105, 110, 99, 108, 117, 100, 101] = mm
  generalize hasL e.ms [105, 110, 99, 108, 117, 100, 101] = bb
  have HB1 := Lib.hid (bch hb1 (one_below w1 (.cells #[.string ⟨mm.1.toArray⟩, .int .i64 mm.2.1, .slice B mm.2.2.length d] 110)))
  clear hb1 CG
  go_wp2_with fail
  refine (rinclude_any w0 p FA fs fc most e _ (HWQ.out.below HB1.out) HBD.out (bch HB0.out HB1.out) HF.out hfl HTX.out hm).mono ?_
  rintro en w2 ⟨rfl, hb, hq⟩
  have HBF := Lib.hid ((HB1.out.mono HB0.out.size).trans hb)
  have HQF := Lib.hid hq
  clear hb hq
  go_wp2_with fail
  go_ret
  exact ⟨rfl, HBF.out, HQF.out⟩
end Go.Proofs.YtmnbepapgghdaaaGreat

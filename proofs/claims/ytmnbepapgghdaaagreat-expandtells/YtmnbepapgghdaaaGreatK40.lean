/-
  ExpandBounds: its walk.
-/
import Derived.Test.YtmnbepapgghdaaaGreatK39
namespace Go.Proofs.YtmnbepapgghdaaaGreat
open Go.RowKit

/-- The same, of an operation that is wanted. -/
theorem step_call_w {ops : Array Oper} {o : Oper} {a : Act} {K : Act → World → Prop} {Q : Exit → Act → World → Prop} {E : Prop} (w : World) (hw : Region.wanted o (yielded ops a.tmps) = true) (f : FuncId) (xs : Array Operand) (ats : Array TypeId)
    (ho : o.op = .call { callee := .value (.func f), args := xs, argTypes := ats }) (args : Array Value) (ha : (xs.toList.map a.eval).toArray = args) (hrun : (callFunc f args).run Tryz.prog w = .ok (.enter f args) w) {R : Value → World → Prop} (hC : Calls Tryz.prog f args w fun e w' => ∃ v, e = .returned v ∧ R v w')
    (h : ∀ v w', R v w' → K (a.put o.dst v) w') : if Region.wanted o (yielded ops a.tmps) = true then Oper.wp Tryz.prog o a w K Q else E := by
  have ha : xs.map a.eval = args := by rw [← ha]; exact (Array.toList_inj.1 (by rw [Array.toList_map]))
  subst ha
  rw [if_pos hw]
  have hx : (execOp a.eval o).run Tryz.prog w = .ok (.enter f (xs.map a.eval)) w := by
    simp [execOp, ho, resolve, invoke, Deferred.ofValue, Act.eval, hrun]
  unfold Oper.wp
  rw [hx]
  exact hC.mono fun e w' hh => by
    obtain ⟨v, rfl, hv⟩ := hh
    exact h v w' hv
theorem enter13 (args : Array Value) (w : World) : (callFunc 13 args).run Tryz.prog w = .ok (.enter 13 args) w := enter_of Tryz.func13 (by kernel_rfl) (by kernel_rfl) args w
theorem enter14 (args : Array Value) (w : World) : (callFunc 14 args).run Tryz.prog w = .ok (.enter 14 args) w := enter_of Tryz.func14 (by kernel_rfl) (by kernel_rfl) args w
set_option maxRecDepth 100000 in
set_option maxHeartbeats 4000000 in
theorem expandBounds_walk (A : Option Addr) (c : Nat) (fs : List Fl.Fl) (main : By) (x y : Nat) (w : World) (hr : Fl.Rd w A fs) (hfit : Hid (Fl.Fit fs)) (hl : fs.length ≤ 9223372036854775807) (hx : x ≤ 255) (hy : y ≤ 255) :
    Calls Tryz.prog 5 #[.slice A fs.length c, .string ⟨main.toArray⟩, .agg #[.int .u8 x, .int .u8 y]] w fun en w' => en = .returned (.bool true) ∧ Below w.heap.size w w' := by
  have b0 := one_below w (.cells #[.int .u8 x, .int .u8 y] 49)
  have CF := Lib.hid (files_any A c fs (w.alloc (.cells #[.int .u8 x, .int .u8 y] 49)) (hr.below b0) hfit hl)
  have g0 := new_fst w (.int .u8 x) (.int .u8 y) 49
  have g1 := new_snd w (.int .u8 x) (.int .u8 y) 49
  have HB0 := Lib.hid b0
  have G0 := Lib.hid g0
  have G1 := Lib.hid g1
  clear hr hfit b0
  go_enter Tryz.func5, Tryz.ntmps5
  go_wp2_with fail
  refine CF.out.mono ?_
  rintro en w1 ⟨B, d, rfl, ho, hb1⟩
  have k0 := cell_below hb1 G0.out
  have k1 := cell_below hb1 G1.out
  have HF := Lib.hid (map_fs fs ho.rd)
  have HB1 := Lib.hid (bch HB0.out hb1)
  obtain ⟨fs6, hfs⟩ : ∃ fs6, Fl.mapL fs 6 200 = fs6 := ⟨_, rfl⟩
  rw [hfs] at HF ⊢
  clear ho hb1 hfs g0 g1
  go_wp2_with fail
  go_quiet (fail)
  go_wp2_with fail
  rw [show ((x : Int) % 41) = ((x % 41 : Nat) : Int) from by omega]
  obtain ⟨fuel, hfu⟩ : ∃ fuel, x % 41 = fuel := ⟨_, rfl⟩
  have hf40 : fuel ≤ 40 := by omega
  rw [hfu]
  have HF1 := Lib.hid (HF.out.below (drewN_below w1 nq))
  have HB2 := Lib.hid (bch HB1.out (drewN_below w1 nq))
  have HS := Lib.hid (fun f hf => HF.out.txt f hf)
  obtain ⟨R1, hR1⟩ : ∃ R1, outX (expE Fl.nmOk (flF fs6) fuel y main) = R1 := ⟨_, rfl⟩
  have SM1 := Lib.hid (show Sm R1 by rw [← hR1]; exact sm_of (by omega) (by omega) HS.out)
  have u1 : (R1.2.2.2 : Int) ≤ (fuel : Int) := by rw [← hR1]; have : (expE Fl.nmOk (flF fs6) fuel y main).used ≤ fuel := expE_used _ _ _ _ _; show ((expE Fl.nmOk (flF fs6) fuel y main).used : Int) ≤ fuel; omega
  have u2 : (R1.1.length : Int) ≤ (y : Int) := by rw [← hR1]; have : (expE Fl.nmOk (flF fs6) fuel y main).out.length ≤ y := expE_out; show ((expE Fl.nmOk (flF fs6) fuel y main).out.length : Int) ≤ y; omega
  have E1 := Lib.hid (expand_go fs6 main B d fuel y (w1.drewN nq) (by omega) (by omega) HF1.out)
  obtain ⟨R2, hR2⟩ : ∃ R2, outX (expE Fl.nmOk (flF fs6) (fuel + 1) (y + 45) main) = R2 := ⟨_, rfl⟩
  have HUP := Lib.hid (show R1.2.2.1 = [] → R2 = R1 from fun h => by rw [← hR2, ← hR1]; exact expE_up 45 1 (by rw [← hR1] at h; exact h))
  have E2 := Lib.hid (fun W (h : Fs W B fs6) => expand_go fs6 main B d (fuel + 1) (y + 45) W (by omega) (by omega) h)
  rw [hR1] at E1
  simp only [hR2] at E2
  clear hR1 hR2 hfu k0 k1
  refine E1.out.mono ?_
  rintro en w2 ⟨LA, RA, NA, lc, rc, nc, rfl, ho, hb2⟩
  unfold outC
  have c1 := bch hb2 (one_below w2 (.cells #[.slice LA R1.1.length lc, .slice RA R1.2.1.length rc, .slice NA R1.2.2.1.length nc, .int .i64 R1.2.2.2] 31))
  have HA := Lib.hid (held_new (lc := lc) (rc := rc) (nc := nc) (a := R1.1.length) (b := R1.2.1.length) (c := R1.2.2.1.length) (u := R1.2.2.2) ho.rdo)
  have HF2 := Lib.hid (HF1.out.below c1)
  have HB3 := Lib.hid (bch HB2.out c1)
  clear ho hb2 c1
  go_wp2_with fail
  rw [show ((fuel : Int) + 1) = ((fuel + 1 : Nat) : Int) from by omega, show ((y : Int) + 45) = ((y + 45 : Nat) : Int) from by omega]
  refine (E2.out _ HF2.out).mono ?_
  rintro en w3 ⟨LB, RB, NB, ld, rd, nd, rfl, ho, hb3⟩
  unfold outC
  have c1 := bch hb3 (one_below w3 (.cells #[.slice LB R2.1.length ld, .slice RB R2.2.1.length rd, .slice NB R2.2.2.1.length nd, .int .i64 R2.2.2.2] 31))
  have HA := Lib.hid (HA.out.below c1)
  have HBB := Lib.hid (held_new (lc := ld) (rc := rd) (nc := nd) (a := R2.1.length) (b := R2.2.1.length) (c := R2.2.2.1.length) (u := R2.2.2.2) ho.rdo)
  have HB4 := Lib.hid (bch HB3.out c1)
  clear ho hb3 c1
  have a0 := HA.out.c0
  have a2 := HA.out.c2
  have a3 := HA.out.c3
  have u0 : (0 : Int) ≤ (R1.2.2.2 : Int) := by omega
  go_wp2_with fail
  clear a0 a2 a3
  generalize w3.alloc (.cells #[.slice LB R2.1.length ld, .slice RB R2.2.1.length rd, .slice NB R2.2.2.1.length nd, .int .i64 R2.2.2.2] 31) = W at HA HBB HB4 ⊢
  by_cases hq : R1.2.2.1.length = 0
  · have h12 := HUP.out (List.length_eq_zero_iff.1 hq)
    have hn : ((R1.2.2.1.length : Int) == 0) = true := by simp [hq]
    have HN := Lib.hid hn
    rw [h12] at HBB ⊢
    clear HUP E2 E1 HF HF1 HF2 CF HB0 G0 G1 hl HB1 HB2 HB3 hq h12 hn
    have HA0 := Lib.hid (HA.out.below (below_drew W))
    have HB0 := Lib.hid (HBB.out.below (below_drew W))
    have a0 := HA0.out.c0
    have a1 := HA0.out.c1
    have a2 := HA0.out.c2
    have a3 := HA0.out.c3
    have b0 := HB0.out.c0
    have b1 := HB0.out.c1
    have b2 := HB0.out.c2
    have b3 := HB0.out.c3
    have hn := HN.out
    have HW0 := Lib.hid (bch HB4.out (below_drew W))
    have CR := Lib.hid (fun (LA RA NA : Option Addr) (lc rc nc : Nat) W1 (h : RdO W1 LA RA NA R1) => ref_any LA RA NA lc rc nc R1 W1 h.l (by have := SM1.out.1; omega))
    have CS := Lib.hid (fun (LA RA NA LB RB NB : Option Addr) (lc rc nc ld rd nd : Nat) W1 (h : RdO W1 LA RA NA R1) (g : RdO W1 LB RB NB R1) => same8_any LA RA NA LB RB NB lc rc nc ld rd nd R1 W1 h g SM1.out)
    unfold outC at CR CS
    go_region_law (first
      | (refine step_call_w W.drew (by rfl) 14 _ _ (by rfl) #[.agg #[.slice LA R1.1.length lc, .slice RA R1.2.1.length rc, .slice NA R1.2.2.1.length nc, .int .i64 R1.2.2.2]] (by rfl) (enter14 _ _) (R := fun z w' => ∃ B' d', z = .agg #[.slice B' R1.1.length d', .slice RA R1.2.1.length rc, .slice NA R1.2.2.1.length nc, .int .i64 R1.2.2.2] ∧ Rd w' B' R1.1 ∧ Below W.drew.heap.size W.drew w') ((CR.out LA RA NA lc rc nc W.drew HA0.out.rd).mono fun _ _ ⟨B', d', q1, q2, q3⟩ => ⟨_, q1, B', d', rfl, q2.rd, q3⟩) ?_
         rintro z v1 ⟨B', d', rfl, hrd, hv1⟩
         have HB1 := Lib.hid (HB0.out.below hv1)
         have HRA := Lib.hid (show RdO v1 B' RA NA R1 from ⟨hrd, (HA0.out.rd.below hv1).reads, (HA0.out.rd.below hv1).notes⟩)
         have HW1 := Lib.hid (bch HW0.out hv1)
         have e0 := HB1.out.c0
         have e1 := HB1.out.c1
         have e2 := HB1.out.c2
         have e3 := HB1.out.c3
         clear hrd hv1)
      | (refine step_call_w v1 (by rfl) 14 _ _ (by rfl) #[.agg #[.slice LB R1.1.length ld, .slice RB R1.2.1.length rd, .slice NB R1.2.2.1.length nd, .int .i64 R1.2.2.2]] (by rfl) (enter14 _ _) (R := fun z w' => ∃ B' d', z = .agg #[.slice B' R1.1.length d', .slice RB R1.2.1.length rd, .slice NB R1.2.2.1.length nd, .int .i64 R1.2.2.2] ∧ Rd w' B' R1.1 ∧ Below v1.heap.size v1 w') ((CR.out LB RB NB ld rd nd v1 HB1.out.rd).mono fun _ _ ⟨B', d', q1, q2, q3⟩ => ⟨_, q1, B', d', rfl, q2.rd, q3⟩) ?_
         rintro z v2 ⟨B2, d2, rfl, hrd, hv2⟩
         have HRB := Lib.hid (show RdO v2 B2 RB NB R1 from ⟨hrd, (HB1.out.rd.below hv2).reads, (HB1.out.rd.below hv2).notes⟩)
         have HRA2 := Lib.hid (HRA.out.below hv2)
         have HW2 := Lib.hid (bch HW1.out hv2)
         clear hrd hv2)
      | (refine step_call_w v2 (by rfl) 13 _ _ (by rfl) #[.agg #[.slice B' R1.1.length d', .slice RA R1.2.1.length rc, .slice NA R1.2.2.1.length nc, .int .i64 R1.2.2.2], .agg #[.slice B2 R1.1.length d2, .slice RB R1.2.1.length rd, .slice NB R1.2.2.1.length nd, .int .i64 R1.2.2.2]] (by rfl) (enter13 _ _) (R := fun z w' => z = .bool true ∧ Below v2.heap.size v2 w') ((CS.out B' RA NA B2 RB NB d' rc nc d2 rd nd v2 HRA2.out HRB.out).mono fun _ _ ⟨q1, q2⟩ => ⟨_, q1, rfl, q2⟩) ?_
         rintro z v3 ⟨rfl, hv3⟩
         have HW3 := Lib.hid (bch HW2.out hv3)
         clear hv3))
    all_goals
      go_wp2_with fail
      refine (fixed_any _).mono ?_
      rintro en v4 ⟨rfl, hv4⟩
      have HW4 := Lib.hid (bch HW3.out hv4)
      clear hv4
      go_wp2
      go_ret
      exact ⟨rfl, HW4.out⟩
  · have hn : ((R1.2.2.1.length : Int) == 0) = false := by simp; intro h; exact hq (by rw [h]; rfl)
    have a2 := HA.out.c2
    have a2 : W.drew.cell? ⟨w2.heap.size, 2, none⟩ = some (.slice NA R1.2.2.1.length nc) := a2
    go_quiet (fail)
    go_wp2_with fail
    refine (fixed_any _).mono ?_
    rintro en v4 ⟨rfl, hv4⟩
    have HW4 := Lib.hid (bch (bch HB4.out (drewN_below W nq)) hv4)
    clear hv4
    go_wp2
    go_ret
    exact ⟨rfl, HW4.out⟩
end Go.Proofs.YtmnbepapgghdaaaGreat

/-
  The walks of FilesRight and FilesOrder: for every lists of files they return true; old memory stays.
-/
import Derived.Test.YtdaekfigpkogbaaR1
namespace Go.Proofs.Ytdaekfigpkogbaa
open Go.RowKit

def cutF (f : Fl) : Fl := (f.1.take 40, f.2.take 4100)
theorem cut_fit (l : List Fl) : Fit (l.map cutF) := fun f hf => by
  obtain ⟨g, _, rfl⟩ := List.mem_map.1 hf
  simp [cutF]; omega
theorem map_step {fs : List Fl} {k : Nat} {f : Fl} (h : fs[k]? = some f) : (fs.take (k + 1)).map cutF = (fs.take k).map cutF ++ [cutF f] := by rw [at_take h]; simp

set_option maxRecDepth 100000 in
set_option maxHeartbeats 4000000 in
theorem filesRight_walk (A : Option Addr) (c : Nat) (fs : List Fl) (w : World) (hr : Rd w A fs) (hf : Hid (Fit fs)) (hl : fs.length ≤ 9223372036854775807) :
    Calls Try.prog 4 #[.slice A fs.length c] w fun e w' => e = .returned (.bool true) ∧ Below w.heap.size w w' := by
  have ho0 := own_empty w
  have hb0 := one_below w (.cells #[] 25)
  go_enter Try.func4, Try.ntmps4
  go_wp2_with fail
  go_loopw [3, 4] (fun v i wr => ∃ (k : Nat) (C : Option Addr) (cc : Nat) (xs : List Fl), k ≤ fs.length ∧ k ≤ 40 ∧ i = .int .i64 k ∧ v = .slice C xs.length cc ∧ xs = (fs.take k).map cutF ∧ Own wr w.heap.size C cc xs ∧ Below w.heap.size w wr) (fun _ i _ => fs.length - (intOf i).toNat)
  case atStart => exact ⟨0, _, 0, [], Nat.zero_le _, Nat.zero_le _, rfl, rfl, rfl, ho0, hb0⟩
  case round =>
    clear ho0 hb0
    obtain ⟨k, C, cc, xs, hk, hk2, rfl, rfl, hx, hown, hb⟩ := hrel
    have hxl : xs.length = k := by rw [hx]; simp; omega
    have hfit : Fit xs := by rw [hx]; exact cut_fit _
    have HX := Lib.hid hx
    clear hx
    by_cases hgo : k < fs.length ∧ k < 40
    · obtain ⟨h1, h2⟩ := hgo
      have HK := Lib.hid hxl
      clear hxl
      have hrw := hr.below hb
      obtain ⟨b, o, rfl, hcell⟩ := hrw (by omega)
      obtain ⟨f, hf1⟩ : ∃ f, fs[k]? = some f := ⟨_, List.getElem?_eq_getElem h1⟩
      obtain ⟨c1, c2⟩ := hcell k f hf1
      obtain ⟨l1, l2⟩ := hf.out f (List.mem_of_getElem? hf1)
      have HST := Lib.hid (map_step hf1)
      clear hf1 hcell hrw
      obtain ⟨g, hg⟩ : ∃ g, g = cutF f := ⟨_, rfl⟩
      rw [← hg] at HST
      have hcut := cut_any f wr l1 l2
      have e1 : f.1.take 40 = g.1 := by rw [hg]; rfl
      have e2 : f.2.take 4100 = g.2 := by rw [hg]; rfl
      rw [e1, e2] at hcut
      have HC := Lib.hid hcut
      clear hcut hg e1 e2
      obtain ⟨r, hr0⟩ : ∃ r, xs ++ [g] = r := ⟨_, rfl⟩
      have R := Lib.hid hr0
      clear hr0
      go_wp2_with fail
      refine HC.out.mono ?_
      rintro e w1 ⟨rfl, hb1⟩
      replace hown := hown.below hb1
      replace hb := bch hb hb1
      go_wp2_with (at_builtin; refine wpList_append_rdn _ rfl _ _ rfl w.heap.size _ xs rfl (hown.alloc _) (some ⟨w1.heap.size, 0, none⟩) 1 1 [g] rfl rfl (one_new w1 g) (by have := HK.out; simp; omega) (by have := hb.size; simp; omega) r R.out ?_; intro A1 c1' w2 hown2 hb2)
      go_roundw
      case rel => exact ⟨k + 1, A1, c1', r, by omega, by omega, by go_num, rfl, by rw [HST.out, ← HX.out, R.out], hown2, (hb.alloc hb.size _).trans hb2⟩
      case measure => simp [intOf]; omega
    · have HFT := Lib.hid hfit
      have hx40 : xs.length ≤ 40 := by omega
      clear hxl
      have hgm := mapL_good xs 40 4100
      have HM := Lib.hid (fun (w' : World) (h : Rd w' C xs) => map_any C cc xs 40 4100 w' h HFT (by omega) (by omega) (by omega))
      generalize mapL xs 40 4100 = ys at hgm HM
      have ly := hgm.2.1
      have HRB := Lib.hid (rightB_good hgm)
      have HFY := Lib.hid hgm.fit
      clear hgm hfit
      have hrx := hown.rd
      have hsplit : ¬ k < fs.length ∨ (k < fs.length ∧ ¬ k < 40) := by omega
      clear hgo
      rcases hsplit with hs | ⟨hs, hs2⟩
      all_goals
        go_wp2_with fail
        refine (right_any C cc xs _ hrx (by omega) HFT.out).mono ?_
        rintro e w1 ⟨rfl, hb1⟩
        replace hrx := hrx.below hb1
        replace hb := bch hb hb1
        clear hb1
        go_wp2_with fail
        refine (rright_any C cc xs _ hrx (by omega) HFT.out).mono ?_
        rintro e w2 ⟨rfl, n2, rfl⟩
        replace hrx := hrx.drewN n2
        replace hb := bch hb (drewN_below _ n2)
        generalize w1.drewN n2 = w3 at hrx hb ⊢
        generalize rightB xs = rb
        have q : (rb == rb) = true := by simp
        go_wp2_with fail
        refine (HM.out _ hrx).mono ?_
        rintro e w4 ⟨A4, c4, rfl, ho4, hb4⟩
        have r4 := ho4.rd
        replace hb := bch hb hb4
        clear hb4 ho4
        go_wp2_with fail
        refine (right_any A4 c4 ys _ r4 (by omega) HFY.out).mono ?_
        rw [HRB.out]
        rintro e w5 ⟨rfl, hb5⟩
        replace hb := bch hb hb5
        clear hb5
        go_wp2_with fail
        refine (fixed_any _).mono ?_
        rintro e w6 ⟨rfl, hb6⟩
        go_wp2
        go_ret
        exact ⟨rfl, bch hb hb6⟩

set_option maxRecDepth 100000 in
set_option maxHeartbeats 4000000 in
theorem filesOrder_walk (A B : Option Addr) (c d : Nat) (fs gs : List Fl) (w : World) (hr : Rd w A fs) (hq : Rd w B gs) (hf : Hid (Fit fs)) (hg : Hid (Fit gs)) (hl : fs.length ≤ 9223372036854775807) (hm : gs.length ≤ 9223372036854775807) :
    Calls Try.prog 7 #[.slice A fs.length c, .slice B gs.length d] w fun e w' => e = .returned (.bool true) ∧ Below w.heap.size w w' := by
  have hga := mapL_good fs 20 200
  have hgb := mapL_good gs 20 200
  have HMa := Lib.hid (fun (w' : World) (h : Rd w' A fs) => map_any A c fs 20 200 w' h hf hl (by omega) (by omega))
  have HMb := Lib.hid (fun (w' : World) (h : Rd w' B gs) => map_any B d gs 20 200 w' h hg hm (by omega) (by omega))
  have la := mapL_len fs 20 200
  have lb := mapL_len gs 20 200
  generalize mapL fs 20 200 = ma at hga HMa la
  generalize mapL gs 20 200 = mb at hgb HMb lb
  have GA := Lib.hid hga
  have GB := Lib.hid hgb
  have HSY := Lib.hid (diffL_symm mb ma)
  have HD0 := Lib.hid (show ((diffL ma mb).length = 0) ↔ ma = mb from ⟨fun h => diffL_same (List.length_eq_zero_iff.1 h), fun h => by rw [h, diffL_self]; rfl⟩)
  have ld := diffL_len ma mb
  have HD := Lib.hid (fun (w' : World) (A B : Option Addr) (c d : Nat) (h : Rd w' A ma) (k : Rd w' B mb) (h1 : ma.length ≤ c) (h2 : mb.length ≤ d) (h3 : c ≤ 9223372036854775807) (h4 : d ≤ 9223372036854775807) => diff_any A B c d ma mb w' h k (by omega) (by omega) h1 h2 h3 h4)
  have hde := fun (w' : World) (A B : Option Addr) (c d : Nat) (h : Rd w' A mb) (k : Rd w' B ma) (h1 : mb.length ≤ c) (h2 : ma.length ≤ d) (h3 : c ≤ 9223372036854775807) (h4 : d ≤ 9223372036854775807) => diff_any A B c d mb ma w' h k (by omega) (by omega) h1 h2 h3 h4
  rw [HSY.out] at hde
  have HE := Lib.hid hde
  clear hde
  generalize diffL ma mb = dd at HD HE HD0 ld
  clear hga hgb HSY
  go_enter Try.func7, Try.ntmps7
  go_wp2_with fail
  refine (HMa.out _ hr).mono ?_
  rintro e w1 ⟨A1, c1, rfl, ho1, hb⟩
  have hq1 := hq.below hb
  obtain ⟨p1, p2, _⟩ := ho1.cap
  go_wp2_with fail
  refine (HMb.out _ hq1).mono ?_
  rintro e w2 ⟨B1, d1, rfl, ho2, hb2⟩
  obtain ⟨p3, p4, _⟩ := ho2.cap
  have r1 := ho1.rd.below hb2
  have r2 := ho2.rd
  replace hb := bch hb hb2
  clear hb2 ho1 ho2 hr hq hq1
  have b1 := one_below w2 (.cells #[] 25)
  have b2 := one_below (w2.alloc (.cells #[] 25)) (.cells #[] 25)
  have oc : Own ((w2.alloc (.cells #[] 25)).alloc (.cells #[] 25)) 0 (some ⟨w2.heap.size, 0, none⟩) 0 [] := ((own_empty w2).mono (Nat.zero_le _)).below b2
  have od : Own ((w2.alloc (.cells #[] 25)).alloc (.cells #[] 25)) 0 (some ⟨w2.heap.size + 1, 0, none⟩) 0 [] := by
    have := (own_empty (w2.alloc (.cells #[] 25))).mono (Nat.zero_le _)
    simpa using this
  have hb3 := bch hb (bch b1 b2)
  have R1 := Lib.hid r1
  have R2 := Lib.hid r2
  have bw := bch b1 b2
  go_wp2_with fail
  go_loopw [7, 8, 9] (fun vc vd i wr => ∃ (k : Nat) (C D : Option Addr) (cc dc : Nat) (xs ys : List Fl), k ≤ ma.length ∧ i = .int .i64 k ∧ vc = .slice C xs.length cc ∧ vd = .slice D ys.length dc ∧ xs = ma.take k ∧ ys = ma.drop (ma.length - k) ∧ Own wr 0 C cc xs ∧ Own wr 0 D dc ys ∧ Below w2.heap.size w2 wr) (fun _ _ i _ => ma.length - (intOf i).toNat)
  case atStart => exact ⟨0, _, _, 0, 0, [], [], Nat.zero_le _, rfl, rfl, rfl, rfl, by simp, oc, od, bw⟩
  case round =>
    clear oc od hb3 bw b1 b2 r1 r2
    obtain ⟨k, C, D, cc, dc, xs, ys, hk, rfl, rfl, rfl, hx, hy, hoc, hod, hbw⟩ := hrel
    have r1 := R1.out.below hbw
    have r2 := R2.out.below hbw
    have hxl : xs.length ≤ 20 := by rw [hx]; simp; omega
    have hyl : ys.length ≤ 20 := by rw [hy]; simp; omega
    have HX := Lib.hid hx
    have HY := Lib.hid hy
    have gx : Good xs := by rw [hx]; exact good_take GA.out _
    have gy : Good ys := by rw [hy]; exact good_drop GA.out _
    clear hx hy
    by_cases hlt : k < ma.length
    · obtain ⟨j, hj⟩ : ∃ j, j = ma.length - 1 - k := ⟨_, rfl⟩
      have hj2 : j < ma.length := by omega
      obtain ⟨f, hf1⟩ : ∃ f, ma[k]? = some f := ⟨_, List.getElem?_eq_getElem hlt⟩
      obtain ⟨g, hg1⟩ : ∃ g, ma[j]? = some g := ⟨_, List.getElem?_eq_getElem hj2⟩
      obtain ⟨b, o, rfl, hcell⟩ := r1 (by omega)
      obtain ⟨c1', c2'⟩ := hcell k f hf1
      obtain ⟨e1', e2'⟩ := hcell j g hg1
      have wf := GA.out.2.2 f (List.mem_of_getElem? hf1)
      have wg := GA.out.2.2 g (List.mem_of_getElem? hg1)
      obtain ⟨f1, f2⟩ := GA.out.fit f (List.mem_of_getElem? hf1)
      obtain ⟨g1, g2⟩ := GA.out.fit g (List.mem_of_getElem? hg1)
      have pe1 : putE xs f = 0 := putE_mk wf (.inr (by omega))
      have pe2 : putE ys g = 0 := putE_mk wg (.inr (by omega))
      have pl1 : putL xs f = ma.take (k + 1) := by
        have := put_next GA.out.1 hlt
        rwa [get_of hf1 hlt, ← HX.out] at this
      have pl2 : putL ys g = ma.drop j := by
        have := put_back GA.out.1 hj2
        rwa [get_of hg1 hj2, show j + 1 = ma.length - k by omega, ← HY.out] at this
      obtain ⟨q1, q2, _⟩ := hoc.cap
      obtain ⟨q3, q4, _⟩ := hod.cap
      have hp1 := fun (w' : World) (h : Rd w' C xs) => put_any C cc xs f w' h (by omega) q1 q2 (Lib.hid gx.1) f1 f2
      have hp2 := fun (w' : World) (h : Rd w' D ys) => put_any D dc ys g w' h (by omega) q3 q4 (Lib.hid gy.1) g1 g2
      rw [putR_yes pe1, pe1, pl1] at hp1
      rw [putR_yes pe2, pe2, pl2] at hp2
      have HPE := Lib.hid (show ma.drop j = ma.drop (ma.length - (k + 1)) by rw [show j = ma.length - (k + 1) by omega])
      obtain ⟨ps, hps⟩ : ∃ ps, ps = ma.take (k + 1) := ⟨_, rfl⟩
      obtain ⟨qs, hqs⟩ : ∃ qs, qs = ma.drop j := ⟨_, rfl⟩
      rw [← hps] at hp1
      rw [← hqs] at hp2 HPE
      have P1 := Lib.hid hp1
      have P2 := Lib.hid hp2
      have HPS := Lib.hid hps
      have i1 : (k : Int) < (ma.length : Int) := by omega
      have i2 : (0 : Int) ≤ (ma.length : Int) - 1 - (k : Int) := by omega
      have i3 : (ma.length : Int) - 1 - (k : Int) < (ma.length : Int) := by omega
      have i4 : ((ma.length : Int) - 1 - (k : Int)).toNat = j := by omega
      have hrx := hoc.rd
      have HRY := Lib.hid hod.rd
      have E1 := Lib.hid e1'
      have E2 := Lib.hid e2'
      clear hf1 hg1 hcell wf wg pe1 pe2 pl1 pl2 hp1 hp2 hps hqs gx gy hj e1' e2'
      go_wp2_with fail
      refine (P1.out _ hrx).mono ?_
      rintro e w3 ⟨A3, c3, rfl, ho3, hb3⟩
      have e1' := cell_below hb3 E1.out
      have e2' := cell_below hb3 E2.out
      have hry := HRY.out.below hb3
      go_wp2_with fail
      refine (P2.out _ hry).mono ?_
      rintro e w4 ⟨A4, c4, rfl, ho4, hb4⟩
      go_wp2
      go_roundw
      case rel => exact ⟨k + 1, A3, A4, c3, c4, ps, qs, by omega, by go_num, rfl, rfl, HPS.out, HPE.out, (ho3.mono (Nat.zero_le _)).below hb4, ho4.mono (Nat.zero_le _), bch hbw (bch hb3 hb4)⟩
      case measure => simp [intOf]; omega
    · have ex : ma = xs := by rw [HX.out, List.take_of_length_le (by omega)]
      have ey : ma = ys := by rw [HY.out, show ma.length - k = 0 by omega, List.drop_zero]
      subst ex
      subst ey
      replace hb := bch hb hbw
      have hrc := hoc.rd
      have hrd := hod.rd
      clear HX HY hoc hod gx gy
      go_wp2_with fail
      refine (HD.out _ A1 B1 c1 d1 r1 r2 p1 p3 p2 p4).mono ?_
      intro e w7 h7
      obtain ⟨N7, k7, rfl, s7, hb2⟩ := diff_res h7
      clear h7
      replace r1 := r1.below hb2
      replace r2 := r2.below hb2
      replace hrc := hrc.below hb2
      replace hrd := hrd.below hb2
      replace hb := bch hb hb2
      clear hb2
      go_wp2_with fail
      refine (HE.out _ B1 A1 d1 c1 r2 r1 p3 p1 p4 p2).mono ?_
      intro e w8 h8
      obtain ⟨N8, k8, rfl, s8, hb2⟩ := diff_res h8
      clear h8
      replace r1 := r1.below hb2
      replace r2 := r2.below hb2
      replace hrc := hrc.below hb2
      replace hrd := hrd.below hb2
      replace s7 := s7.below hb2
      replace hb := bch hb hb2
      clear hb2
      go_wp2_with fail
      refine (equal_any C D cc dc _ _ _ hrc hrd (by omega) (by omega)).mono ?_
      rw [decide_eq_true rfl]
      rintro e w9 ⟨rfl, n9, rfl⟩
      replace hb := bch hb (drewN_below _ n9)
      replace r1 := r1.drewN n9
      replace r2 := r2.drewN n9
      replace hrc := hrc.drewN n9
      replace hrd := hrd.drewN n9
      replace s7 : RdS (w8.drewN n9) N7 dd := s7
      replace s8 : RdS (w8.drewN n9) N8 dd := s8
      generalize w8.drewN n9 = w10 at r1 r2 hrc hrd s7 s8 hb ⊢
      go_wp2_with fail
      refine (equal_any C A1 cc c1 _ _ _ hrc r1 (by omega) (by omega)).mono ?_
      rw [decide_eq_true rfl]
      rintro e w11 ⟨rfl, n11, rfl⟩
      replace hb := bch hb (drewN_below _ n11)
      replace r1 := r1.drewN n11
      replace r2 := r2.drewN n11
      replace hrc := hrc.drewN n11
      replace hrd := hrd.drewN n11
      replace s7 : RdS (w10.drewN n11) N7 dd := s7
      replace s8 : RdS (w10.drewN n11) N8 dd := s8
      generalize w10.drewN n11 = w12 at r1 r2 hrc hrd s7 s8 hb ⊢
      go_wp2_with fail
      refine (same_any C D cc dc _ _ _ hrc hrd (by omega) (by omega)).mono ?_
      rw [decide_eq_true rfl]
      rintro e w13 ⟨rfl, n13, rfl⟩
      replace hb := bch hb (drewN_below _ n13)
      replace r1 := r1.drewN n13
      replace r2 := r2.drewN n13
      replace s7 : RdS (w12.drewN n13) N7 dd := s7
      replace s8 : RdS (w12.drewN n13) N8 dd := s8
      clear hrc hrd
      generalize w12.drewN n13 = w14 at r1 r2 s7 s8 hb ⊢
      go_wp2_with fail
      refine (words_any N7 N8 k7 k8 dd dd _ s7 s8 (by omega) (by omega)).mono ?_
      rw [decide_eq_true rfl]
      rintro e w15 ⟨rfl, n15, rfl⟩
      replace hb := bch hb (drewN_below _ n15)
      replace r1 := r1.drewN n15
      replace r2 := r2.drewN n15
      clear s7 s8
      generalize w14.drewN n15 = w16 at r1 r2 hb ⊢
      have hsame : ((dd.length : Int) == 0) = decide (ma = mb) := by
        rw [Bool.eq_iff_iff, beq_iff_eq, decide_eq_true_iff, ← HD0.out]; omega
      have HS1 := Lib.hid (fun (w' : World) (h : Rd w' A1 ma) (k : Rd w' B1 mb) => same_any A1 B1 c1 d1 ma mb w' h k (by omega) (by omega))
      have hs2 := fun (w' : World) (h : Rd w' B1 mb) (k : Rd w' A1 ma) => same_any B1 A1 d1 c1 mb ma w' h k (by omega) (by omega)
      rw [show decide (mb = ma) = decide (ma = mb) from decide_eq_decide.2 ⟨fun h => h.symm, fun h => h.symm⟩] at hs2
      have HS2 := Lib.hid hs2
      clear hs2
      generalize decide (ma = mb) = bq at hsame HS1 HS2
      have q : (bq == bq) = true := by simp
      cases bq
      all_goals
        go_wp2_with fail
        refine (HS1.out _ r1 r2).mono ?_
        rintro e w17 ⟨rfl, n17, rfl⟩
        replace hb := bch hb (drewN_below _ n17)
        replace r1 := r1.drewN n17
        replace r2 := r2.drewN n17
        generalize w16.drewN n17 = w18 at r1 r2 hb ⊢
        go_wp2_with fail
        refine (HS1.out _ r1 r2).mono ?_
        rintro e w19 ⟨rfl, n19, rfl⟩
        replace hb := bch hb (drewN_below _ n19)
        replace r1 := r1.drewN n19
        replace r2 := r2.drewN n19
        generalize w18.drewN n19 = w20 at r1 r2 hb ⊢
        go_wp2_with fail
        refine (HS2.out _ r2 r1).mono ?_
        rintro e w21 ⟨rfl, n21, rfl⟩
        replace hb := bch hb (drewN_below _ n21)
        generalize w20.drewN n21 = w22 at hb ⊢
        go_wp2_with fail
        refine (fixed_any _).mono ?_
        rintro e w23 ⟨rfl, hb2⟩
        go_wp2
        go_ret
        exact ⟨rfl, bch hb hb2⟩
end Go.Proofs.Ytdaekfigpkogbaa

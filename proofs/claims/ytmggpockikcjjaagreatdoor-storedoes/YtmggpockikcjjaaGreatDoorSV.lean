/-
  The walk of one step (try): a map that can not be committed.
-/
import Derived.Test.YtmggpockikcjjaaGreatDoorSP
namespace Go.Proofs.YtmggpockikcjjaaGreatDoor
open Go.RowKit
open Dsk (DS Tx Wt Kp DiskAt NoB Ok newS crashS limitS RdB)

set_option maxRecDepth 100000 in
set_option maxHeartbeats 16000000 in
theorem try_map7 (q s n : Nat) (F : Nat → Prop) (st : DS) (now L fs : List Fl) (An Af B : Option Addr) (cn cf cB : Nat) (lim : Int) (cr : Bool) (ks : List Bool) (w0 w : World) (T : Tabs w0) (hL : LS w0 w q s F n now st) (hl : st.lim = none) (hc : st.cnt + halfN n + 1 < 1000) (hN : RdA w F q An now)
    (hA : Rd w0 Af fs) (hf : Hid (Fit fs)) (hfl : fs.length ≤ 9223372036854775807) (hcap : fs.length ≤ cf) (hB : RdB w0 B ks) (hks : ks.length ≤ 9223372036854775807) (m1 : -9223372036854775808 ≤ lim) (m2 : lim ≤ 9223372036854775807) (hLe : mapL fs 12 150 = L) (hE : Good L ∧ 64 * halfN n < (filesL L).length) :
    Calls Tryz.prog 9 #[.pointer (some ⟨q, 0, none⟩), .pointer (some ⟨s, 0, none⟩), .slice An now.length cn, .agg #[.slice Af fs.length cf, .bool false, .int .i64 lim, .bool cr, .slice B ks.length cB]] w (TryPost w0 s n st) := by
  have HT := Lib.hid T
  have nl := load_len hL
  have n4 := hL.sat.n4
  have n64 := hL.sat.n64
  have CM := Lib.hid (fun (w : World) (h : Rd w Af fs) => map_any Af cf fs 12 150 w h hf hfl (by omega) (by omega))
  rw [show ((12 : Nat) : Int) = 12 from rfl, show ((150 : Nat) : Int) = 150 from rfl] at CM
  have HA := Lib.hid hA
  have HBK := Lib.hid hB
  obtain ⟨w1, hw1⟩ : ∃ w1, w.alloc (.cells #[.slice Af fs.length cf, .bool false, .int .i64 lim, .bool cr, .slice B ks.length cB] 32) = w1 := ⟨_, rfl⟩
  have hb1 : Below w.heap.size w w1 := by rw [← hw1]; exact one_below _ _
  have bx1 := Lib.hid (show w1.heap[w.heap.size]? = some (stepO Af fs.length cf false lim cr B ks.length cB) by rw [← hw1]; exact Dsk.blk_new _ _)
  have L1 := Lib.hid (hL.below hb1)
  have N1 := Lib.hid (hN.below hb1)
  have HW1 := Lib.hid hw1
  have hg1 : ¬ F w.heap.size := fun x => by have := hL.fl _ x; omega
  have hg2 : w.heap.size ≠ q := by have := hL.sat.qlt; omega
  have HG := Lib.hid (And.intro hg1 hg2)
  have HS := Lib.hid (And.intro hl hc)
  have ll : L.length ≤ 12 := by rw [← hLe]; exact mapL_len fs 12 150
  have hgL : Good L := by rw [← hLe]; exact mapL_good fs 12 150
  have HFL := Lib.hid hgL.fit
  rw [hLe] at CM
  clear hgL
  have HE := Lib.hid hE
  clear T hL hl hc hN hA hf hB hw1 hb1 hLe hE
  by_cases hl0 : lim < 0
  · cases cr
    · go_enter Tryz.func9, Tryz.ntmps9
      go_wp2_with fail
      rw [HW1.out]
      refine (CM.out w1 (HA.out.below L1.out.bel)).mono ?_
      rintro e w2 ⟨Am, cm, rfl, hom, hb2⟩
      have L2 := Lib.hid (L1.out.below hb2)
      have T2 := Lib.hid (show TL w2 F q An now Am L w.heap.size _ from ⟨N1.out.below hb2, L1.out.apart hom, blk_below hb2 bx1.out, HG.out.1, HG.out.2⟩)
      clear hom hb2 CM N1 L1 bx1
      obtain ⟨k0, k1, k2, k3, k4⟩ := box_cells T2.out.bx
      go_wp2_with fail
      refine (len_ls L2.out).mono ?_
      rintro e w2 ⟨rfl, rfl⟩
      have C3 := Lib.hid (may_any Am cm n L w2 T2.out.rl.1 (by omega) HFL.out n4 n64)
      rw [show mayE L n = 7 by unfold mayE; rw [if_neg (by rw [rightB_good HE.out.1]; simp), if_pos HE.out.2]] at C3
      go_wp2_with fail
      refine C3.out.mono ?_
      rintro e w3 ⟨rfl, hb3⟩
      have L3 := Lib.hid (L2.out.below hb3)
      have T3 := Lib.hid (T2.out.below hb3)
      clear hb3 C3 L2 T2 k0 k1 k2 k3 k4
      obtain ⟨k0, k1, k2, k3, k4⟩ := box_cells T3.out.bx
      have L4 := L3
      have T4 := T3
      clear L3 T3
      have C5 := Lib.hid (commit_full q s n _ _ now L Am cm _ (HT.out.below L4.out.bel) L4.out.sat T4.out.rl.1 HE.out.1 HE.out.2)
      go_wp2_with fail
      refine C5.out.mono ?_
      rintro e w5 ⟨rfl, hb5⟩
      have L5 := Lib.hid (L4.out.below hb5)
      have T5 := Lib.hid (T4.out.below hb5)
      clear hb5 C5 L4 T4 k0 k1 k2 k3 k4
      obtain ⟨k0, k1, k2, k3, k4⟩ := box_cells T5.out.bx
      go_wp2_with fail
      refine (ls_load L5.out).mono ?_
      rintro e u6 ⟨Au6, cu6, rfl, ho6, hb6⟩
      have L6 := Lib.hid (L5.out.below hb6)
      have T6 := Lib.hid (T5.out.below hb6)
      have G6 := Lib.hid ho6.rd
      clear ho6 hb6 L5 T5
      clear k0 k1 k2 k3 k4
      obtain ⟨k0, k1, k2, k3, k4⟩ := box_cells T6.out.bx
      have C7 := Lib.hid (same_rd Au6 An cu6 cn now now _ G6.out T6.out.nw.1 (by omega) (by omega))
      rw [decide_eq_true rfl] at C7
      go_wp2_with fail
      refine C7.out.mono ?_
      rintro e u7 ⟨rfl, hb7⟩
      have L7 := Lib.hid (L6.out.below hb7)
      have T7 := Lib.hid (T6.out.below hb7)
      clear G6
      clear hb7 C7 L6 T6
      clear k0 k1 k2 k3 k4
      obtain ⟨k0, k1, k2, k3, k4⟩ := box_cells T7.out.bx
      go_wp2_with fail
      refine (pend_ls L7.out).mono ?_
      rintro e u7 ⟨rfl, rfl⟩
      go_wp2
      go_ret3
      exact ⟨_, _, _, now, An, cn, rfl, L7.out, HS.out.1, by omega, T7.out.nw⟩
    · go_enter Tryz.func9, Tryz.ntmps9
      go_wp2_with fail
      rw [HW1.out]
      refine (CM.out w1 (HA.out.below L1.out.bel)).mono ?_
      rintro e w2 ⟨Am, cm, rfl, hom, hb2⟩
      have L2 := Lib.hid (L1.out.below hb2)
      have T2 := Lib.hid (show TL w2 F q An now Am L w.heap.size _ from ⟨N1.out.below hb2, L1.out.apart hom, blk_below hb2 bx1.out, HG.out.1, HG.out.2⟩)
      clear hom hb2 CM N1 L1 bx1
      obtain ⟨k0, k1, k2, k3, k4⟩ := box_cells T2.out.bx
      go_wp2_with fail
      refine (len_ls L2.out).mono ?_
      rintro e w2 ⟨rfl, rfl⟩
      have C3 := Lib.hid (may_any Am cm n L w2 T2.out.rl.1 (by omega) HFL.out n4 n64)
      rw [show mayE L n = 7 by unfold mayE; rw [if_neg (by rw [rightB_good HE.out.1]; simp), if_pos HE.out.2]] at C3
      go_wp2_with fail
      refine C3.out.mono ?_
      rintro e w3 ⟨rfl, hb3⟩
      have L3 := Lib.hid (L2.out.below hb3)
      have T3 := Lib.hid (T2.out.below hb3)
      clear hb3 C3 L2 T2 k0 k1 k2 k3 k4
      obtain ⟨k0, k1, k2, k3, k4⟩ := box_cells T3.out.bx
      have L4 := L3
      have T4 := T3
      clear L3 T3
      have C5 := Lib.hid (commit_full q s n _ _ now L Am cm _ (HT.out.below L4.out.bel) L4.out.sat T4.out.rl.1 HE.out.1 HE.out.2)
      go_wp2_with fail
      refine C5.out.mono ?_
      rintro e w5 ⟨rfl, hb5⟩
      have L5 := Lib.hid (L4.out.below hb5)
      have T5 := Lib.hid (T4.out.below hb5)
      clear hb5 C5 L4 T4 k0 k1 k2 k3 k4
      obtain ⟨k0, k1, k2, k3, k4⟩ := box_cells T5.out.bx
      go_wp2_with fail
      refine (ls_load L5.out).mono ?_
      rintro e u6 ⟨Au6, cu6, rfl, ho6, hb6⟩
      have L6 := Lib.hid (L5.out.below hb6)
      have T6 := Lib.hid (T5.out.below hb6)
      have G6 := Lib.hid ho6.rd
      clear ho6 hb6 L5 T5
      clear k0 k1 k2 k3 k4
      obtain ⟨k0, k1, k2, k3, k4⟩ := box_cells T6.out.bx
      have C7 := Lib.hid (same_rd Au6 An cu6 cn now now _ G6.out T6.out.nw.1 (by omega) (by omega))
      rw [decide_eq_true rfl] at C7
      go_wp2_with fail
      refine C7.out.mono ?_
      rintro e u7 ⟨rfl, hb7⟩
      have L7 := Lib.hid (L6.out.below hb7)
      have T7 := Lib.hid (T6.out.below hb7)
      clear G6
      clear hb7 C7 L6 T6
      clear k0 k1 k2 k3 k4
      obtain ⟨k0, k1, k2, k3, k4⟩ := box_cells T7.out.bx
      go_wp2_with fail
      refine (pend_ls L7.out).mono ?_
      rintro e u7 ⟨rfl, rfl⟩
      go_wp2_with fail
      refine (ld_crash L7.out.ld q cB (Dsk.RdC.below HBK.out (L7.out.ld).bel) hks).mono ?_
      rintro e u8 ⟨rfl, Fa8, hL8, hs8⟩
      have D8 := Lib.hid hL8
      have T8 := Lib.hid (T7.out.stp hs8)
      clear hL8 hs8
      go_wp2_with fail
      refine (ld_open HT.out D8.out (L7.out.sat.clean.crash ks) n4 n64 q).mono ?_
      rintro e v8 ⟨qb8, Fb8, rfl, hL8, hs8⟩
      have LL8 := Lib.hid hL8
      have TT8 := Lib.hid (T8.out.stp hs8)
      clear hL8 hs8 D8 T8
      go_wp2_with fail
      refine (ls_load LL8.out).mono ?_
      rintro e u9 ⟨Au9, cu9, rfl, ho9, hb9⟩
      have L9 := Lib.hid (LL8.out.below hb9)
      have T9 := Lib.hid (TT8.out.below hb9)
      have G9 := Lib.hid ho9.rd
      clear ho9 hb9 LL8 TT8
      have C10 := Lib.hid (same_rd Au9 An cu9 cn now now _ G9.out T9.out.nw.1 (by omega) (by omega))
      rw [decide_eq_true rfl] at C10
      go_wp2_with fail
      refine C10.out.mono ?_
      rintro e u10 ⟨rfl, hb10⟩
      have L10 := Lib.hid (L9.out.below hb10)
      have T10 := Lib.hid (T9.out.below hb10)
      have G10 := Lib.hid (G9.out.below hb10)
      clear hb10 C10 L9 T9
      have C11 := Lib.hid (same_rd Au9 An cu9 cn now now _ G10.out T10.out.nw.1 (by omega) (by omega))
      rw [decide_eq_true rfl] at C11
      go_wp2_with fail
      refine C11.out.mono ?_
      rintro e u11 ⟨rfl, hb11⟩
      have L11 := Lib.hid (L10.out.below hb11)
      have T11 := Lib.hid (T10.out.below hb11)
      clear hb11 C11 L10 T10
      go_wp2
      go_ret3
      exact ⟨_, _, _, now, An, cn, rfl, L11.out, crash_lim _ _, by rw [crash_cnt]; omega, T11.out.nw⟩
  · have hl1 : 0 ≤ lim := by omega
    cases cr
    · go_enter Tryz.func9, Tryz.ntmps9
      go_wp2_with fail
      rw [HW1.out]
      refine (CM.out w1 (HA.out.below L1.out.bel)).mono ?_
      rintro e w2 ⟨Am, cm, rfl, hom, hb2⟩
      have L2 := Lib.hid (L1.out.below hb2)
      have T2 := Lib.hid (show TL w2 F q An now Am L w.heap.size _ from ⟨N1.out.below hb2, L1.out.apart hom, blk_below hb2 bx1.out, HG.out.1, HG.out.2⟩)
      clear hom hb2 CM N1 L1 bx1
      obtain ⟨k0, k1, k2, k3, k4⟩ := box_cells T2.out.bx
      go_wp2_with fail
      refine (len_ls L2.out).mono ?_
      rintro e w2 ⟨rfl, rfl⟩
      have C3 := Lib.hid (may_any Am cm n L w2 T2.out.rl.1 (by omega) HFL.out n4 n64)
      rw [show mayE L n = 7 by unfold mayE; rw [if_neg (by rw [rightB_good HE.out.1]; simp), if_pos HE.out.2]] at C3
      go_wp2_with fail
      refine C3.out.mono ?_
      rintro e w3 ⟨rfl, hb3⟩
      have L3 := Lib.hid (L2.out.below hb3)
      have T3 := Lib.hid (T2.out.below hb3)
      clear hb3 C3 L2 T2 k0 k1 k2 k3 k4
      obtain ⟨k0, k1, k2, k3, k4⟩ := box_cells T3.out.bx
      go_wp2_with fail
      refine (ls_limit HT.out L3.out lim m1 m2).mono ?_
      rintro e w4 ⟨rfl, F4, hL4, hs4⟩
      have L4 := Lib.hid hL4
      have T4 := Lib.hid (T3.out.stp hs4)
      have hcn4 : (limitS st lim).cnt = st.cnt := rfl
      clear hL4 hs4 L3 T3 k0 k1 k2 k3 k4
      obtain ⟨k0, k1, k2, k3, k4⟩ := box_cells T4.out.bx
      have C5 := Lib.hid (commit_full q s n _ _ now L Am cm _ (HT.out.below L4.out.bel) L4.out.sat T4.out.rl.1 HE.out.1 HE.out.2)
      go_wp2_with fail
      refine C5.out.mono ?_
      rintro e w5 ⟨rfl, hb5⟩
      have L5 := Lib.hid (L4.out.below hb5)
      have T5 := Lib.hid (T4.out.below hb5)
      clear hb5 C5 L4 T4 k0 k1 k2 k3 k4
      obtain ⟨k0, k1, k2, k3, k4⟩ := box_cells T5.out.bx
      go_wp2_with fail
      refine (ls_load L5.out).mono ?_
      rintro e u6 ⟨Au6, cu6, rfl, ho6, hb6⟩
      have L6 := Lib.hid (L5.out.below hb6)
      have T6 := Lib.hid (T5.out.below hb6)
      have G6 := Lib.hid ho6.rd
      clear ho6 hb6 L5 T5
      clear k0 k1 k2 k3 k4
      obtain ⟨k0, k1, k2, k3, k4⟩ := box_cells T6.out.bx
      have C7 := Lib.hid (same_rd Au6 An cu6 cn now now _ G6.out T6.out.nw.1 (by omega) (by omega))
      rw [decide_eq_true rfl] at C7
      go_wp2_with fail
      refine C7.out.mono ?_
      rintro e u7 ⟨rfl, hb7⟩
      have L7 := Lib.hid (L6.out.below hb7)
      have T7 := Lib.hid (T6.out.below hb7)
      clear G6
      clear hb7 C7 L6 T6
      clear k0 k1 k2 k3 k4
      obtain ⟨k0, k1, k2, k3, k4⟩ := box_cells T7.out.bx
      go_wp2_with fail
      refine (pend_ls L7.out).mono ?_
      rintro e u7 ⟨rfl, rfl⟩
      go_wp2_with fail
      refine (ld_crash L7.out.ld q cB (Dsk.RdC.below HBK.out (L7.out.ld).bel) hks).mono ?_
      rintro e u8 ⟨rfl, Fa8, hL8, hs8⟩
      have D8 := Lib.hid hL8
      have T8 := Lib.hid (T7.out.stp hs8)
      clear hL8 hs8
      go_wp2_with fail
      refine (ld_open HT.out D8.out (L7.out.sat.clean.crash ks) n4 n64 q).mono ?_
      rintro e v8 ⟨qb8, Fb8, rfl, hL8, hs8⟩
      have LL8 := Lib.hid hL8
      have TT8 := Lib.hid (T8.out.stp hs8)
      clear hL8 hs8 D8 T8
      go_wp2_with fail
      refine (ls_load LL8.out).mono ?_
      rintro e u9 ⟨Au9, cu9, rfl, ho9, hb9⟩
      have L9 := Lib.hid (LL8.out.below hb9)
      have T9 := Lib.hid (TT8.out.below hb9)
      have G9 := Lib.hid ho9.rd
      clear ho9 hb9 LL8 TT8
      have C10 := Lib.hid (same_rd Au9 An cu9 cn now now _ G9.out T9.out.nw.1 (by omega) (by omega))
      rw [decide_eq_true rfl] at C10
      go_wp2_with fail
      refine C10.out.mono ?_
      rintro e u10 ⟨rfl, hb10⟩
      have L10 := Lib.hid (L9.out.below hb10)
      have T10 := Lib.hid (T9.out.below hb10)
      have G10 := Lib.hid (G9.out.below hb10)
      clear hb10 C10 L9 T9
      have C11 := Lib.hid (same_rd Au9 An cu9 cn now now _ G10.out T10.out.nw.1 (by omega) (by omega))
      rw [decide_eq_true rfl] at C11
      go_wp2_with fail
      refine C11.out.mono ?_
      rintro e u11 ⟨rfl, hb11⟩
      have L11 := Lib.hid (L10.out.below hb11)
      have T11 := Lib.hid (T10.out.below hb11)
      clear hb11 C11 L10 T10
      go_wp2
      go_ret3
      exact ⟨_, _, _, now, An, cn, rfl, L11.out, crash_lim _ _, by rw [crash_cnt]; rw [limit_cnt]; omega, T11.out.nw⟩
    · go_enter Tryz.func9, Tryz.ntmps9
      go_wp2_with fail
      rw [HW1.out]
      refine (CM.out w1 (HA.out.below L1.out.bel)).mono ?_
      rintro e w2 ⟨Am, cm, rfl, hom, hb2⟩
      have L2 := Lib.hid (L1.out.below hb2)
      have T2 := Lib.hid (show TL w2 F q An now Am L w.heap.size _ from ⟨N1.out.below hb2, L1.out.apart hom, blk_below hb2 bx1.out, HG.out.1, HG.out.2⟩)
      clear hom hb2 CM N1 L1 bx1
      obtain ⟨k0, k1, k2, k3, k4⟩ := box_cells T2.out.bx
      go_wp2_with fail
      refine (len_ls L2.out).mono ?_
      rintro e w2 ⟨rfl, rfl⟩
      have C3 := Lib.hid (may_any Am cm n L w2 T2.out.rl.1 (by omega) HFL.out n4 n64)
      rw [show mayE L n = 7 by unfold mayE; rw [if_neg (by rw [rightB_good HE.out.1]; simp), if_pos HE.out.2]] at C3
      go_wp2_with fail
      refine C3.out.mono ?_
      rintro e w3 ⟨rfl, hb3⟩
      have L3 := Lib.hid (L2.out.below hb3)
      have T3 := Lib.hid (T2.out.below hb3)
      clear hb3 C3 L2 T2 k0 k1 k2 k3 k4
      obtain ⟨k0, k1, k2, k3, k4⟩ := box_cells T3.out.bx
      go_wp2_with fail
      refine (ls_limit HT.out L3.out lim m1 m2).mono ?_
      rintro e w4 ⟨rfl, F4, hL4, hs4⟩
      have L4 := Lib.hid hL4
      have T4 := Lib.hid (T3.out.stp hs4)
      have hcn4 : (limitS st lim).cnt = st.cnt := rfl
      clear hL4 hs4 L3 T3 k0 k1 k2 k3 k4
      obtain ⟨k0, k1, k2, k3, k4⟩ := box_cells T4.out.bx
      have C5 := Lib.hid (commit_full q s n _ _ now L Am cm _ (HT.out.below L4.out.bel) L4.out.sat T4.out.rl.1 HE.out.1 HE.out.2)
      go_wp2_with fail
      refine C5.out.mono ?_
      rintro e w5 ⟨rfl, hb5⟩
      have L5 := Lib.hid (L4.out.below hb5)
      have T5 := Lib.hid (T4.out.below hb5)
      clear hb5 C5 L4 T4 k0 k1 k2 k3 k4
      obtain ⟨k0, k1, k2, k3, k4⟩ := box_cells T5.out.bx
      go_wp2_with fail
      refine (ls_load L5.out).mono ?_
      rintro e u6 ⟨Au6, cu6, rfl, ho6, hb6⟩
      have L6 := Lib.hid (L5.out.below hb6)
      have T6 := Lib.hid (T5.out.below hb6)
      have G6 := Lib.hid ho6.rd
      clear ho6 hb6 L5 T5
      clear k0 k1 k2 k3 k4
      obtain ⟨k0, k1, k2, k3, k4⟩ := box_cells T6.out.bx
      have C7 := Lib.hid (same_rd Au6 An cu6 cn now now _ G6.out T6.out.nw.1 (by omega) (by omega))
      rw [decide_eq_true rfl] at C7
      go_wp2_with fail
      refine C7.out.mono ?_
      rintro e u7 ⟨rfl, hb7⟩
      have L7 := Lib.hid (L6.out.below hb7)
      have T7 := Lib.hid (T6.out.below hb7)
      clear G6
      clear hb7 C7 L6 T6
      clear k0 k1 k2 k3 k4
      obtain ⟨k0, k1, k2, k3, k4⟩ := box_cells T7.out.bx
      go_wp2_with fail
      refine (pend_ls L7.out).mono ?_
      rintro e u7 ⟨rfl, rfl⟩
      go_wp2_with fail
      refine (ld_crash L7.out.ld q cB (Dsk.RdC.below HBK.out (L7.out.ld).bel) hks).mono ?_
      rintro e u8 ⟨rfl, Fa8, hL8, hs8⟩
      have D8 := Lib.hid hL8
      have T8 := Lib.hid (T7.out.stp hs8)
      clear hL8 hs8
      go_wp2_with fail
      refine (ld_open HT.out D8.out (L7.out.sat.clean.crash ks) n4 n64 q).mono ?_
      rintro e v8 ⟨qb8, Fb8, rfl, hL8, hs8⟩
      have LL8 := Lib.hid hL8
      have TT8 := Lib.hid (T8.out.stp hs8)
      clear hL8 hs8 D8 T8
      go_wp2_with fail
      refine (ls_load LL8.out).mono ?_
      rintro e u9 ⟨Au9, cu9, rfl, ho9, hb9⟩
      have L9 := Lib.hid (LL8.out.below hb9)
      have T9 := Lib.hid (TT8.out.below hb9)
      have G9 := Lib.hid ho9.rd
      clear ho9 hb9 LL8 TT8
      have C10 := Lib.hid (same_rd Au9 An cu9 cn now now _ G9.out T9.out.nw.1 (by omega) (by omega))
      rw [decide_eq_true rfl] at C10
      go_wp2_with fail
      refine C10.out.mono ?_
      rintro e u10 ⟨rfl, hb10⟩
      have L10 := Lib.hid (L9.out.below hb10)
      have T10 := Lib.hid (T9.out.below hb10)
      have G10 := Lib.hid (G9.out.below hb10)
      clear hb10 C10 L9 T9
      have C11 := Lib.hid (same_rd Au9 An cu9 cn now now _ G10.out T10.out.nw.1 (by omega) (by omega))
      rw [decide_eq_true rfl] at C11
      go_wp2_with fail
      refine C11.out.mono ?_
      rintro e u11 ⟨rfl, hb11⟩
      have L11 := Lib.hid (L10.out.below hb11)
      have T11 := Lib.hid (T10.out.below hb11)
      clear hb11 C11 L10 T10
      go_wp2
      go_ret3
      exact ⟨_, _, _, now, An, cn, rfl, L11.out, crash_lim _ _, by rw [crash_cnt]; rw [limit_cnt]; omega, T11.out.nw⟩

end Go.Proofs.YtmggpockikcjjaaGreatDoor

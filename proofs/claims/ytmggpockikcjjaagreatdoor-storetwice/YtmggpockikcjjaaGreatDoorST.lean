/-
  The walk of StoreTwice: for every two lists of files and every list of bools it returns true; old memory stays.
-/
import Derived.Test.YtmggpockikcjjaaGreatDoorSK
namespace Go.Proofs.YtmggpockikcjjaaGreatDoor
open Go.RowKit
open Dsk (DS Tx Wt Kp DiskAt NoB Ok newS crashS limitS RdB)

theorem RdB.ahead {w w' : World} {B : Option Addr} {ks : List Bool} (h : RdB w B ks) (hb : Below w.heap.size w w') : RdB w' B ks := Dsk.RdC.below h hb
set_option maxRecDepth 100000 in
set_option maxHeartbeats 8000000 in
theorem storeTwice_any (A0 A1 B : Option Addr) (c0 c1 cB : Nat) (l k : List Fl) (ks : List Bool) (w : World) (T : Tabs w) (hr0 : Rd w A0 l) (hr1 : Rd w A1 k) (hb : RdB w B ks) (f0 : Hid (Fit l)) (f1 : Hid (Fit k)) (l0 : l.length ≤ 9223372036854775807) (l1 : k.length ≤ 9223372036854775807) (hks : ks.length ≤ 9223372036854775807) :
    Calls Tryz.prog 6 #[.slice A0 l.length c0, .slice A1 k.length c1, .slice B ks.length cB] w fun e w' => e = .returned (.bool true) ∧ Below w.heap.size w w' := by
  have HT := Lib.hid T
  have C1 := Lib.hid (ls_on 40 w T (by omega) (by omega))
  rw [show ((40 : Nat) : Int) = 40 from rfl] at C1
  have CA := Lib.hid (fun (w : World) (h : Rd w A0 l) => map_any A0 c0 l 6 40 w h f0 l0 (by omega) (by omega))
  have CB := Lib.hid (fun (w : World) (h : Rd w A1 k) => map_any A1 c1 k 6 40 w h f1 l1 (by omega) (by omega))
  rw [show ((6 : Nat) : Int) = 6 from rfl, show ((40 : Nat) : Int) = 40 from rfl] at CA CB
  have GA := Lib.hid (And.intro (mapL_good l 6 40) (map640 l))
  have GB := Lib.hid (And.intro (mapL_good k 6 40) (map640 k))
  have la : (mapL l 6 40).length ≤ 6 := mapL_len l 6 40
  have lb : (mapL k 6 40).length ≤ 6 := mapL_len k 6 40
  generalize mapL l 6 40 = a at *
  generalize mapL k 6 40 = b at *
  have H0 := Lib.hid (And.intro hr0 (And.intro hr1 hb))
  have h40 : halfN 40 = 19 := rfl
  have HH := Lib.hid h40
  clear T hr0 hr1 hb f0 f1 h40
  go_enter Tryz.func6, Tryz.ntmps6
  go_wp2_with fail
  refine C1.out.mono ?_
  rintro e w1 ⟨q, s, F, rfl, hL1⟩
  have L1 := Lib.hid hL1
  clear hL1 C1
  go_wp2_with fail
  refine (CA.out w1 (H0.out.1.below L1.out.bel)).mono ?_
  rintro e w2 ⟨Aa, ca, rfl, hoa, hb2⟩
  have L2 := Lib.hid (L1.out.below hb2)
  have Ra2 := Lib.hid (L1.out.apart hoa)
  clear hoa hb2 CA L1
  go_wp2_with fail
  refine (CB.out w2 (H0.out.2.1.below L2.out.bel)).mono ?_
  rintro e w3 ⟨Ab, cb, rfl, hob, hb3⟩
  have L3 := Lib.hid (L2.out.below hb3)
  have Ra3 := Lib.hid (Ra2.out.below hb3)
  have Rb3 := Lib.hid (L2.out.apart hob)
  clear hob hb3 CB L2 Ra2
  go_wp2_with fail
  refine (ls_commit_ok HT.out L3.out ca Ra3.out.1 GA.out.1 GA.out.2 (by rw [HH.out]; decide) rfl).mono ?_
  rintro e w4 ⟨rfl, F4, st4, hL4, hl4, hc4, hs4⟩
  have H4 := Lib.hid (And.intro hL4 (And.intro (hl4 rfl) hc4))
  have Ra4 := Lib.hid (Ra3.out.stp hs4)
  have Rb4 := Lib.hid (Rb3.out.stp hs4)
  clear hL4 hl4 hc4 hs4 L3 Ra3 Rb3
  have hc4 : st4.cnt ≤ 20 := by have := H4.out.2.2; rw [HH.out] at this; exact this
  go_wp2_with fail
  refine (ls_commit_ok HT.out H4.out.1 cb Rb4.out.1 GB.out.1 GB.out.2 (by rw [HH.out]; omega) H4.out.2.1).mono ?_
  rintro e w5 ⟨rfl, F5, st5, hL5, hl5, hc5, hs5⟩
  have H5 := Lib.hid (And.intro hL5 (And.intro (hl5 H4.out.2.1) hc5))
  have Ra5 := Lib.hid (Ra4.out.stp hs5)
  have Rb5 := Lib.hid (Rb4.out.stp hs5)
  clear hL5 hl5 hc5 hs5 Ra4 Rb4
  have hc5 : st5.cnt ≤ 40 := by have := H5.out.2.2; rw [HH.out] at this; omega
  clear H4 hc4
  go_wp2_with fail
  go_loopw [11] (fun vi wr => ∃ (i : Nat) (F' : Nat → Prop) (st : DS), i ≤ 2 ∧ vi = .int .i64 i ∧ Hid (LD w wr s F' st ∧ Clean 40 b st ∧ st.cnt ≤ 40 ∧ RdA wr F' q Aa a ∧ RdA wr F' q Ab b)) (fun vi _ => 2 - (intOf vi).toNat)
  case atStart => exact ⟨0, F5, st5, by omega, rfl, Lib.hid ⟨H5.out.1.ld, H5.out.1.sat.clean, hc5, Ra5.out, Rb5.out⟩⟩
  case round =>
    obtain ⟨i, F6, st6, hi, rfl, HS⟩ := hrel
    clear H5 Ra5 Rb5
    by_cases hlt : i < 2
    · have i1 : (i : Int) < 2 := by omega
      go_wp2_with fail
      refine (ld_crash HS.out.1 q cB (RdB.ahead H0.out.2.2 HS.out.1.bel) hks).mono ?_
      rintro e w7 ⟨rfl, F7, hL7, hs7⟩
      have H7 := Lib.hid (And.intro hL7 (And.intro (HS.out.2.1.crash ks) (And.intro (HS.out.2.2.2.1.stp hs7) (HS.out.2.2.2.2.stp hs7))))
      clear hL7 hs7
      go_wp2_with fail
      refine (ld_open HT.out H7.out.1 H7.out.2.1 (by omega) (by omega) q).mono ?_
      rintro e w8 ⟨q8, F8, rfl, hL8, hs8⟩
      have H8 := Lib.hid (And.intro hL8 (And.intro (H7.out.2.2.1.stp hs8) (H7.out.2.2.2.stp hs8)))
      have K8 := Lib.hid hs8
      clear hL8 hs8
      go_wp2_with fail
      refine (ls_load H8.out.1).mono ?_
      rintro e w9 ⟨A9, c9, rfl, ho9, hb9⟩
      have L9 := Lib.hid (H8.out.1.below hb9)
      have C9 := Lib.hid (same_rd A9 Ab c9 cb b b w9 ho9.rd (H8.out.2.2.1.below hb9) (by omega) (by omega))
      rw [decide_eq_true rfl] at C9
      have HB9 := Lib.hid hb9
      clear ho9 hb9
      go_wp2_with fail
      refine C9.out.mono ?_
      rintro e w10 ⟨rfl, hb10⟩
      have HB10 := Lib.hid (bch HB9.out hb10)
      clear hb10 C9
      go_wp2_with fail
      go_roundw
      case rel =>
        have a7 := H7.out.2.2.1
        have b7 := H7.out.2.2.2
        have k8 : Stp w7 F7 q w8 F8 q := ⟨K8.out.kp, K8.out.sub, .inl rfl⟩
        exact ⟨i + 1, F8, _, by omega, by go_num, Lib.hid ⟨(H8.out.1.below HB10.out).ld, H7.out.2.1, HS.out.2.2.1, (a7.stp k8).below HB10.out, (b7.stp k8).below HB10.out⟩⟩
      case measure => simp [intOf]; omega
    · obtain rfl : i = 2 := by omega
      go_wp2_with fail
      refine (ld_limit HS.out.1 q 0 (by omega) (by omega)).mono ?_
      rintro e w7 ⟨rfl, F7, hL7, hs7⟩
      have H7 := Lib.hid (And.intro hL7 (And.intro (HS.out.2.2.2.1.stp hs7) (HS.out.2.2.2.2.stp hs7)))
      have CL7 := Lib.hid (show Clean 40 b (limitS st6 0) from ⟨HS.out.2.1.num, HS.out.2.1.pend, HS.out.2.1.is⟩)
      clear hL7 hs7
      go_wp2_with fail
      refine (ld_open HT.out H7.out.1 CL7.out (by omega) (by omega) q).mono ?_
      rintro e w8 ⟨q8, F8, rfl, hL8, hs8⟩
      have H8 := Lib.hid (And.intro hL8 (And.intro (H7.out.2.1.stp hs8) (H7.out.2.2.stp hs8)))
      clear hL8 hs8 H7
      go_wp2_with fail
      refine (ls_commit_dead HT.out H8.out.1 ca H8.out.2.1.1 GA.out.1 GA.out.2 (by rw [HH.out]; have := HS.out.2.2.1; show st6.cnt + 19 + 1 < 1000; omega) rfl).mono ?_
      rintro e w9 ⟨rfl, F9, hL9, hs9⟩
      have H9 := Lib.hid (And.intro hL9 (H8.out.2.2.stp hs9))
      clear hL9 hs9 H8
      go_wp2_with fail
      refine (ld_crash H9.out.1 q8 cB (RdB.ahead H0.out.2.2 H9.out.1.bel) hks).mono ?_
      rintro e w10 ⟨rfl, F10, hL10, hs10⟩
      have H10 := Lib.hid (And.intro hL10 (And.intro (CL7.out.crash ks) (H9.out.2.stp hs10)))
      clear hL10 hs10 H9
      go_wp2_with fail
      refine (ld_open HT.out H10.out.1 H10.out.2.1 (by omega) (by omega) q8).mono ?_
      rintro e w11 ⟨q11, F11, rfl, hL11, hs11⟩
      have H11 := Lib.hid (And.intro hL11 (H10.out.2.2.stp hs11))
      clear hL11 hs11 H10
      go_wp2_with fail
      refine (ls_load H11.out.1).mono ?_
      rintro e w12 ⟨A12, c12, rfl, ho12, hb12⟩
      have L12 := Lib.hid (H11.out.1.below hb12)
      have C12 := Lib.hid (same_rd A12 Ab c12 cb b b w12 ho12.rd (H11.out.2.1.below hb12) (by omega) (by omega))
      rw [decide_eq_true rfl] at C12
      clear ho12 hb12
      go_wp2_with fail
      refine C12.out.mono ?_
      rintro e w13 ⟨rfl, hb13⟩
      have L13 := Lib.hid (L12.out.below hb13)
      clear hb13 C12 L12
      go_wp2_with fail
      refine (fixed_any w13 (HT.out.below L13.out.bel)).mono ?_
      rintro e w14 ⟨rfl, hb14⟩
      go_wp2
      go_ret
      exact ⟨rfl, bch L13.out.bel hb14⟩
end Go.Proofs.YtmggpockikcjjaaGreatDoor

/-
  The walk of StoreRoom: for every int it returns true; old memory stays.
-/
import Derived.Test.YtmggpockikcjjaaGreatDoorSK
namespace Go.Proofs.YtmggpockikcjjaaGreatDoor
open Go.RowKit
open Dsk (DS Tx Wt Kp DiskAt NoB Ok newS)

theorem and_mask (n : Int) (b : Nat) (k : Int) (hk : (BitVec.ofInt 64 k).toNat = 2 ^ b - 1) (hb : b ≤ 60) : ∃ m : Nat, m < 2 ^ b ∧ bits .and .i64 n k = (m : Int) := by
  have key : (BitVec.ofInt 64 n &&& BitVec.ofInt 64 k).toNat = (n % ((2 ^ 64 : Nat) : Int)).toNat % 2 ^ b := by
    rw [BitVec.toNat_and, BitVec.toNat_ofInt, hk, Nat.and_two_pow_sub_one_eq_mod]
  obtain ⟨m, hm⟩ : ∃ m, (n % ((2 ^ 64 : Nat) : Int)).toNat % 2 ^ b = m := ⟨_, rfl⟩
  have hlt : m < 2 ^ b := by rw [← hm]; exact Nat.mod_lt _ (Nat.pos_of_ne_zero (by simp))
  refine ⟨m, hlt, ?_⟩
  show IntKind.i64.wrap ((BitVec.ofInt 64 n &&& BitVec.ofInt 64 k).toNat : Nat) = m
  rw [key, hm, IntKind.wrap_i64]
  have : 2 ^ b ≤ 2 ^ 60 := Nat.pow_le_pow_right (by omega) hb
  omega
theorem one_file (t : List UInt8) (h : t.length ≤ 4000) : Good [(([97] : List UInt8), t)] := by
  refine ⟨by unfold Sorted; simp, by simp, fun f hf => ?_⟩
  simp at hf
  subst hf
  unfold wrE
  have hn : nmOk ([97] : List UInt8) = true := by decide
  rw [if_neg (by simp [hn]), if_neg (by simp; omega)]

/-- What a round asks: what is committed, told, and loaded. -/
theorem may_one {n : Nat} {t : List UInt8} (h : t.length ≤ 4000) : (mayE [(([97] : List UInt8), t)] n = 0 ∧ (filesL [(([97] : List UInt8), t)]).length ≤ 64 * halfN n) ∨ (mayE [(([97] : List UInt8), t)] n = 7 ∧ 64 * halfN n < (filesL [(([97] : List UInt8), t)]).length) := by
  unfold mayE
  rw [if_neg (by rw [rightB_good (one_file t h)]; simp)]
  by_cases q : 64 * halfN n < (filesL [(([97] : List UInt8), t)]).length
  · right; exact ⟨if_pos q, q⟩
  · left; exact ⟨if_neg q, by omega⟩
theorem len_snoc {t r : List UInt8} {c : UInt8} (h : t ++ [c] = r) : r.length = t.length + 1 := by rw [← h]; simp

set_option maxRecDepth 100000 in
set_option maxHeartbeats 8000000 in
theorem storeRoom_any (x : Int) (w : World) (T : Tabs w) : Calls Tryz.prog 4 #[.int .i64 x] w fun e w' => e = .returned (.bool true) ∧ Below w.heap.size w w' := by
  obtain ⟨m, hm, hb⟩ := and_mask x 6 63 (by decide) (by omega)
  have hm64 : m < 64 := by simpa using hm
  have HT := Lib.hid T
  have R1 := Lib.hid (room_any x)
  have R2 := Lib.hid (rroom_any x)
  generalize roomZ x = rx at *
  obtain ⟨k, hk⟩ : ∃ k, 1 + m = k := ⟨_, rfl⟩
  have f1 : (1 : Int) + (m : Int) = (k : Int) := by omega
  have hk1 : 1 ≤ k := by omega
  have hk64 : k ≤ 64 := by omega
  clear T hm hk
  by_cases h4 : k < 4
  · have i4 : (k : Int) < 4 := by omega
    have C := Lib.hid (fun (w : World) => on_few k w hk1 h4)
    go_enter Tryz.func4, Tryz.ntmps4
    go_wp2_with fail
    refine (R1.out w).mono ?_
    rintro e w ⟨rfl, rfl⟩
    go_wp2_with fail
    refine (R2.out w).mono ?_
    rintro e w ⟨rfl, rfl⟩
    go_wp2_with fail
    refine (C.out w).mono ?_
    rintro e w1 ⟨s, F, rfl, hb1, _, _⟩
    have HB1 := Lib.hid hb1
    clear hb1 C R1 R2
    go_wp2_with fail
    refine (fixed_any w1 (HT.out.below HB1.out)).mono ?_
    rintro e w2 ⟨rfl, hb2⟩
    go_wp2
    go_ret
    exact ⟨rfl, bch HB1.out hb2⟩
  · have i4 : ¬ (k : Int) < 4 := by omega
    have C := Lib.hid (fun (w : World) (T : Tabs w) => ls_on k w T (by omega) hk64)
    have R3 := Lib.hid (rroom_any k)
    rw [room_is (n := k) (by omega) hk64] at R3
    have hh : halfN k ≤ 31 := by unfold halfN; omega
    have hh1 : 1 ≤ halfN k := by unfold halfN; omega
    obtain ⟨rm, hrm⟩ : ∃ rm, 64 * halfN k = rm := ⟨_, rfl⟩
    rw [hrm] at R3
    have hrm1 : rm ≤ 1984 := by omega
    have HRM := Lib.hid hrm
    clear hrm
    go_enter Tryz.func4, Tryz.ntmps4
    go_wp2_with fail
    refine (R1.out w).mono ?_
    rintro e w ⟨rfl, rfl⟩
    go_wp2_with fail
    refine (R2.out w).mono ?_
    rintro e w ⟨rfl, rfl⟩
    go_wp2_with fail
    refine (C.out w HT.out).mono ?_
    rintro e w1 ⟨q, s, F, rfl, hL⟩
    have HL := Lib.hid hL
    clear hL C R1 R2 hb
    go_wp2_with fail
    go_loopw [6, 7] (fun vt vi wr => ∃ (i : Nat) (t : List UInt8), i ≤ 3000 ∧ vi = .int .i64 i ∧ vt = .string ⟨t.toArray⟩ ∧ t.length = i ∧ wr = w1) (fun _ vi _ => 3000 - (intOf vi).toNat)
    case atStart => exact ⟨0, [], by omega, rfl, rfl, rfl, rfl⟩
    case round =>
      obtain ⟨i, t, hi, rfl, rfl, ht, rfl⟩ := hrel
      by_cases hlt : (i : Int) < (rm : Int) - 10
      · have i3 : (i : Int) < 3000 := by omega
        obtain ⟨r, hr⟩ : ∃ r, t ++ [120] = r := ⟨_, rfl⟩
        have hrl := len_snoc hr
        have HE := Lib.hid (show Value.string (({ data := t.toArray } : ByteArray) ++ { data := #[120] }) = .string ⟨r.toArray⟩ by rw [← hr]; exact str_app t [120])
        have ht3 : t.length ≤ 3000 := by omega
        have HT3 := Lib.hid ht
        clear hr ht
        go_wp2_with fail
        refine (R3.out _).mono ?_
        rintro e w9 ⟨rfl, rfl⟩
        go_wp2_with fail
        exact ⟨⟨i + 1, r, by omega, by go_num, HE.out, by have := HT3.out; omega, trivial⟩, by simp [intOf]; omega⟩
      · have htl : t.length ≤ 3000 := by omega
        have h0 : ∃ q0, LS w wr q s F k [] q0 ∧ q0.lim = none ∧ q0.cnt = 0 := ⟨newS k, HL.out, rfl, rfl⟩
        obtain ⟨st0, hL0, hl0, hc0⟩ := h0
        have H0 := Lib.hid (And.intro hL0 (And.intro hl0 hc0))
        clear hL0 hl0 hc0 HL
        go_wp2_with fail
        refine (R3.out _).mono ?_
        rintro e w1 ⟨rfl, rfl⟩
        clear R3
        go_wp2_with fail
        go_loopw [6, 8] (fun vt vi wr => ∃ (j : Nat) (u : List UInt8) (F' : Nat → Prop) (st : DS) (fs : List Fl), j ≤ 10 ∧ vi = .int .i64 j ∧ vt = .string ⟨u.toArray⟩ ∧ u.length ≤ 3000 + j ∧ Hid (LS w wr q s F' k fs st ∧ st.lim = none ∧ st.cnt ≤ j * 33)) (fun _ vi _ => 10 - (intOf vi).toNat)
        case atStart => exact ⟨0, t, F, st0, [], by omega, rfl, rfl, by omega, Lib.hid ⟨H0.out.1, H0.out.2.1, by have := H0.out.2.2; omega⟩⟩
        case round =>
          obtain ⟨j, u, F', st, fs, hj, rfl, rfl, hu, HS⟩ := hrel
          clear H0
          by_cases hj10 : j < 10
          · have j1 : (j : Int) < 10 := by omega
            have j2 : (u.length : Int) < 3990 := by omega
            obtain ⟨f, hf⟩ : ∃ f : Fl, (([97] : List UInt8), u) = f := ⟨_, rfl⟩
            have hg : Good [f] := by rw [← hf]; exact one_file u (by omega)
            have hway := may_one (n := k) (t := u) (by omega)
            rw [hf] at hway
            obtain ⟨v, hv⟩ : ∃ v, u ++ [121] = v := ⟨_, rfl⟩
            have hvl := len_snoc hv
            have HE := Lib.hid (show Value.string (({ data := u.toArray } : ByteArray) ++ { data := #[121] }) = .string ⟨v.toArray⟩ by rw [← hv]; exact str_app u [121])
            obtain ⟨w2, hw2⟩ : ∃ w2, wr.alloc (.cells #[.string ⟨f.1.toArray⟩, .string ⟨f.2.toArray⟩] 37) = w2 := ⟨_, rfl⟩
            have hb2 : Below wr.heap.size wr w2 := by rw [← hw2]; exact one_below _ _
            have LS2 := Lib.hid (HS.out.1.below hb2)
            have R2 := Lib.hid (show RdA w2 F' q (some ⟨wr.heap.size, 0, none⟩) [f] from ⟨by rw [← hw2]; exact one_new wr f, fun _ b o e => by
              simp at e
              obtain ⟨rfl, _⟩ := e
              exact ⟨fun x => by have := HS.out.1.fl _ x; omega, by have := HS.out.1.sat.qlt; omega⟩⟩)
            have hcn : st.cnt + halfN k + 1 < 1000 := by have := HS.out.2.2; omega
            have HW2 := Lib.hid (show wr.alloc (.cells #[.string ⟨#[97]⟩, .string ⟨u.toArray⟩] 37) = w2 by rw [← hw2, ← hf])
            have HG := Lib.hid hg
            clear hv hf hw2 hg hb2
            rcases hway with ⟨m0, mf⟩ | ⟨m7, mf⟩
            · have C1 := Lib.hid (ls_commit_ok HT.out LS2.out 1 R2.out.1 HG.out mf hcn HS.out.2.1)
              go_wp2_with fail
              rw [HW2.out]
              refine C1.out.mono ?_
              rintro e w3 ⟨rfl, F3, st3, hL3, hl3, hc3, hs3⟩
              have H3 := Lib.hid (And.intro hL3 (And.intro (hl3 HS.out.2.1) hc3))
              have R3' := Lib.hid (R2.out.stp hs3)
              clear hL3 hl3 hc3 hs3 C1 LS2 R2
              have C2 := Lib.hid (may_any _ 1 k [f] w3 R3'.out.1 (by simp) HG.out.fit (by omega) hk64)
              rw [m0] at C2
              go_wp2_with fail
              refine C2.out.mono ?_
              rintro e w4 ⟨rfl, hb4⟩
              have L4 := Lib.hid (H3.out.1.below hb4)
              have R4 := Lib.hid (R3'.out.below hb4)
              clear hb4 C2 R3'
              go_wp2_with fail
              refine (ls_load L4.out).mono ?_
              rintro e w5 ⟨A, c, rfl, ho, hb5⟩
              have L5 := Lib.hid (L4.out.below hb5)
              have C5 := Lib.hid (same_rd A _ c 1 [f] [f] w5 ho.rd (R4.out.1.below hb5) (by simp) (by simp))
              rw [decide_eq_true rfl] at C5
              clear ho hb5 L4 R4
              go_wp2_with fail
              refine C5.out.mono ?_
              rintro e w6 ⟨rfl, hb6⟩
              have L6 := Lib.hid (L5.out.below hb6)
              clear hb6 C5 L5
              go_wp2_with fail
              refine ⟨⟨j + 1, v, F3, st3, [f], by omega, by go_num, HE.out, by omega, Lib.hid ⟨L6.out, H3.out.2.1, ?_⟩⟩, by simp [intOf]; omega⟩
              have := H3.out.2.2; have := HS.out.2.2; omega
            · have C1 := Lib.hid (commit_full q s k F' st fs [f] _ 1 w2 (HT.out.below LS2.out.bel) LS2.out.sat R2.out.1 HG.out mf)
              go_wp2_with fail
              rw [HW2.out]
              refine C1.out.mono ?_
              rintro e w3 ⟨rfl, hb3⟩
              have L3 := Lib.hid (LS2.out.below hb3)
              have R3' := Lib.hid (R2.out.below hb3)
              clear hb3 C1 LS2 R2
              have C2 := Lib.hid (may_any _ 1 k [f] w3 R3'.out.1 (by simp) HG.out.fit (by omega) hk64)
              rw [m7] at C2
              go_wp2_with fail
              refine C2.out.mono ?_
              rintro e w4 ⟨rfl, hb4⟩
              have L4 := Lib.hid (L3.out.below hb4)
              clear hb4 C2 R3'
              go_wp2_with fail
              refine ⟨⟨j + 1, v, F', st, fs, by omega, by go_num, HE.out, by omega, Lib.hid ⟨L4.out, HS.out.2.1, ?_⟩⟩, by simp [intOf]; omega⟩
              have := HS.out.2.2; omega
          · obtain rfl : j = 10 := by omega
            go_wp2_with fail
            refine (fixed_any wr (HT.out.below HS.out.1.bel)).mono ?_
            rintro e w7 ⟨rfl, hb7⟩
            go_wp2
            go_ret
            exact ⟨rfl, HS.out.1.bel.trans (hb7.mono HS.out.1.bel.size)⟩
end Go.Proofs.YtmggpockikcjjaaGreatDoor

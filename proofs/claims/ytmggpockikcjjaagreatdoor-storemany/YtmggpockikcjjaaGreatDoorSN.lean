/-
  The walk of StoreMany: for every list of lists of files and every int it returns true; old memory stays.
-/
import Derived.Test.YtmggpockikcjjaaGreatDoorSR
namespace Go.Proofs.YtmggpockikcjjaaGreatDoor
open Go.RowKit
open Dsk (DS Tx Wt Kp DiskAt NoB Ok newS crashS limitS RdB)

/-- A list of files in a slice: where it lies, and how much room it has. -/
structure FsV where
  A : Option Addr
  fs : List Fl
  c : Nat
instance : Inhabited FsV := ⟨⟨none, [], 0⟩⟩
def RdM (w : World) (A : Option Addr) (xs : List FsV) : Prop :=
  0 < xs.length → ∃ b o, A = some ⟨b, o, none⟩ ∧ ∀ i x, xs[i]? = some x → w.cell? ⟨b, o + i, none⟩ = some (.slice x.A x.fs.length x.c)
theorem RdM.below {w w' : World} {A : Option Addr} {xs : List FsV} (h : RdM w A xs) (hb : Below w.heap.size w w') : RdM w' A xs := fun h0 => by
  obtain ⟨b, o, e, hc⟩ := h h0
  exact ⟨b, o, e, fun i x hi => cell_below hb (hc i x hi)⟩
structure FsOk (W : World) (x : FsV) : Prop where
  rd : Rd W x.A x.fs
  fit : Fit x.fs
  len : x.fs.length ≤ 9223372036854775807
theorem room_up (k : Nat) : roomZ k ≤ roomZ (k + 1 : Nat) ∧ roomZ (k + 2 : Nat) ≤ roomZ k + 64 := by
  unfold roomZ roomN halfN
  simp only [Int.toNat_natCast]
  split <;> split <;> split <;> omega
theorem room_small (k : Nat) : roomZ k ≤ 131008 := by
  unfold roomZ roomN halfN
  simp only [Int.toNat_natCast]
  split <;> omega

set_option maxRecDepth 100000 in
set_option maxHeartbeats 8000000 in
theorem storeMany_any (A0 : Option Addr) (c0 : Nat) (xs : List FsV) (x : Int) (w : World) (T : Tabs w) (hr0 : RdM w A0 xs) (hok : (∀ y ∈ xs, FsOk w y)) :
    Calls Tryz.prog 7 #[.slice A0 xs.length c0, .int .i64 x] w fun e w' => e = .returned (.bool true) ∧ Below w.heap.size w w' := by
  have HT := Lib.hid T
  have C1 := Lib.hid (ls_on 40 w T (by omega) (by omega))
  rw [show ((40 : Nat) : Int) = 40 from rfl] at C1
  have H0 := Lib.hid (And.intro hr0 hok)
  have HH := Lib.hid (show halfN 40 = 19 from rfl)
  clear T hr0 hok
  go_enter Tryz.func7, Tryz.ntmps7
  go_wp2_with fail
  refine C1.out.mono ?_
  rintro e w1 ⟨q, s, F, rfl, hL1⟩
  have L1 := Lib.hid hL1
  clear hL1 C1
  have L2 := Lib.hid (L1.out.below (one_below w1 (.cells #[] 37)))
  go_wp2_with fail
  go_loopw [5, 7, 8] (fun vs vl vi wr => ∃ (i q : Nat) (F : Nat → Prop) (st : DS) (cur : List Fl) (Al : Option Addr) (cl : Nat), i ≤ xs.length ∧ i ≤ 10 ∧ vs = .pointer (some ⟨q, 0, none⟩) ∧ vl = .slice Al cur.length cl ∧ vi = .int .i64 i ∧ cur.length ≤ 32 ∧ Hid (LS w wr q s F 40 cur st ∧ st.lim = none ∧ st.cnt ≤ i * 20 ∧ RdA wr F q Al cur)) (fun _ _ vi _ => 10 - (intOf vi).toNat)
  case atStart => exact ⟨0, q, F, newS 40, [], some ⟨w1.heap.size, 0, none⟩, 0, Nat.zero_le _, by omega, rfl, rfl, rfl, by simp, Lib.hid ⟨L2.out, rfl, Nat.le_refl _, RdA.empty _ _ _ _⟩⟩
  case round =>
    obtain ⟨i, q, F, st, cur, Al, cl, hi, hi10, rfl, rfl, rfl, hcl, HI⟩ := hrel
    clear L1 L2
    by_cases hlt : i < xs.length ∧ i < 10
    · obtain ⟨hlt, h10⟩ := hlt
      obtain ⟨y, hy⟩ : ∃ y, xs[i]? = some y := ⟨_, List.getElem?_eq_getElem hlt⟩
      obtain ⟨b, o, rfl, hcell⟩ := H0.out.1.below HI.out.1.bel (by omega)
      have cy := hcell i y hy
      have OK := Lib.hid (H0.out.2 y (List.mem_of_getElem? hy))
      have C2 := Lib.hid (fun (w : World) (h : Rd w y.A y.fs) => map_any y.A y.c y.fs 6 40 w h (Lib.hid OK.out.fit) OK.out.len (by omega) (by omega))
      rw [show ((6 : Nat) : Int) = 6 from rfl, show ((40 : Nat) : Int) = 40 from rfl] at C2
      have GA := Lib.hid (And.intro (mapL_good y.fs 6 40) (map640 y.fs))
      have la : (mapL y.fs 6 40).length ≤ 6 := mapL_len y.fs 6 40
      generalize mapL y.fs 6 40 = a at *
      have i1 : (i : Int) < (xs.length : Int) := by omega
      have i2 : (i : Int) < 10 := by omega
      clear hcell hy
      go_wp2_with fail
      refine (C2.out wr (OK.out.rd.below HI.out.1.bel)).mono ?_
      rintro e w2 ⟨Aa, ca, rfl, hoa, hb2⟩
      have L2 := Lib.hid (HI.out.1.below hb2)
      have R2 := Lib.hid (HI.out.1.apart hoa)
      clear hoa hb2 C2 cy
      go_wp2_with fail
      refine (ls_commit_ok HT.out L2.out ca R2.out.1 GA.out.1 GA.out.2 (by rw [HH.out]; have := HI.out.2.2.1; omega) HI.out.2.1).mono ?_
      rintro e w3 ⟨rfl, F3, st3, hL3, hl3, hc3, hs3⟩
      have H3 := Lib.hid (And.intro hL3 (And.intro (hl3 HI.out.2.1) (And.intro hc3 (R2.out.stp hs3))))
      clear hL3 hl3 hc3 hs3 L2 R2
      go_wp2_with fail
      refine (ls_load H3.out.1).mono ?_
      rintro e w4 ⟨A4, c4, rfl, ho4, hb4⟩
      have L4 := Lib.hid (H3.out.1.below hb4)
      have R4 := Lib.hid (H3.out.2.2.2.below hb4)
      have C4 := Lib.hid (same_rd A4 Aa c4 ca a a w4 ho4.rd R4.out.1 (by omega) (by omega))
      rw [decide_eq_true rfl] at C4
      clear ho4 hb4
      go_wp2_with fail
      refine C4.out.mono ?_
      rintro e w5 ⟨rfl, hb5⟩
      have L5 := Lib.hid (L4.out.below hb5)
      have R5 := Lib.hid (R4.out.below hb5)
      clear hb5 C4 L4 R4
      go_wp2_with fail
      refine (ld_open HT.out L5.out.ld L5.out.sat.clean (by omega) (by omega) q).mono ?_
      rintro e w6 ⟨q6, F6, rfl, hL6, hs6⟩
      have H6 := Lib.hid (And.intro hL6 (R5.out.stp hs6))
      clear hL6 hs6 L5 R5
      go_wp2_with fail
      refine (ls_load H6.out.1).mono ?_
      rintro e w7 ⟨A7, c7, rfl, ho7, hb7⟩
      have L7 := Lib.hid (H6.out.1.below hb7)
      have R7 := Lib.hid (H6.out.2.below hb7)
      have C7 := Lib.hid (same_rd A7 Aa c7 ca a a w7 ho7.rd R7.out.1 (by omega) (by omega))
      rw [decide_eq_true rfl] at C7
      clear ho7 hb7 H6
      go_wp2_with fail
      refine C7.out.mono ?_
      rintro e w8 ⟨rfl, hb8⟩
      have L8 := Lib.hid (L7.out.below hb8)
      have R8 := Lib.hid (R7.out.below hb8)
      clear hb8 C7 L7 R7
      go_wp2_with fail
      go_roundw
      case rel => exact ⟨i + 1, q6, F6, st3, a, Aa, ca, by omega, by omega, rfl, rfl, by go_num, by omega, Lib.hid ⟨L8.out, H3.out.2.1, by have h3 := HI.out.2.2.1; have h4 := H3.out.2.2.1; rw [HH.out] at h4; omega, R8.out⟩⟩
      case measure => simp [intOf]; omega
    · obtain ⟨m, hm, hbits⟩ := and_mask x 16 65535 (by decide) (by omega)
      have hm16 : m < 65536 := by simpa using hm
      clear hm
      obtain ⟨u1, u2⟩ := room_up m
      have E0 := Lib.hid (room_any m)
      have E1 := Lib.hid (room_any (m + 1 : Nat))
      have E2 := Lib.hid (room_any (m + 2 : Nat))
      have E3 := Lib.hid (rroom_any m)
      have rs := room_small m
      generalize roomZ m = r0 at *
      generalize roomZ (m + 1 : Nat) = r1 at *
      generalize roomZ (m + 2 : Nat) = r2 at *
      rw [show ((m + 1 : Nat) : Int) = (m : Int) + 1 by omega] at E1
      rw [show ((m + 2 : Nat) : Int) = (m : Int) + 2 by omega] at E2
      have j1 : (r0 : Int) ≤ (r1 : Int) := by omega
      have j2 : (r2 : Int) ≤ (r0 : Int) + 64 := by omega
      have hways : (i < xs.length ∧ i = 10) ∨ ¬ i < xs.length := by omega
      clear hlt
      rcases hways with ⟨hw1, rfl⟩ | hw1
      all_goals
        go_wp2_with fail
        refine (ld_crash HI.out.1.ld q 0 (B := none) (ks := []) (fun h => absurd h (by simp [Dsk.bcells])) (by decide)).mono ?_
        rintro e w7 ⟨rfl, F7, hL7, hs7⟩
        have H7 := Lib.hid (And.intro hL7 (And.intro (HI.out.1.sat.clean.crash []) (HI.out.2.2.2.stp hs7)))
        clear hL7 hs7
        go_wp2_with fail
        refine (ld_open HT.out H7.out.1 H7.out.2.1 (by omega) (by omega) q).mono ?_
        rintro e w8 ⟨q8, F8, rfl, hL8, hs8⟩
        have H8 := Lib.hid (And.intro hL8 (H7.out.2.2.stp hs8))
        clear hL8 hs8 H7
        go_wp2_with fail
        refine (ls_load H8.out.1).mono ?_
        rintro e w9 ⟨A9, c9, rfl, ho9, hb9⟩
        have L9 := Lib.hid (H8.out.1.below hb9)
        have C9 := Lib.hid (same_rd A9 Al c9 cl cur cur w9 ho9.rd (H8.out.2.1.below hb9) (by omega) (by omega))
        rw [decide_eq_true rfl] at C9
        clear ho9 hb9 H8
        go_wp2_with fail
        refine C9.out.mono ?_
        rintro e w10 ⟨rfl, hb10⟩
        have L10 := Lib.hid (L9.out.below hb10)
        clear hb10 C9 L9
        go_wp2_with fail
        refine (E0.out w10).mono ?_
        rintro e w10 ⟨rfl, rfl⟩
        go_wp2_with fail
        refine (E1.out w10).mono ?_
        rintro e w10 ⟨rfl, rfl⟩
        go_wp2_with fail
        refine (E2.out w10).mono ?_
        rintro e w10 ⟨rfl, rfl⟩
        go_wp2_with fail
        refine (E0.out w10).mono ?_
        rintro e w10 ⟨rfl, rfl⟩
        go_wp2_with fail
        refine (E0.out w10).mono ?_
        rintro e w10 ⟨rfl, rfl⟩
        go_wp2_with fail
        refine (E3.out w10).mono ?_
        rintro e w10 ⟨rfl, rfl⟩
        go_wp2_with fail
        refine (fixed_any w10 (HT.out.below L10.out.bel)).mono ?_
        rintro e w11 ⟨rfl, hb11⟩
        go_wp2
        go_ret
        exact ⟨rfl, bch L10.out.bel hb11⟩
end Go.Proofs.YtmggpockikcjjaaGreatDoor

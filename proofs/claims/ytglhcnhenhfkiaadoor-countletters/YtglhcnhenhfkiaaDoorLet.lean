/-
  The walk of CountLetters at the last counter, and behind a z: it returns true; the tables lie in memory; old memory stays as it was.
-/
import Derived.Test.YtglhcnhenhfkiaaDoorT7
import Derived.Test.YtglhcnhenhfkiaaDoorL
import Derived.BigQuiet
import Derived.StillTailTactics
namespace Go.Proofs.YtglhcnhenhfkiaaDoor
open Go.RowKit Go.Sort

theorem cut_natL (n : Int) (m : Nat) (w : World) (h : cCut n = m) :
    Calls Tryd.prog 11 #[.int .i64 n] w fun e w' => e = .returned (.int .i64 m) ∧ w = w' :=
  (cut_any n w).mono fun _ _ hh => ⟨hh.1.trans (ret_int h), hh.2⟩
theorem text_natL (m : Nat) (style : Int) (l : List UInt8) (w : World) (T : Tabs w) (hm : m ≤ 999999) (hl : cTextN m style = l) :
    Calls Tryd.prog 13 #[.int .i64 m, .int .i64 style] w fun e w' => e = .returned (.string ⟨l.toArray⟩) ∧ Below w.heap.size w w' :=
  (textN_any m style m w T (cCut_id _ (by omega) (by omega)) hm).mono fun _ _ hh => ⟨hh.1.trans (ret_str hl), hh.2⟩

set_option maxRecDepth 100000 in
set_option maxHeartbeats 2000000 in
theorem letters_end (a b : Int) (ma mb A B : Nat) (S U N : List UInt8) (w : World) (T : Tabs w) (Ha : Hid (cCut a = ma)) (Hb : Hid (cCut b = mb)) (HA : Hid (max (1 : Int) ma = A)) (HB : Hid (max (1 : Int) mb = B)) (ha9 : A ≤ 999999) (hb9 : B ≤ 999999) (hA1 : 1 ≤ A) (hB1 : 1 ≤ B)
    (HS : Hid (cTextN A 3 = S)) (HU : Hid (cTextN B 3 = U)) (HN : Hid (cText ((A : Int) + 1) 3 = N)) (hS1 : 1 ≤ S.length) (hU1 : 1 ≤ U.length) (hN1 : 1 ≤ N.length) (hS9 : S.length ≤ 1000) (hU9 : U.length ≤ 1000) (hN9 : N.length ≤ 1000)
    (key : (B ≤ A) ∨ (A < B ∧ S.length < U.length) ∨ (A < B ∧ S.length ≤ U.length ∧ ((S.length : Int) == (U.length : Int)) = true ∧ Op.bytesLess S U = true))
    (q9 : ((A : Int) == 999999) = true) (qn : (N == S) = true) :
    Calls Tryd.prog 6 #[.int .i64 a, .int .i64 b] w fun e w' => e = .returned (.bool true) ∧ Below w.heap.size w w' := by
  have Bw : Below w.heap.size w w := Below.refl _ _
  go_enter Tryd.func6, Tryd.ntmps6
  go_wp2_with fail
  refine (cut_natL a ma _ Ha.out).mono ?_
  rintro e w' ⟨rfl, rfl⟩
  go_wp2_with fail
  rw [HA.out]
  refine (cut_natL b mb _ Hb.out).mono ?_
  rintro e w' ⟨rfl, rfl⟩
  go_wp2_with fail
  rw [HB.out]
  refine (text_natL A 3 S _ T ha9 HS.out).mono ?_
  rintro e w1 ⟨rfl, hb⟩
  replace Bw := Bw.trans (hb.mono Bw.size)
  replace T := T.below hb
  clear hb
  go_wp2_with fail
  refine (text_natL B 3 U _ T hb9 HU.out).mono ?_
  rintro e w2 ⟨rfl, hb⟩
  replace Bw := Bw.trans (hb.mono Bw.size)
  replace T := T.below hb
  clear hb
  rcases key with k1 | ⟨k1, k2⟩ | ⟨k1, k2, k3, k4⟩
  all_goals
    go_wp2_with fail
    refine (text_any ((A : Int) + 1) 3 _ T).mono ?_
    rintro e w3 ⟨rfl, hb⟩
    replace Bw := Bw.trans (hb.mono Bw.size)
    replace T := T.below hb
    clear hb
    rw [HN.out]
    go_wp2_with fail
    refine (fixed_any _ T).mono ?_
    rintro e w4 ⟨rfl, hb⟩
    go_wp2_with fail
    go_ret
    exact ⟨rfl, Bw.trans (hb.mono Bw.size)⟩

set_option maxRecDepth 100000 in
set_option maxHeartbeats 2000000 in
theorem letters_z (a b : Int) (ma mb A B : Nat) (S U N : List UInt8) (w : World) (T : Tabs w) (Ha : Hid (cCut a = ma)) (Hb : Hid (cCut b = mb)) (HA : Hid (max (1 : Int) ma = A)) (HB : Hid (max (1 : Int) mb = B)) (ha9 : A ≤ 999999) (hb9 : B ≤ 999999) (hA1 : 1 ≤ A) (hB1 : 1 ≤ B)
    (HS : Hid (cTextN A 3 = S)) (HU : Hid (cTextN B 3 = U)) (HN : Hid (cText ((A : Int) + 1) 3 = N)) (hS1 : 1 ≤ S.length) (hU1 : 1 ≤ U.length) (hN1 : 1 ≤ N.length) (hS9 : S.length ≤ 1000) (hU9 : U.length ≤ 1000) (hN9 : N.length ≤ 1000)
    (key : (B ≤ A) ∨ (A < B ∧ S.length < U.length) ∨ (A < B ∧ S.length ≤ U.length ∧ ((S.length : Int) == (U.length : Int)) = true ∧ Op.bytesLess S U = true))
    (q9 : ((A : Int) == 999999) = false) (qz : (((({ data := S.toArray } : ByteArray)[S.length - 1]'(by show S.length - 1 < S.length; omega)).toNat : Int) != 122) = false)
    (qa : (((({ data := N.toArray } : ByteArray)[N.length - 1]'(by show N.length - 1 < N.length; omega)).toNat : Int) == 97) = true) (ql : N.length = S.length ∨ N.length = S.length + 1) :
    Calls Tryd.prog 6 #[.int .i64 a, .int .i64 b] w fun e w' => e = .returned (.bool true) ∧ Below w.heap.size w w' := by
  rcases ql with ql | ql
  · have q1 : ((N.length : Int) == (S.length : Int)) = true := by rw [beq_iff_eq]; omega
    have QL := Lib.hid ql
    clear ql
    have Bw : Below w.heap.size w w := Below.refl _ _
    go_enter Tryd.func6, Tryd.ntmps6
    go_wp2_with fail
    refine (cut_natL a ma _ Ha.out).mono ?_
    rintro e w' ⟨rfl, rfl⟩
    go_wp2_with fail
    rw [HA.out]
    refine (cut_natL b mb _ Hb.out).mono ?_
    rintro e w' ⟨rfl, rfl⟩
    go_wp2_with fail
    rw [HB.out]
    refine (text_natL A 3 S _ T ha9 HS.out).mono ?_
    rintro e w1 ⟨rfl, hb⟩
    replace Bw := Bw.trans (hb.mono Bw.size)
    replace T := T.below hb
    clear hb
    go_wp2_with fail
    refine (text_natL B 3 U _ T hb9 HU.out).mono ?_
    rintro e w2 ⟨rfl, hb⟩
    replace Bw := Bw.trans (hb.mono Bw.size)
    replace T := T.below hb
    clear hb
    rcases key with k1 | ⟨k1, k2⟩ | ⟨k1, k2, k3, k4⟩
    all_goals
      go_wp2_with fail
      refine (text_any ((A : Int) + 1) 3 _ T).mono ?_
      rintro e w3 ⟨rfl, hb⟩
      replace Bw := Bw.trans (hb.mono Bw.size)
      replace T := T.below hb
      clear hb
      rw [HN.out]
      go_wp2_with fail
      refine (fixed_any _ T).mono ?_
      rintro e w4 ⟨rfl, hb⟩
      go_wp2_with fail
      go_ret
      exact ⟨rfl, Bw.trans (hb.mono Bw.size)⟩
  · have q1 : ((N.length : Int) == (S.length : Int)) = false := by rw [beq_eq_false_iff_ne]; omega
    have q2 : ((N.length : Int) == (S.length : Int) + 1) = true := by rw [beq_iff_eq]; omega
    have QL := Lib.hid ql
    clear ql
    have Bw : Below w.heap.size w w := Below.refl _ _
    go_enter Tryd.func6, Tryd.ntmps6
    go_wp2_with fail
    refine (cut_natL a ma _ Ha.out).mono ?_
    rintro e w' ⟨rfl, rfl⟩
    go_wp2_with fail
    rw [HA.out]
    refine (cut_natL b mb _ Hb.out).mono ?_
    rintro e w' ⟨rfl, rfl⟩
    go_wp2_with fail
    rw [HB.out]
    refine (text_natL A 3 S _ T ha9 HS.out).mono ?_
    rintro e w1 ⟨rfl, hb⟩
    replace Bw := Bw.trans (hb.mono Bw.size)
    replace T := T.below hb
    clear hb
    go_wp2_with fail
    refine (text_natL B 3 U _ T hb9 HU.out).mono ?_
    rintro e w2 ⟨rfl, hb⟩
    replace Bw := Bw.trans (hb.mono Bw.size)
    replace T := T.below hb
    clear hb
    rcases key with k1 | ⟨k1, k2⟩ | ⟨k1, k2, k3, k4⟩
    all_goals
      go_wp2_with fail
      refine (text_any ((A : Int) + 1) 3 _ T).mono ?_
      rintro e w3 ⟨rfl, hb⟩
      replace Bw := Bw.trans (hb.mono Bw.size)
      replace T := T.below hb
      clear hb
      rw [HN.out]
      go_wp2_with fail
      refine (fixed_any _ T).mono ?_
      rintro e w4 ⟨rfl, hb⟩
      go_wp2_with fail
      go_ret
      exact ⟨rfl, Bw.trans (hb.mono Bw.size)⟩
end Go.Proofs.YtglhcnhenhfkiaaDoor

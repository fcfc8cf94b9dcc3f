/-
  The walk of CountLetters where the last letter is turned on: it returns true; the tables lie in memory; old memory stays as it was.
-/
import Derived.Test.YtglhcnhenhfkiaaDoorLet
import Derived.IntWalk
namespace Go.Proofs.YtglhcnhenhfkiaaDoor
open Go.RowKit Go.Sort
theorem below_drew (w : World) : Below w.heap.size w w.drew := ⟨rfl, rfl, rfl, Nat.le_refl _, fun _ _ => rfl⟩
set_option maxRecDepth 100000 in
set_option maxHeartbeats 2000000 in
theorem letters_turn (a b : Int) (ma mb A B : Nat) (S U N : List UInt8) (w : World) (T : Tabs w) (Ha : Hid (cCut a = ma)) (Hb : Hid (cCut b = mb)) (HA : Hid (max (1 : Int) ma = A)) (HB : Hid (max (1 : Int) mb = B)) (ha9 : A ≤ 999999) (hb9 : B ≤ 999999) (hA1 : 1 ≤ A) (hB1 : 1 ≤ B)
    (HS : Hid (cTextN A 3 = S)) (HU : Hid (cTextN B 3 = U)) (HN : Hid (cText ((A : Int) + 1) 3 = N)) (hS1 : 1 ≤ S.length) (hU1 : 1 ≤ U.length) (hN1 : 1 ≤ N.length) (hS9 : S.length ≤ 1000) (hU9 : U.length ≤ 1000) (hN9 : N.length ≤ 1000)
    (key : (B ≤ A) ∨ (A < B ∧ S.length < U.length) ∨ (A < B ∧ S.length ≤ U.length ∧ ((S.length : Int) == (U.length : Int)) = true ∧ Op.bytesLess S U = true))
    (q9 : ((A : Int) == 999999) = false) (qz : (((({ data := S.toArray } : ByteArray)[S.length - 1]'(by show S.length - 1 < S.length; omega)).toNat : Int) != 122) = true)
    (hlen : N.length ≤ S.length) (hlen' : S.length ≤ N.length) (q1 : ((N.length : Int) == (S.length : Int)) = true)
    (qp : (({ data := N.toArray } : ByteArray).extract 0 (S.length - 1)).toList = (({ data := S.toArray } : ByteArray).extract 0 (S.length - 1)).toList)
    (qs : IntKind.u8.wrap (((({ data := S.toArray } : ByteArray)[S.length - 1]'(by show S.length - 1 < S.length; omega)).toNat : Int) + 1) = ((({ data := N.toArray } : ByteArray)[S.length - 1]'(by show S.length - 1 < N.length; omega)).toNat : Int)) :
    Calls Tryd.prog 6 #[.int .i64 a, .int .i64 b] w fun e w' => e = .returned (.bool true) ∧ Below w.heap.size w w' := by
  have f1 : (0 : Int) ≤ (S.length : Int) - 1 := by omega
  have f2 : (S.length : Int) - 1 ≤ (N.length : Int) := by omega
  have f3 : ((S.length : Int) - 1).toNat = S.length - 1 := by omega
  have f5 : (S.length : Int) - 1 ≤ (S.length : Int) := by omega
  have f6 : (S.length : Int) - 1 < (S.length : Int) := by omega
  have f7 : (S.length : Int) - 1 < (N.length : Int) := by omega
  have f8 : S.length - 1 < S.length := by omega
  have f9 : S.length - 1 < N.length := by omega
  have f4 : S.length - 1 ≤ N.length := by omega
  have Bw : Below w.heap.size w w := Below.refl _ _
  go_enter Tryd.func6, Tryd.ntmps6
  go_wp2_with fail
  refine (cut_natL a ma _ Ha.out).mono ?_
  rintro e w' ⟨rfl, rfl⟩
  go_wp2_with fail
  rw [HA.out]
  refine (cut_natL b mb _ Hb.out).mono ?_
  rintro e w' ⟨rfl, rfl⟩
  go_wp2_with fail
  rw [HB.out]
  refine (text_natL A 3 S _ T ha9 HS.out).mono ?_
  rintro e w1 ⟨rfl, hb⟩
  replace Bw := Bw.trans (hb.mono Bw.size)
  replace T := T.below hb
  clear hb
  go_wp2_with fail
  refine (text_natL B 3 U _ T hb9 HU.out).mono ?_
  rintro e w2 ⟨rfl, hb⟩
  replace Bw := Bw.trans (hb.mono Bw.size)
  replace T := T.below hb
  clear hb
  rcases key with k1 | ⟨k1, k2⟩ | ⟨k1, k2, k3, k4⟩
  all_goals
    go_wp2_with fail
    refine (text_any ((A : Int) + 1) 3 _ T).mono ?_
    rintro e w3 ⟨rfl, hb⟩
    replace Bw := Bw.trans (hb.mono Bw.size)
    replace T := T.below hb
    clear hb
    rw [HN.out]
    go_wp2_with fail
    have f0 : IntKind.i64.wrap ((S.length : Int) - 1) = (S.length : Int) - 1 := IntWalk.i64_in _ (by omega)
    go_still_tail 33, (by kernel_rfl)
    change wpList _ _ _ _ _ w3.drew
    replace Bw := Bw.trans ((below_drew w3).mono Bw.size)
    replace T := T.below (below_drew w3)
    generalize w3.drew = w5 at *
    clear f0
    go_wp2_with fail
    refine (fixed_any _ T).mono ?_
    rintro e w4 ⟨rfl, hb⟩
    go_wp2_with fail
    go_ret
    exact ⟨rfl, Bw.trans (hb.mono Bw.size)⟩
end Go.Proofs.YtglhcnhenhfkiaaDoor

/-
  The walk of CountAdds: for every three ints it returns true; the tables lie in memory; old memory stays as it was.
-/
import Derived.Test.YtglhcnhenhfkiaaDoorT7
namespace Go.Proofs.YtglhcnhenhfkiaaDoor
open Go.RowKit Go.Sort

theorem cAdd_comm (a b : Int) : cAdd a b = cAdd b a := by unfold cAdd; rw [Int.add_comm]
theorem cOver_comm (a b : Int) : cOver a b = cOver b a := by unfold cOver; rw [Int.add_comm]
theorem cCut_cCut (a : Int) : cCut (cCut a) = cCut a := cCut_id _ (cCut_bd a).1 (cCut_bd a).2
theorem cut_sum (x y : Int) (hx : 0 ≤ x) (hy : 0 ≤ y) : cCut (x + y) = if 999999 < x + y then 999999 else x + y := by
  unfold cCut; rw [if_neg (by omega)]
theorem cAdd_assoc (a b c : Int) : cAdd (cAdd a b) c = cAdd a (cAdd b c) := by
  have ha := cCut_bd a
  have hb := cCut_bd b
  have hc := cCut_bd c
  unfold cAdd
  rw [cCut_cCut, cCut_cCut]
  generalize cCut a = x at *
  generalize cCut b = y at *
  generalize cCut c = z at *
  rw [cut_sum x y (by omega) (by omega), cut_sum y z (by omega) (by omega)]
  split <;> split
  · rw [cut_sum _ _ (by omega) (by omega), cut_sum _ _ (by omega) (by omega)]; repeat' split
    all_goals omega
  · rw [cut_sum _ _ (by omega) (by omega), cut_sum _ _ (by omega) (by omega)]; repeat' split
    all_goals omega
  · rw [cut_sum _ _ (by omega) (by omega), cut_sum _ _ (by omega) (by omega)]; repeat' split
    all_goals omega
  · rw [cut_sum _ _ (by omega) (by omega), cut_sum _ _ (by omega) (by omega)]; repeat' split
    all_goals omega
theorem add_to (a b x : Int) (o : Bool) (w : World) (hx : cAdd a b = x) (ho : cOver a b = o) :
    Calls Tryd.prog 9 #[.int .i64 a, .int .i64 b] w fun e w' => e = .returned (.tuple #[.int .i64 x, .bool o]) ∧ w = w' := by
  subst hx; subst ho; exact add_any a b w
theorem cut_to (n x : Int) (w : World) (hx : cCut n = x) :
    Calls Tryd.prog 11 #[.int .i64 n] w fun e w' => e = .returned (.int .i64 x) ∧ w = w' := by
  subst hx; exact cut_any n w

set_option maxRecDepth 100000 in
set_option maxHeartbeats 1000000 in
theorem adds_core (a b c A B x p q : Int) (o o3 o4 o5 z : Bool) (w : World) (T : Tabs w)
    (HA : Hid (cCut a = A)) (HB : Hid (cCut b = B)) (Hx : Hid (cAdd a b = x ∧ cAdd b a = x)) (Ho : Hid (cOver a b = o ∧ cOver b a = o))
    (Hp : Hid (cAdd x c = p ∧ cAdd a q = p)) (H3 : Hid (cOver x c = o3)) (Hq : Hid (cAdd b c = q ∧ cOver b c = o4)) (H5 : Hid (cOver a q = o5)) (Hz : Hid (cAdd 999999 c = 999999 ∧ cOver 999999 c = z))
    (hA0 : 0 ≤ A) (hA : A ≤ 999999) (hB0 : 0 ≤ B) (hB : B ≤ 999999) (hAx : A ≤ x) (hBx : B ≤ x) (hx9 : x ≤ 999999)
    (hox : (o == decide (x < A + B)) = true) (hzc : (z == decide (0 < c)) = true) :
    Calls Tryd.prog 5 #[.int .i64 a, .int .i64 b, .int .i64 c] w fun e w' => e = .returned (.bool true) ∧ Below w.heap.size w w' := by
  go_enter Tryd.func5, Tryd.ntmps5
  go_wp2_with fail
  refine (add_to a b x o _ Hx.out.1 Ho.out.1).mono ?_
  rintro e w' ⟨rfl, rfl⟩
  go_wp2_with fail
  refine (add_to b a x o _ Hx.out.2 Ho.out.2).mono ?_
  rintro e w' ⟨rfl, rfl⟩
  go_wp2_with fail
  refine (add_to x c p o3 _ Hp.out.1 H3.out).mono ?_
  rintro e w' ⟨rfl, rfl⟩
  go_wp2_with fail
  refine (add_to b c q o4 _ Hq.out.1 Hq.out.2).mono ?_
  rintro e w' ⟨rfl, rfl⟩
  go_wp2_with fail
  refine (add_to a q p o5 _ Hp.out.2 H5.out).mono ?_
  rintro e w' ⟨rfl, rfl⟩
  go_wp2_with fail
  refine (cut_to 1099511627776 999999 _ (by decide)).mono ?_
  rintro e w' ⟨rfl, rfl⟩
  go_wp2_with fail
  refine (add_to 999999 c 999999 z _ Hz.out.1 Hz.out.2).mono ?_
  rintro e w' ⟨rfl, rfl⟩
  go_wp2_with fail
  refine (cut_to a A _ HA.out).mono ?_
  rintro e w' ⟨rfl, rfl⟩
  go_wp2_with fail
  refine (cut_to b B _ HB.out).mono ?_
  rintro e w' ⟨rfl, rfl⟩
  go_wp2_with fail
  refine (cut_to a A _ HA.out).mono ?_
  rintro e w' ⟨rfl, rfl⟩
  go_wp2_with fail
  refine (cut_to b B _ HB.out).mono ?_
  rintro e w' ⟨rfl, rfl⟩
  go_wp2_with fail
  refine (fixed_any _ T).mono ?_
  rintro e w' ⟨rfl, hb⟩
  go_wp2_with fail
  go_ret
  exact ⟨rfl, hb⟩
theorem adds_any (a b c : Int) (w : World) (T : Tabs w) :
    Calls Tryd.prog 5 #[.int .i64 a, .int .i64 b, .int .i64 c] w fun e w' => e = .returned (.bool true) ∧ Below w.heap.size w w' := by
  have ha := cCut_bd a
  have hb := cCut_bd b
  have hc := cCut_bd c
  have hx : cAdd a b = if 999999 < cCut a + cCut b then 999999 else cCut a + cCut b := cut_sum _ _ ha.1 hb.1
  have h9 : cCut 999999 = 999999 := by decide
  refine adds_core a b c (cCut a) (cCut b) (cAdd a b) (cAdd (cAdd a b) c) (cAdd b c) (cOver a b) _ _ _ (cOver 999999 c) w T (Lib.hid rfl) (Lib.hid rfl) (Lib.hid ⟨rfl, cAdd_comm b a⟩) (Lib.hid ⟨rfl, cOver_comm b a⟩)
    (Lib.hid ⟨rfl, (cAdd_assoc a b c).symm⟩) (Lib.hid rfl) (Lib.hid ⟨rfl, rfl⟩) (Lib.hid rfl) (Lib.hid ⟨?_, rfl⟩) ha.1 ha.2 hb.1 hb.2 ?_ ?_ (cAdd_bd a b).2 ?_ ?_
  · unfold cAdd
    rw [h9, cut_sum _ _ (by omega) hc.1]
    split <;> omega
  · rw [hx]; split <;> omega
  · rw [hx]; split <;> omega
  · unfold cOver
    rw [hx, beq_iff_eq, decide_eq_decide]
    split <;> omega
  · unfold cOver
    rw [h9, beq_iff_eq, decide_eq_decide]
    unfold cCut
    repeat' split
    all_goals omega
end Go.Proofs.YtglhcnhenhfkiaaDoor

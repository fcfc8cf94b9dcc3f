/-
  Contract of the law's fixed calls over the translation: they answer true; the tables lie in memory; old memory stays as it was.
-/
import Derived.Test.YtglhcnhenhfkiaaDoorT6
namespace Go.Proofs.YtglhcnhenhfkiaaDoor
open Go.RowKit Go.Sort
theorem ret_bool {a b : Bool} (h : a = b) : Ending.returned (.bool a) = .returned (.bool b) := by rw [h]
theorem fv0 (w : World) (T : Tabs w) : Calls Tryd.prog 15 #[.string ⟨#[97, 98]⟩, .int .i64 3] w fun e w' => e = .returned (.tuple #[.int .i64 28, .int .i64 0]) ∧ Below w.heap.size w w' :=
  (value_any [97, 98] 3 w T (by decide)).mono fun _ _ h => ⟨h.1.trans (ret_two (by decide +kernel) (by decide +kernel)), h.2⟩
theorem fv1 (w : World) (T : Tabs w) : Calls Tryd.prog 15 #[.string ⟨#[105, 118]⟩, .int .i64 1] w fun e w' => e = .returned (.tuple #[.int .i64 4, .int .i64 0]) ∧ Below w.heap.size w w' :=
  (value_any [105, 118] 1 w T (by decide)).mono fun _ _ h => ⟨h.1.trans (ret_two (by decide +kernel) (by decide +kernel)), h.2⟩
theorem fv2 (w : World) (T : Tabs w) : Calls Tryd.prog 15 #[.string ⟨#[105, 105, 105, 105]⟩, .int .i64 1] w fun e w' => e = .returned (.tuple #[.int .i64 0, .int .i64 5]) ∧ Below w.heap.size w w' :=
  (value_any [105, 105, 105, 105] 1 w T (by decide)).mono fun _ _ h => ⟨h.1.trans (ret_two (by decide +kernel) (by decide +kernel)), h.2⟩
theorem fv3 (w : World) (T : Tabs w) : Calls Tryd.prog 15 #[.string ⟨#[48, 52]⟩, .int .i64 0] w fun e w' => e = .returned (.tuple #[.int .i64 0, .int .i64 5]) ∧ Below w.heap.size w w' :=
  (value_any [48, 52] 0 w T (by decide)).mono fun _ _ h => ⟨h.1.trans (ret_two (by decide +kernel) (by decide +kernel)), h.2⟩
theorem ft0 (w : World) (T : Tabs w) : Calls Tryd.prog 13 #[.int .i64 4, .int .i64 1] w fun e w' => e = .returned (.string ⟨#[105, 118]⟩) ∧ Below w.heap.size w w' :=
  (text_any 4 1 w T).mono fun _ _ h => ⟨h.1.trans (ret_str (b := [105, 118]) (by decide +kernel)), h.2⟩
theorem ft1 (w : World) (T : Tabs w) : Calls Tryd.prog 13 #[.int .i64 1994, .int .i64 2] w fun e w' => e = .returned (.string ⟨#[77, 67, 77, 88, 67, 73, 86]⟩) ∧ Below w.heap.size w w' :=
  (text_any 1994 2 w T).mono fun _ _ h => ⟨h.1.trans (ret_str (b := [77, 67, 77, 88, 67, 73, 86]) (by decide +kernel)), h.2⟩
theorem ft2 (w : World) (T : Tabs w) : Calls Tryd.prog 13 #[.int .i64 28, .int .i64 3] w fun e w' => e = .returned (.string ⟨#[97, 98]⟩) ∧ Below w.heap.size w w' :=
  (text_any 28 3 w T).mono fun _ _ h => ⟨h.1.trans (ret_str (b := [97, 98]) (by decide +kernel)), h.2⟩
theorem ft3 (w : World) (T : Tabs w) : Calls Tryd.prog 13 #[.int .i64 0, .int .i64 1] w fun e w' => e = .returned (.string ⟨#[48]⟩) ∧ Below w.heap.size w w' :=
  (text_any 0 1 w T).mono fun _ _ h => ⟨h.1.trans (ret_str (b := [48]) (by decide +kernel)), h.2⟩
theorem ft4 (w : World) (T : Tabs w) : Calls Tryd.prog 13 #[.int .i64 703, .int .i64 3] w fun e w' => e = .returned (.string ⟨#[97, 97, 97]⟩) ∧ Below w.heap.size w w' :=
  (text_any 703 3 w T).mono fun _ _ h => ⟨h.1.trans (ret_str (b := [97, 97, 97]) (by decide +kernel)), h.2⟩
theorem ft5 (w : World) (T : Tabs w) : Calls Tryd.prog 13 #[.int .i64 120, .int .i64 0] w fun e w' => e = .returned (.string ⟨#[49, 50, 48]⟩) ∧ Below w.heap.size w w' :=
  (text_any 120 0 w T).mono fun _ _ h => ⟨h.1.trans (ret_str (b := [49, 50, 48]) (by decide +kernel)), h.2⟩
theorem fa0 (w : World) : Calls Tryd.prog 9 #[.int .i64 999990, .int .i64 9] w fun e w' => e = .returned (.tuple #[.int .i64 999999, .bool false]) ∧ w = w' :=
  (add_any 999990 9 w).mono fun _ _ h => ⟨h.1.trans (by rw [show cAdd 999990 9 = 999999 by decide, show cOver 999990 9 = false by decide]), h.2⟩
theorem fa1 (w : World) : Calls Tryd.prog 9 #[.int .i64 999990, .int .i64 10] w fun e w' => e = .returned (.tuple #[.int .i64 999999, .bool true]) ∧ w = w' :=
  (add_any 999990 10 w).mono fun _ _ h => ⟨h.1.trans (by rw [show cAdd 999990 10 = 999999 by decide, show cOver 999990 10 = true by decide]), h.2⟩
theorem fc0 (w : World) : Calls Tryd.prog 11 #[.int .i64 (-5)] w fun e w' => e = .returned (.int .i64 0) ∧ w = w' :=
  (cut_any (-5) w).mono fun _ _ h => ⟨h.1.trans (ret_int (by decide)), h.2⟩
theorem fc1 (w : World) : Calls Tryd.prog 11 #[.int .i64 1000000] w fun e w' => e = .returned (.int .i64 999999) ∧ w = w' :=
  (cut_any 1000000 w).mono fun _ _ h => ⟨h.1.trans (ret_int (by decide)), h.2⟩

set_option maxRecDepth 100000 in
set_option maxHeartbeats 1000000 in
/-- The fixed calls: each answers as the document says. -/
theorem fixed_any (w : World) (T : Tabs w) : Calls Tryd.prog 17 #[] w fun e w' => e = .returned (.bool true) ∧ Below w.heap.size w w' := by
  have B : Below w.heap.size w w := Below.refl _ _
  go_enter Tryd.func17, Tryd.ntmps17
  go_wp2_with fail
  refine (fa0 _).mono ?_
  rintro e w' ⟨rfl, rfl⟩
  go_wp2_with fail
  refine (fa1 _).mono ?_
  rintro e w' ⟨rfl, rfl⟩
  go_wp2_with fail
  refine (fv0 _ T).mono ?_
  rintro e w1 ⟨rfl, hb⟩
  replace B := B.trans (hb.mono B.size)
  replace T := T.below hb
  clear hb
  go_wp2_with fail
  refine (fv1 _ T).mono ?_
  rintro e w1 ⟨rfl, hb⟩
  replace B := B.trans (hb.mono B.size)
  replace T := T.below hb
  clear hb
  go_wp2_with fail
  refine (fv2 _ T).mono ?_
  rintro e w1 ⟨rfl, hb⟩
  replace B := B.trans (hb.mono B.size)
  replace T := T.below hb
  clear hb
  go_wp2_with fail
  refine (fv3 _ T).mono ?_
  rintro e w1 ⟨rfl, hb⟩
  replace B := B.trans (hb.mono B.size)
  replace T := T.below hb
  clear hb
  go_wp2_with fail
  refine (fc0 _).mono ?_
  rintro e w' ⟨rfl, rfl⟩
  go_wp2_with fail
  refine (fc1 _).mono ?_
  rintro e w' ⟨rfl, rfl⟩
  go_wp2_with fail
  refine (ft0 _ T).mono ?_
  rintro e w1 ⟨rfl, hb⟩
  replace B := B.trans (hb.mono B.size)
  replace T := T.below hb
  clear hb
  go_wp2_with fail
  refine (ft1 _ T).mono ?_
  rintro e w1 ⟨rfl, hb⟩
  replace B := B.trans (hb.mono B.size)
  replace T := T.below hb
  clear hb
  go_wp2_with fail
  refine (ft2 _ T).mono ?_
  rintro e w1 ⟨rfl, hb⟩
  replace B := B.trans (hb.mono B.size)
  replace T := T.below hb
  clear hb
  go_wp2_with fail
  refine (ft3 _ T).mono ?_
  rintro e w1 ⟨rfl, hb⟩
  replace B := B.trans (hb.mono B.size)
  replace T := T.below hb
  clear hb
  go_wp2_with fail
  refine (ft4 _ T).mono ?_
  rintro e w1 ⟨rfl, hb⟩
  replace B := B.trans (hb.mono B.size)
  replace T := T.below hb
  clear hb
  go_wp2_with fail
  refine (ft5 _ T).mono ?_
  rintro e w1 ⟨rfl, hb⟩
  replace B := B.trans (hb.mono B.size)
  replace T := T.below hb
  clear hb
  go_wp2_with fail
  go_ret
  exact ⟨rfl, B⟩
end Go.Proofs.YtglhcnhenhfkiaaDoor

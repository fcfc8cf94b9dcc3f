/-
  The contract of a mark's text.
-/
import Derived.Test.YtmggpockikcjjaaGreatDoorSB
import Derived.Deep.RegionHeld3
import Derived.BigRegion
namespace Go.Proofs.YtmggpockikcjjaaGreatDoor
open Go.RowKit

set_option maxRecDepth 100000 in
set_option maxHeartbeats 4000000 in
theorem text_any (h k : Nat) (w : World) (T : Tabs w) (h1 : h ≤ 1) (hk : k ≤ 2047) :
    Calls Tryz.prog 44 #[.agg #[.int .i64 h, .int .i64 k]] w fun e w' => e = .returned (.string ⟨(mkT h k).toArray⟩) ∧ Below w.heap.size w w' := by
  have C1 := Lib.hid (fun (w : World) (T : Tabs w) => itoa_any h w T (by omega))
  have C3 := Lib.hid (fun (w : World) (T : Tabs w) => itoa_any k w T (by omega))
  have l1 := dec_len4 h (by omega)
  have l2 := dec_len4 k (by omega)
  have C2 := Lib.hid (fun (w : World) (T : Tabs w) => wput_any (Lib.decDigits h) w T (by omega))
  have C4 := Lib.hid (fun (w : World) (T : Tabs w) => wput_any (Lib.decDigits k) w T (by omega))
  have m1 := wput_short l1
  have m2 := wput_short l2
  have HE := Lib.hid (show wputL (Lib.decDigits h) ++ wputL (Lib.decDigits k) = mkT h k from rfl)
  generalize mkT h k = r at *
  generalize hph : wputL (Lib.decDigits h) = ph at *
  generalize hpk : wputL (Lib.decDigits k) = pk at *
  generalize hdh : Lib.decDigits h = dh at *
  generalize hdk : Lib.decDigits k = dk at *
  clear hph hpk hdh hdk l1 l2
  have c0 := new_fst w (.int .i64 h) (.int .i64 k) 59
  have c1 := new_snd w (.int .i64 h) (.int .i64 k) 59
  have TA := Lib.hid (T.below (bch (one_below w (.cells #[.int .i64 h, .int .i64 k] 59)) (below_drew _)))
  have HB0 := Lib.hid (bch (one_below w (.cells #[.int .i64 h, .int .i64 k] 59)) (below_drew _))
  clear T
  have p1 : ¬ 9223372036854775807 < ph.length + pk.length := by omega
  go_enter Tryz.func44, Tryz.ntmps44
  go_wp2_with fail
  go_region_held3 (fun w' => w'.cell? ⟨w.heap.size, 0, none⟩ = some (.int .i64 h) ∧ w'.cell? ⟨w.heap.size, 1, none⟩ = some (.int .i64 k))
    (first
      | go_keep
      | (go_split_ands
         refine ⟨?_, ?_⟩ <;> first | exact cell_later hba (by assumption) | exact cell_later hbb (by assumption) | exact cell_later hbc (by assumption) | exact cell_later hbd (by assumption)))
    (first
      | (go_at_call 57; (with_reducible refine (C1.out _ TA.out).mono ?_); rintro e wA ⟨rfl, hba⟩; have TB := Lib.hid (TA.out.below hba))
      | (go_at_call 38; (with_reducible refine (C2.out _ TB.out).mono ?_); rintro e wB ⟨rfl, hbb⟩; have TC := Lib.hid (TB.out.below hbb))
      | (go_at_call 57; (with_reducible refine (C3.out _ TC.out).mono ?_); rintro e wC ⟨rfl, hbc⟩; have TD := Lib.hid (TC.out.below hbc))
      | (go_at_call 38; (with_reducible refine (C4.out _ TD.out).mono ?_); rintro e wD ⟨rfl, hbd⟩))
  go_wp2
  go_ret
  refine ⟨congrArg Ending.returned ((str_app ph pk).trans (by rw [HE.out])), ?_⟩
  exact bch HB0.out (bch hba (bch hbb (bch hbc hbd)))
end Go.Proofs.YtmggpockikcjjaaGreatDoor

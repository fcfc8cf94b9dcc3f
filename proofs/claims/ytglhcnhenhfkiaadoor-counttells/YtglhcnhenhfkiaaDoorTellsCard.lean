/-
  CountTells, proved: for every two ints and every list of texts the stage's law answers true (Cut, Add, Text and Value are as the document's answer says, in all styles from -1 to 5, of at most four texts of at most 30 bytes), on the landed commit; the package-level tables are as the program's text lays them.
-/
import Derived.Test.YtglhcnhenhfkiaaDoorCards
import Derived.Test.YtglhcnhenhfkiaaDoorTie
import Derived.Test.YtglhcnhenhfkiaaDoorTells
import Derived.Test.YtglhcnhenhfkiaaDoorLaid
import Derived.SliceStrings
import Derived.ProofKit
import Derived.OpenShut
import Derived.LaidMore
import Derived.Lay
import Derived.SevenTiedAt
import Derived.Stop.Joined
namespace Go.Proofs.YtglhcnhenhfkiaaDoor
open Go.ChangeShapes Go.WideShapes Go.ChangeAt Go.RowKit

theorem tells_out : laidOutB Tryd.prog = true := by kernel_rfl
theorem tells_read {H : Type} {enc : TypeId × Value → H} {W : World} (x0 x1 : Int) {a0 : Option Addr} {len cap : Nat} (T : Tabs W) {d : DataW H} {p : List MemPlace}
    (h : DataW.Trod enc Tryd.prog W 0 (fun _ => true) true 22 (.slice a0 len cap) d p) :
    Calls Tryd.prog 3 #[.int .i64 x0, .int .i64 x1, .slice a0 len cap] W fun e w' => e = .returned (.bool true) ∧ Below W.heap.size W w' := by
  obtain ⟨fuel, hf⟩ := h
  have hf' : DataW.trod enc Tryd.prog W 0 (fun _ => true) true fuel 22 [.slice a0 len cap] = some (d, p) := by simpa [Value.cells] using hf
  rcases open_strings Tryd.underlying22 Tryd.underlying9 cells9 hf' with ⟨hcs, _⟩ | ⟨a, len', cap', ss, hcs, _, hl, hm, hz, _, hcell, hws⟩
  · simp only [List.cons.injEq, Value.slice.injEq, and_true] at hcs
    obtain ⟨rfl, rfl, rfl⟩ := hcs
    exact tells_none x0 x1 none 0 W T
  · simp only [List.cons.injEq, Value.slice.injEq, and_true] at hcs
    obtain ⟨rfl, rfl, rfl⟩ := hcs
    simp only [if_true] at hz
    unfold maxLen at hm
    by_cases h0 : len = 0
    · subst h0
      exact tells_none x0 x1 (some a) cap W T
    · obtain ⟨b, o, sp⟩ := a
      have hs0 := hcell 0 (by omega)
      obtain rfl : sp = none := cell_spot (b := b) (o := o) (by simpa [Addr.add] using hs0)
      refine tells_some x0 x1 b o len cap (fun i => ss.getD i ByteArray.empty) W T (Lib.hid fun i hi => ?_) (by omega) (fun i => ?_)
      · have := hcell i (by omega)
        rw [show (⟨b, o, none⟩ : Addr).add i = ⟨b, o + i, none⟩ by by_cases h : i = 0 <;> simp [Addr.add, h]] at this
        exact this
      · by_cases hi : i < ss.length
        · have hm2 := hws (ss[i]) (List.getElem_mem hi)
          unfold maxLen at hm2
          show (ss.getD i ByteArray.empty).size ≤ _
          rw [← List.getElem_eq_getD (h := hi)]
          omega
        · show (ss.getD i ByteArray.empty).size ≤ _
          rw [show ss.getD i ByteArray.empty = ByteArray.empty by simp [List.getD, List.getElem?_eq_none (show ss.length ≤ i by omega)]]
          decide

theorem countTells_own : ownKnob Tryd.prog.godebug = none := by kernel_rfl
set_option maxRecDepth 100000 in
theorem countTells_lifted (os : Os) (started : os.Started) (H : Type) (enc : TypeId × Value → H) :
    ReturnsInHanded {} Tryd.checked os 3 .any (fun w args => (Rows.countTellsSpec.pre enc Tryd.prog Tryd.f3 Rows.countTellsRow.domain false w args ∧ laidMetH Tryd.prog Rows.countTellsRow.laid w) ∧ sizedMet enc Tryd.prog Tryd.f3 (OpenSpec.ofChange Rows.countTellsSpec) false w args)
      (Rows.countTellsSpec.post enc Tryd.prog Tryd.f3 false true false false) := by
  refine returnsInHanded_of_change_and (C := Tryd.checked) (X := fun w _ => laidMetH Tryd.prog Rows.countTellsRow.laid w) (fun _ _ _ hh h => h.of_heap hh) countTells_own started (by kernel_rfl) Tryd.func3
    (ChangeSpec.witness_shaped (enc := enc) (C := Tryd.checked) (os := os) (X := fun w _ => laidMetH Tryd.prog Rows.countTellsRow.laid w) false (World.laidAll Tryd.prog os Rows.countTellsRow.laid) #[.int .i64 0, .int .i64 0, .slice none 0 0] 8 (World.laidAll_os _ _ _)
      (World.shaped_of_ZipB (by kernel_rfl) (by kernel_rfl)) (by kernel_rfl) (by kernel_rfl) (by kernel_rfl)
      (by rw [MakeChecks.laidMetH_plain _ _ _ (by kernel_rfl)]; exact laidMet_laidAll _ (by kernel_rfl) (by kernel_rfl))) ?_
  intro W base args ds gs before hval0 hW _ _ hL _
  have hval : ∀ (j : Nat) t v, Tryd.f3.params[j]? = some t → args[j]? = some v → Value.okWide Tryd.prog W .any base t v := hval0
  have hW' := hW
  obtain ⟨p, q, hA0, hV, rfl, _, _⟩ := hW
  have hA : DataW.TrodAll enc Tryd.prog W 0 (fun _ => true) true Tryd.f3.params.toList args.toList ds p := hA0
  rw [Tryd.params3] at hA hval
  obtain ⟨v0, v1, v2, d0, d1, d2, p0, p1, p2, rfl, rfl, rfl, h0, h1, h2⟩ := trodAll_three hA
  obtain ⟨rfl, rfl⟩ := trodVars_none hV
  obtain ⟨x0, rfl, rfl, rfl, w0⟩ := open_int Tryd.underlying3 (hval 0 3 v0 rfl rfl) h0
  obtain ⟨x1, rfl, rfl, rfl, w1⟩ := open_int Tryd.underlying3 (hval 1 3 v1 rfl rfl) h1
  obtain ⟨a0, len, cap, rfl⟩ := okWide_slice Tryd.underlying22 (hval 2 22 v2 rfl rfl)
  simp only [List.append_nil, List.nil_append] at hW'
  have hlt : ∀ x ∈ p2, x.block < W.heap.size := fun x hx => by simpa using hW'.lt x hx
  rw [MakeChecks.laidMetH_plain _ _ _ (by kernel_rfl)] at hL
  have T : Tabs W := tabs_of_laid hL
  refine (tells_read x0 x1 T h2).mono fun e W' ⟨he, hb⟩ => ?_
  subst he
  exact ⟨_, rfl, _, _, _, [], _, [], hW', trodAll_mk1 (shut_bool Tryd.underlying4 _), trodAll_mk3 (shut_int Tryd.underlying3 w0) (shut_int Tryd.underlying3 w1) (Below.trod tells_out (by kernel_rfl) (of_decide_eq_true (by kernel_rfl)) h2 hb hlt), rfl, hb.frame _, fun h => by cases h⟩

theorem countTells_holds : Rows.CountTellsSaid :=
  OpenClaim.holds_of_wide 3 Tryd.f3 rfl rfl rfl rfl rfl rfl rfl ⟨rfl, rfl, rfl, rfl, rfl⟩ rfl rfl rfl rfl rfl (by kernel_rfl) Tryd.func3 (by kernel_rfl)
    (of_decide_eq_true (by kernel_rfl)) (by unfold Func.isWrapper; first | (rw [if_pos (by decide +kernel)]; kernel_rfl) | (rw [if_neg (by decide +kernel)]; exact ⟨rfl, rfl⟩))
    (fun os started H enc _ => countTells_lifted os started H enc)
/-- THE CARD. -/
theorem countTells_card : Rows.CountTellsCardSaid :=
  Claim7.holds_tied_plain_at .later [] _ _ _ _ countTells_holds (fun _ h => by cases h) (by kernel_rfl) (fun _ h => by cases h) countTells_row_tie rfl ⟨rfl, rfl⟩ (by kernel_rfl) rfl
    (fun f fn hf hfn => by
      obtain rfl : f = 3 := Option.some.inj ((show Tryd.prog.funcNamed "stet/stetlaw01.CountTells" = some 3 by kernel_rfl).symm.trans hf) |>.symm
      obtain rfl : fn = Tryd.f3 := (Option.some.inj (Tryd.func3.symm.trans hfn)).symm
      exact ⟨by kernel_rfl, fun j t ht => by
        rw [Tryd.params3] at ht
        have hm : t ∈ [3, 22] := by simpa using Array.mem_of_getElem? ht
        have hall : ([3, 22].all fun u => !Tryd.prog.wantsStandIn u) = true := by kernel_rfl
        exact (show Tryd.prog.wantsStandIn t = false by simpa using List.all_eq_true.1 hall t hm)⟩)
    (by kernel_rfl)
#print axioms countTells_card
end Go.Proofs.YtglhcnhenhfkiaaDoor

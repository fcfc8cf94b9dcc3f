/-
  Contracts of files.wrong, files.Right and the document's answer's Right: plain functions of what they read; old memory stays.
-/
import Derived.Test.YtmggpockikcjjaaGreatDoorY
namespace Go.Proofs.YtmggpockikcjjaaGreatDoor
open Go.RowKit

theorem wrE_name {f : Fl} (h : nmOk f.1 = false) : (2 : Int) = wrE f := by unfold wrE; rw [if_pos h]
theorem wrE_text {f : Fl} (h : nmOk f.1 = true) (k : 4000 < f.2.length) : (3 : Int) = wrE f := by unfold wrE; rw [if_neg (by simp [h]), if_pos k]
theorem wrE_fine {f : Fl} (h : nmOk f.1 = true) (k : ¬ 4000 < f.2.length) : (0 : Int) = wrE f := by unfold wrE; rw [if_neg (by simp [h]), if_neg k]
set_option maxHeartbeats 400000 in
theorem wrong_any (f : Fl) (w : World) (h1 : f.1.length ≤ 9223372036854775807) (h2 : f.2.length ≤ 9223372036854775807) :
    Calls Tryz.prog 36 #[.agg #[.string ⟨f.1.toArray⟩, .string ⟨f.2.toArray⟩]] w fun e w' => e = .returned (.int .i64 (wrE f)) ∧ Below w.heap.size w w' := by
  cases hn : nmOk f.1
  · have HN := Lib.hid hn
    clear hn
    go_enter Tryz.func36, Tryz.ntmps36
    go_wp2_with fail
    refine (name_any f.1 _ h1).mono ?_
    rintro e w' ⟨rfl, rfl⟩
    rw [HN.out]
    go_wp2
    go_ret
    exact ⟨ret_int (wrE_name HN.out), one_below _ _⟩
  · have HN := Lib.hid hn
    clear hn
    by_cases h4 : 4000 < f.2.length
    · go_enter Tryz.func36, Tryz.ntmps36
      go_wp2_with fail
      refine (name_any f.1 _ h1).mono ?_
      rintro e w' ⟨rfl, rfl⟩
      rw [HN.out]
      go_wp2
      go_ret
      exact ⟨ret_int (wrE_text HN.out h4), one_below _ _⟩
    · go_enter Tryz.func36, Tryz.ntmps36
      go_wp2_with fail
      refine (name_any f.1 _ h1).mono ?_
      rintro e w' ⟨rfl, rfl⟩
      rw [HN.out]
      go_wp2
      go_ret
      exact ⟨ret_int (wrE_fine HN.out h4), one_below _ _⟩

/-- Texts whose lengths are ints. -/
def Fit (fs : List Fl) : Prop := ∀ f ∈ fs, f.1.length ≤ 9223372036854775807 ∧ f.2.length ≤ 9223372036854775807
theorem Good.fit {fs : List Fl} (h : Good fs) : Fit fs := fun f hf => by
  obtain ⟨h1, h2⟩ := wrE_ok (h.2.2 f hf)
  unfold nmOk at h1
  rw [Bool.and_eq_true] at h1
  have := of_decide_eq_true h1.1
  omega
theorem okAt_wr {fs : List Fl} {k : Nat} {f : Fl} (hf : fs[k]? = some f) (h : wrE f ≠ 0) : okAt fs k = false := by
  unfold okAt
  rw [show fs.getD k ([], []) = f by simp [List.getD, hf], Bool.and_eq_false_iff]
  left; simpa using h
theorem okAt_zero {fs : List Fl} {f : Fl} (hf : fs[0]? = some f) (h : wrE f = 0) : okAt fs 0 = true := by
  unfold okAt
  rw [show fs.getD 0 ([], []) = f by simp [List.getD, hf]]
  simp [h]
theorem okAt_succ {fs : List Fl} {k : Nat} {f g : Fl} (h0 : 0 < k) (hf : fs[k]? = some f) (hg : fs[k - 1]? = some g) (h : wrE f = 0) : okAt fs k = Op.bytesLess g.1 f.1 := by
  unfold okAt
  rw [show fs.getD k ([], []) = f by simp [List.getD, hf], show fs.getD (k - 1) ([], []) = g by simp [List.getD, hg], decide_eq_false (show ¬ k = 0 by omega), h]
  simp
theorem ok_step {fs : List Fl} {k : Nat} (h : okAt fs k = true) (hall : ∀ i, i < k → okAt fs i = true) : ∀ i, i < k + 1 → okAt fs i = true := fun i hi => by
  rcases Nat.lt_or_ge i k with q | q
  · exact hall i q
  · obtain rfl : i = k := by omega
    exact h

set_option maxRecDepth 100000 in
set_option maxHeartbeats 1000000 in
theorem right_any (A : Option Addr) (c : Nat) (fs : List Fl) (w : World) (hr : Rd w A fs) (hc : fs.length ≤ 100000) (hfit : Fit fs) :
    Calls Tryz.prog 25 #[.slice A fs.length c] w fun e w' => e = .returned (.bool (rightB fs)) ∧ Below w.heap.size w w' := by
  by_cases hl : 32 < fs.length
  · go_enter Tryz.func25, Tryz.ntmps25
    go_wp2
    go_ret
    exact ⟨ret_bool (rightB_long hl).symm, Below.refl _ _⟩
  go_enter Tryz.func25, Tryz.ntmps25
  go_wp2
  go_loopw [10] (fun i wr => ∃ k : Nat, k ≤ fs.length ∧ i = .int .i64 k ∧ (∀ i, i < k → okAt fs i = true) ∧ Below w.heap.size w wr) (fun i _ => fs.length - (intOf i).toNat)
  case atStart => exact ⟨0, Nat.zero_le _, rfl, (fun i hi => absurd hi (by omega)), Below.refl _ _⟩
  case round =>
    obtain ⟨k, hk, rfl, hall, hb⟩ := hrel
    have Hall := Lib.hid hall
    clear hall
    by_cases hlt : k < fs.length
    · obtain ⟨b, o, rfl, hcell⟩ := (hr.below hb) (by omega)
      obtain ⟨f, hf⟩ : ∃ f, fs[k]? = some f := ⟨_, List.getElem?_eq_getElem hlt⟩
      obtain ⟨c1, c2⟩ := hcell k f hf
      obtain ⟨l1, l2⟩ := hfit f (List.mem_of_getElem? hf)
      have HF := Lib.hid hf
      have HC := Lib.hid hcell
      clear hf hcell
      have b1 := one_below wr (.cells #[.string ⟨f.1.toArray⟩, .string ⟨f.2.toArray⟩] 37)
      by_cases hw : wrE f = 0
      · go_wp2_with fail
        refine (wrong_any f _ l1 l2).mono ?_
        rw [hw]
        have HW := Lib.hid hw
        clear hw
        rintro e w1 ⟨rfl, hb1⟩
        have d1 := cell_below hb1 (new_fst wr (.string ⟨f.1.toArray⟩) (.string ⟨f.2.toArray⟩) 37)
        by_cases h0 : 0 < k
        · obtain ⟨g, hg⟩ : ∃ g, fs[k - 1]? = some g := ⟨_, List.getElem?_eq_getElem (by omega)⟩
          have e1 := cell_below hb1 (cell_below b1 (HC.out (k - 1) g hg).1)
          have HG := Lib.hid hg
          clear hg
          have i1 : (0 : Int) < (k : Int) := by omega
          have i2 : (k : Int) - 1 < (fs.length : Int) := by omega
          have i3 : (0 : Int) ≤ (k : Int) - 1 := by omega
          have i4 : ((k : Int) - 1).toNat = k - 1 := by omega
          cases hlt2 : Op.bytesLess g.1 f.1
          · have HL := Lib.hid hlt2
            go_wp2_with fail
            go_quiet (fail)
            go_wp2
            go_ret
            exact ⟨ret_bool (rightB_stop hlt ((okAt_succ h0 HF.out HG.out HW.out).trans HL.out)).symm, bch hb (bch b1 (bch hb1 (drewN_below _ _)))⟩
          · have HL := Lib.hid hlt2
            go_wp2_with fail
            go_quiet (fail)
            go_wp2
            go_roundw
            case rel => exact ⟨k + 1, by omega, by go_num, ok_step ((okAt_succ h0 HF.out HG.out HW.out).trans HL.out) Hall.out, bch hb (bch b1 (bch hb1 (drewN_below _ _)))⟩
            case measure => simp [intOf]; omega
        · obtain rfl : k = 0 := by omega
          have hd : decide ((0 : Int) < ((0 : Nat) : Int)) = false := by decide
          go_wp2_with fail
          go_quiet (fail)
          go_wp2
          go_roundw
          case rel => exact ⟨1, by omega, by go_num, ok_step (okAt_zero HF.out HW.out) Hall.out, bch hb (bch b1 (bch hb1 (drewN_below _ _)))⟩
          case measure => simp [intOf]; omega
      · have HW := Lib.hid hw
        have q : (wrE f != 0) = true := by simpa using hw
        clear hw
        go_wp2_with fail
        refine (wrong_any f _ l1 l2).mono ?_
        rintro e w1 ⟨rfl, hb1⟩
        go_wp2
        go_ret
        exact ⟨ret_bool (rightB_stop hlt (okAt_wr HF.out HW.out)).symm, bch hb (bch b1 hb1)⟩
    · go_wp2
      go_ret
      exact ⟨ret_bool (rightB_end (by omega) fun i hi => Hall.out i (by omega)).symm, hb⟩

theorem rright_end {fs : List Fl} (h : ∀ i, i < fs.length → okAt fs i = true) : decide ((fs.length : Int) ≤ 32) = rightB fs := by
  unfold rightB
  rw [List.all_eq_true.2 (fun i hi => h i (by simpa using hi)), Bool.and_true]
  exact decide_eq_decide.2 (by omega)
set_option maxRecDepth 100000 in
set_option maxHeartbeats 1000000 in
theorem rright_any (A : Option Addr) (c : Nat) (fs : List Fl) (w : World) (hr : Rd w A fs) (hc : fs.length ≤ 100000) (hfit : Fit fs) :
    Calls Tryz.prog 29 #[.slice A fs.length c] w fun e w' => e = .returned (.bool (rightB fs)) ∧ ∃ n, w' = w.drewN n := by
  go_enter Tryz.func29, Tryz.ntmps29
  go_wp2
  go_loopw [3] (fun i wr => ∃ k m : Nat, k ≤ fs.length ∧ i = .int .i64 k ∧ (∀ i, i < k → okAt fs i = true) ∧ wr = w.drewN m) (fun i _ => fs.length - (intOf i).toNat)
  case atStart => exact ⟨0, 0, Nat.zero_le _, rfl, (fun i hi => absurd hi (by omega)), rfl⟩
  case round =>
    obtain ⟨k, m, hk, rfl, hall, rfl⟩ := hrel
    have Hall := Lib.hid hall
    clear hall
    by_cases hlt : k < fs.length
    · obtain ⟨b, o, rfl, hcell⟩ := hr (by omega)
      obtain ⟨f, hf⟩ : ∃ f, fs[k]? = some f := ⟨_, List.getElem?_eq_getElem hlt⟩
      obtain ⟨c1, c2⟩ := hcell k f hf
      obtain ⟨l1, l2⟩ := hfit f (List.mem_of_getElem? hf)
      have HF := Lib.hid hf
      have HC := Lib.hid hcell
      clear hf hcell
      cases hn : nmOk f.1
      · have HN := Lib.hid hn
        clear hn
        go_wp2_with fail
        refine (rname_any f.1 _ l1).mono ?_
        rintro e w1 ⟨rfl, rfl⟩
        rw [HN.out]
        go_wp2
        go_ret
        exact ⟨ret_bool (rightB_stop hlt (okAt_wr HF.out (by rw [← wrE_name HN.out]; decide))).symm, _, rfl⟩
      · have HN := Lib.hid hn
        clear hn
        by_cases h4 : 4000 < f.2.length
        · go_wp2_with fail
          refine (rname_any f.1 _ l1).mono ?_
          rintro e w1 ⟨rfl, rfl⟩
          rw [HN.out]
          go_wp2
          go_ret
          exact ⟨ret_bool (rightB_stop hlt (okAt_wr HF.out (by rw [← wrE_text HN.out h4]; decide))).symm, _, rfl⟩
        · have HW := Lib.hid (wrE_fine HN.out h4).symm
          by_cases h0 : 0 < k
          · obtain ⟨g, hg⟩ : ∃ g, fs[k - 1]? = some g := ⟨_, List.getElem?_eq_getElem (by omega)⟩
            have e1 := (HC.out (k - 1) g hg).1
            have HG := Lib.hid hg
            clear hg
            have i1 : (0 : Int) < (k : Int) := by omega
            have i2 : (k : Int) - 1 < (fs.length : Int) := by omega
            have i3 : (0 : Int) ≤ (k : Int) - 1 := by omega
            have i4 : ((k : Int) - 1).toNat = k - 1 := by omega
            have i5 : (k : Int) < (fs.length : Int) := by omega
            cases hlt2 : Op.bytesLess g.1 f.1
            · have HL := Lib.hid hlt2
              go_wp2_with fail
              refine (rname_any f.1 _ l1).mono ?_
              rintro e w1 ⟨rfl, rfl⟩
              rw [HN.out]
              go_wp2_with fail
              go_quiet (fail)
              go_wp2
              go_ret
              exact ⟨ret_bool (rightB_stop hlt ((okAt_succ h0 HF.out HG.out HW.out).trans HL.out)).symm, _, World.drewN_drewN _ _ _⟩
            · have HL := Lib.hid hlt2
              go_wp2_with fail
              refine (rname_any f.1 _ l1).mono ?_
              rintro e w1 ⟨rfl, rfl⟩
              rw [HN.out]
              go_wp2_with fail
              go_quiet (fail)
              go_wp2
              go_roundw
              case rel => exact ⟨k + 1, _, by omega, by go_num, ok_step ((okAt_succ h0 HF.out HG.out HW.out).trans HL.out) Hall.out, rfl⟩
              case measure => simp [intOf]; omega
          · obtain rfl : k = 0 := by omega
            simp only [Nat.zero_mul, Nat.add_zero] at c1 c2
            have hd : decide ((0 : Int) < ((0 : Nat) : Int)) = false := by decide
            go_wp2_with fail
            refine (rname_any f.1 _ l1).mono ?_
            rintro e w1 ⟨rfl, rfl⟩
            rw [HN.out]
            go_wp2_with fail
            go_quiet (fail)
            go_wp2
            go_roundw
            case rel => exact ⟨1, _, by omega, by go_num, ok_step (okAt_zero HF.out HW.out) Hall.out, rfl⟩
            case measure => simp [intOf]; omega
    · go_wp2
      go_ret
      exact ⟨ret_bool (rright_end fun i hi => Hall.out i (by omega)), _, rfl⟩
end Go.Proofs.YtmggpockikcjjaaGreatDoor

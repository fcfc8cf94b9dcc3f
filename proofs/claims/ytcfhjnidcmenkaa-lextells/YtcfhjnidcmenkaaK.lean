/-
  Contracts of lex.whole, lex.apart and lex.Right: whether a text could have these tokens.
-/
import Derived.Test.YtcfhjnidcmenkaaJ
import Derived.StillTailTactics
namespace Go.Proofs.Ytcfhjnidcmenkaa
open Go.RowKit

theorem quiet_left' {P : Program} {f : FuncId} {args : Array Value} {w : World} {n : Nat} {v : Value}
    (h : Calls P f args (w.drewN n) fun e w' => e = .returned v ∧ w.drewN n = w') : Calls P f args (w.drewN n) fun e w'' => e = .returned v ∧ ∃ m, w'' = w.drewN m :=
  h.mono fun _ _ ⟨he, hm⟩ => ⟨he, n, hm.symm⟩
theorem all_lead (z : By) : z.all ltr = decide ((z.takeWhile ltr).length = z.length) := by
  rw [Bool.eq_iff_iff, decide_eq_true_eq]
  constructor
  · intro h
    have := take_ltr (u := []) h rfl
    rw [List.append_nil] at this
    rw [this.1]
  · intro h
    have h2 := (take_lead z).1
    rw [h, List.take_length] at h2
    rw [h2]; exact all_take ltr z
/-- What may be, by kinds. -/
theorem may_word (z : By) : mayB (1, z) = !z.isEmpty := by
  unfold mayB; cases z <;> simp
theorem may_cmd (z : By) : mayB (4, z) = (z.all ltr && !z.isEmpty) := by
  unfold mayB; cases z <;> simp
theorem may_par (z : By) : mayB (7, z) = (decide (z.length = 1) && z.all dgt) := by
  unfold mayB; simp
theorem may_gap (k : Int) (z : By) (h : k = 2 ∨ k = 3 ∨ k = 5 ∨ k = 6) : mayB (k, z) = z.isEmpty := by
  unfold mayB; rcases h with rfl | rfl | rfl | rfl <;> simp
theorem may_none (k : Int) (z : By) (h : k ≠ 1 ∧ k ≠ 2 ∧ k ≠ 3 ∧ k ≠ 4 ∧ k ≠ 5 ∧ k ≠ 6 ∧ k ≠ 7) : mayB (k, z) = false := by
  obtain ⟨h1, h2, h3, h4, h5, h6, h7⟩ := h
  unfold mayB; simp [h1, h2, h3, h4, h5, h6, h7]
theorem str_emp (z : By) : (⟨z.toArray⟩ : ByteArray).toList.isEmpty = z.isEmpty := by rw [ByteArray.toList_eq]
set_option maxHeartbeats 2000000 in
theorem whole_any (k : Int) (z : By) (w : World) (hz : z.length ≤ 100000) :
    Calls Try.prog 33 #[.agg #[.int .i64 k, .string ⟨z.toArray⟩]] w fun e w' => e = .returned (.bool (mayB (k, z))) ∧ Below w.heap.size w w' := by
  have HB := Lib.hid (one_below w (.cells #[.int .i64 k, .string ⟨z.toArray⟩] 37))
  rcases kind_ways k with rfl | rfl | rfl | rfl | rfl | rfl | rfl | h
  · have HV := Lib.hid (may_word z)
    generalize mayB (1, z) = V at *
    go_enter Try.func33, Try.ntmps33
    go_wp2
    go_ret
    exact ⟨ret_bool HV.out.symm, HB.out⟩
  · have HV := Lib.hid (may_gap 2 z (by simp))
    have hq := tk_eql37 (2, z) (2, [])
    have HE := Lib.hid (show decide (((2 : Int), z) = (2, [])) = z.isEmpty by cases z <;> simp)
    rw [HE.out] at hq
    generalize mayB (2, z) = V at *
    generalize z.isEmpty = e at *
    clear HE
    go_enter Try.func33, Try.ntmps33
    go_wp2
    go_ret
    exact ⟨ret_bool HV.out.symm, HB.out⟩
  · have HV := Lib.hid (may_gap 3 z (by simp))
    have hq := tk_eql37 (3, z) (3, [])
    have HE := Lib.hid (show decide (((3 : Int), z) = (3, [])) = z.isEmpty by cases z <;> simp)
    rw [HE.out] at hq
    generalize mayB (3, z) = V at *
    generalize z.isEmpty = e at *
    clear HE
    go_enter Try.func33, Try.ntmps33
    go_wp2
    go_ret
    exact ⟨ret_bool HV.out.symm, HB.out⟩
  · have HV := Lib.hid (may_cmd z)
    generalize mayB (4, z) = V at *
    cases hv : z.isEmpty
    · have hq : (((z.takeWhile ltr).length : Int) == (z.length : Int)) = z.all ltr := by
        rw [all_lead, Bool.eq_iff_iff]; simp; omega
      have C := Lib.hid (fun w => letters_any ⟨z.toArray⟩ w (by show z.length ≤ _; omega))
      rw [show (⟨z.toArray⟩ : ByteArray).data.toList = z from rfl] at C
      rw [hv] at HV
      have HV2 := Lib.hid (show z.all ltr = V by rw [HV.out]; simp)
      generalize (z.takeWhile ltr).length = n at *
      generalize z.all ltr = v at *
      clear HV
      have q0 : (!z.isEmpty) = true := by rw [hv]; rfl
      go_enter Try.func33, Try.ntmps33
      go_wp2_with fail
      go_quiet ((go_at_call 40; exact quiet_left' (C.out _)))
      go_wp2
      go_ret
      exact ⟨ret_bool HV2.out, HB.out.trans ⟨rfl, rfl, rfl, Nat.le_refl _, fun _ _ => rfl⟩⟩
    · rw [hv] at HV
      have HV2 := Lib.hid (show false = V by rw [HV.out]; simp)
      clear HV
      have q0 : (!z.isEmpty) = false := by rw [hv]; rfl
      go_enter Try.func33, Try.ntmps33
      go_wp2_with fail
      go_quiet (fail)
      go_wp2
      go_ret
      exact ⟨ret_bool HV2.out, HB.out.trans ⟨rfl, rfl, rfl, Nat.le_refl _, fun _ _ => rfl⟩⟩
  · have HV := Lib.hid (may_gap 5 z (by simp))
    have hq := tk_eql37 (5, z) (5, [])
    have HE := Lib.hid (show decide (((5 : Int), z) = (5, [])) = z.isEmpty by cases z <;> simp)
    rw [HE.out] at hq
    generalize mayB (5, z) = V at *
    generalize z.isEmpty = e at *
    clear HE
    go_enter Try.func33, Try.ntmps33
    go_wp2
    go_ret
    exact ⟨ret_bool HV.out.symm, HB.out⟩
  · have HV := Lib.hid (may_gap 6 z (by simp))
    have hq := tk_eql37 (6, z) (6, [])
    have HE := Lib.hid (show decide (((6 : Int), z) = (6, [])) = z.isEmpty by cases z <;> simp)
    rw [HE.out] at hq
    generalize mayB (6, z) = V at *
    generalize z.isEmpty = e at *
    clear HE
    go_enter Try.func33, Try.ntmps33
    go_wp2
    go_ret
    exact ⟨ret_bool HV.out.symm, HB.out⟩
  · have HV := Lib.hid (may_par z)
    generalize mayB (7, z) = V at *
    by_cases h1 : z.length = 1
    · obtain ⟨d, rfl⟩ : ∃ d, z = [d] := by
        match z, h1 with
        | [d], _ => exact ⟨d, rfl⟩
      have HV2 := Lib.hid (show dgtI (d.toNat : Int) = V by rw [HV.out, ← dgt_int]; simp)
      have C := Lib.hid (fun w => digit_any (d.toNat : Int) w)
      generalize dgtI (d.toNat : Int) = v at *
      clear HV h1
      go_enter Try.func33, Try.ntmps33
      go_wp2_with fail
      refine (C.out _).mono ?_
      rintro e w' ⟨rfl, rfl⟩
      go_wp2
      go_ret
      exact ⟨ret_bool HV2.out, HB.out⟩
    · have HV2 := Lib.hid (show false = V by rw [HV.out]; simp [h1])
      have q : ((z.length : Int) == 1) = false := by simp; omega
      clear HV h1
      go_enter Try.func33, Try.ntmps33
      go_wp2
      go_ret
      exact ⟨ret_bool HV2.out, HB.out⟩
  · have HV := Lib.hid (may_none k z h).symm
    generalize mayB (k, z) = V at *
    obtain ⟨h1, h2, h3, h4, h5, h6, h7⟩ := h
    have d1 : (k == 1) = false := by simpa using h1
    have d2 : (k == 2) = false := by simpa using h2
    have d3 : (k == 3) = false := by simpa using h3
    have d4 : (k == 4) = false := by simpa using h4
    have d5 : (k == 5) = false := by simpa using h5
    have d6 : (k == 6) = false := by simpa using h6
    have d7 : (k == 7) = false := by simpa using h7
    clear h1 h2 h3 h4 h5 h6 h7
    go_enter Try.func33, Try.ntmps33
    go_wp2
    go_ret
    exact ⟨ret_bool HV.out, HB.out⟩
theorem next_word (b : Tok) (x : By) : nextB (1, x) b = (b.1 != 1) := by
  unfold nextB gapB; simp; cases h : (b.1 == 1) <;> simp [bne, h]
theorem next_gap (k : Int) (b : Tok) (x : By) (h : k = 2 ∨ k = 3) : nextB (k, x) b = ((b.1 != 2) && (b.1 != 3)) := by
  unfold nextB gapB
  rcases h with rfl | rfl <;> simp [bne]
theorem next_cmd (b : Tok) (x : By) : nextB (4, x) b = ((b.1 != 1) || !(hdB ltr b.2)) := by
  unfold nextB gapB; simp [bne]
theorem next_other (k : Int) (b : Tok) (x : By) (h : k ≠ 1 ∧ k ≠ 2 ∧ k ≠ 3 ∧ k ≠ 4) : nextB (k, x) b = true := by
  obtain ⟨h1, h2, h3, h4⟩ := h
  unfold nextB gapB; simp [h1, h2, h3, h4]
set_option maxHeartbeats 2000000 in
theorem apart_any (k j : Int) (z y : By) (w : World) (hz : z.length ≤ 100000) (hy : y.length ≤ 100000) (hm : mayB (j, y) = true) :
    Calls Try.prog 34 #[.agg #[.int .i64 k, .string ⟨z.toArray⟩], .agg #[.int .i64 j, .string ⟨y.toArray⟩]] w fun e w' => e = .returned (.bool (nextB (k, z) (j, y))) ∧ Below w.heap.size w w' := by
  have HB := Lib.hid (two_below w (.cells #[.int .i64 k, .string ⟨z.toArray⟩] 37) (.cells #[.int .i64 j, .string ⟨y.toArray⟩] 37))
  rcases (show k = 1 ∨ k = 2 ∨ k = 3 ∨ k = 4 ∨ (k ≠ 1 ∧ k ≠ 2 ∧ k ≠ 3 ∧ k ≠ 4) by omega) with rfl | rfl | rfl | rfl | h
  · have HV := Lib.hid (next_word (j, y) z).symm
    generalize nextB (1, z) (j, y) = V at *
    clear hm
    go_enter Try.func34, Try.ntmps34
    go_wp2
    go_ret
    exact ⟨ret_bool HV.out, HB.out⟩
  · have HV := Lib.hid (next_gap 2 (j, y) z (by simp)).symm
    generalize nextB (2, z) (j, y) = V at *
    simp only at HV
    clear hm
    cases h2 : (j != 2) <;> (
      rw [h2] at HV
      go_enter Try.func34, Try.ntmps34
      go_wp2
      go_ret
      exact ⟨ret_bool HV.out, HB.out⟩)
  · have HV := Lib.hid (next_gap 3 (j, y) z (by simp)).symm
    generalize nextB (3, z) (j, y) = V at *
    simp only at HV
    clear hm
    cases h2 : (j != 2) <;> (
      rw [h2] at HV
      go_enter Try.func34, Try.ntmps34
      go_wp2
      go_ret
      exact ⟨ret_bool HV.out, HB.out⟩)
  · have HV := Lib.hid (next_cmd (j, y) z).symm
    generalize nextB (4, z) (j, y) = V at *
    simp only at HV
    by_cases h1 : j = 1
    · subst h1
      rw [may_word] at hm
      have h0 : 0 < (⟨y.toArray⟩ : ByteArray).size := by
        show 0 < y.length
        cases y <;> simp at hm ⊢
      have hh : hdB ltr y = ltrI ((⟨y.toArray⟩ : ByteArray)[0].toNat : Int) := by
        rw [← ltr_int]; exact hd_yes ltr ⟨y.toArray⟩ 0 h0
      obtain ⟨x, hx⟩ : ∃ x : Int, ((⟨y.toArray⟩ : ByteArray)[0].toNat : Int) = x := ⟨_, rfl⟩
      rw [hh, hx] at HV
      have C := Lib.hid (fun w => letter_any x w)
      generalize ltrI x = v at *
      clear hm hh
      go_enter Try.func34, Try.ntmps34
      go_wp2_with fail
      refine (C.out _).mono ?_
      rintro e w' ⟨rfl, rfl⟩
      go_wp2
      go_ret
      exact ⟨ret_bool HV.out, HB.out⟩
    · have q : (j != 1) = true := by simpa using h1
      have q' : (j == 1) = false := by simpa using h1
      rw [q] at HV
      have HV2 := Lib.hid (show true = V by rw [← HV.out]; rfl)
      clear hm h1 HV
      go_enter Try.func34, Try.ntmps34
      go_wp2
      go_ret
      exact ⟨ret_bool HV2.out, HB.out⟩
  · have HV := Lib.hid (next_other k (j, y) z h).symm
    generalize nextB (k, z) (j, y) = V at *
    obtain ⟨h1, h2, h3, h4⟩ := h
    have d1 : (k == 1) = false := by simpa using h1
    have d2 : (k == 2) = false := by simpa using h2
    have d3 : (k == 3) = false := by simpa using h3
    have d4 : (k == 4) = false := by simpa using h4
    clear h1 h2 h3 h4 hm
    go_enter Try.func34, Try.ntmps34
    go_wp2
    go_ret
    exact ⟨ret_bool HV.out, HB.out⟩
end Go.Proofs.Ytcfhjnidcmenkaa

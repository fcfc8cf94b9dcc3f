/-
  Contracts of the document's own answers: Text, gaps, May.
-/
import Derived.Test.YtcfhjnidcmenkaaT
namespace Go.Proofs.Ytcfhjnidcmenkaa
open Go.RowKit

set_option maxRecDepth 100000 in
set_option maxHeartbeats 4000000 in
theorem rtext_any (A : Option Addr) (c : Nat) (ts : List Tok) (w : World) (hr : Rd w A ts) (hm : Hid (Mild ts)) (hl : ts.length ≤ 20000) :
    Calls Try.prog 15 #[.slice A ts.length c] w fun e w' => e = .returned (.string ⟨(textL ts).toArray⟩) ∧ w = w' := by
  go_enter Try.func15, Try.ntmps15
  go_wp2
  go_loop [3, 4] (fun v i => ∃ (k : Nat) (l : By), k ≤ ts.length ∧ i = .int .i64 k ∧ v = .string ⟨l.toArray⟩ ∧ Hid (textL (ts.take k) = l) ∧ l.length ≤ 4100 * k) (fun _ i => ts.length - (intOf i).toNat)
  case atStart => exact ⟨0, [], Nat.zero_le _, rfl, rfl, Lib.hid rfl, by simp⟩
  case round =>
    obtain ⟨k, l, hk, rfl, rfl, HL, hll⟩ := hrel
    by_cases hlt : k < ts.length
    · obtain ⟨b, o, rfl, hcell⟩ := hr (by omega)
      obtain ⟨f, hf⟩ : ∃ f, ts[k]? = some f := ⟨_, List.getElem?_eq_getElem hlt⟩
      obtain ⟨c1, c2⟩ := hcell k f hf
      have hz := hm.out f (List.mem_of_getElem? hf)
      have hst := text_step hf
      have htl := tokT_len f hz
      rw [HL.out] at hst
      obtain ⟨κ, z⟩ := f
      simp only at c1 c2 hz
      obtain ⟨m, hmm⟩ : ∃ m, l ++ tokT (κ, z) = m := ⟨_, rfl⟩
      rw [hmm] at hst
      have HN := Lib.hid hst
      have hml : m.length ≤ 4100 * (k + 1) := by rw [← hmm, List.length_append]; omega
      have i1 : (k : Int) < (ts.length : Int) := by omega
      have hll2 : l.length ≤ 90000000 := by omega
      clear hf hcell hst htl HL hll
      rcases kind_ways κ with rfl | rfl | rfl | rfl | rfl | rfl | rfl | hκ
      · have C1 := Lib.hid (fun w => rsafe_any ⟨z.toArray⟩ w hz)
        rw [show (⟨z.toArray⟩ : ByteArray).data.toList = z from rfl] at C1
        have HM := Lib.hid (str_app (show l ++ safeL z = m from hmm))
        have hpl : (safeL z).length ≤ 4000 := by have := safe_len z; omega
        generalize safeL z = p at *
        clear hmm
        go_wp2_with fail
        refine (C1.out _).mono ?_
        rintro e wa ⟨rfl, rfl⟩
        clear C1
        go_wp2
        go_round
        case rel => exact ⟨k + 1, m, by omega, by go_num, HM.out, HN, hml⟩
        case measure => simp [intOf]; omega
      · have HM := Lib.hid (str_app (show l ++ [32] = m from hmm))
        clear hmm
        go_wp2
        go_round
        case rel => exact ⟨k + 1, m, by omega, by go_num, HM.out, HN, hml⟩
        case measure => simp [intOf]; omega
      · have HM := Lib.hid (str_app (show l ++ [10, 10] = m from hmm))
        clear hmm
        go_wp2
        go_round
        case rel => exact ⟨k + 1, m, by omega, by go_num, HM.out, HN, hml⟩
        case measure => simp [intOf]; omega
      · have HM := Lib.hid (show Value.string (({ data := l.toArray } : ByteArray) ++ ({ data := ([92] : By).toArray } ++ { data := z.toArray })) = Value.string { data := m.toArray } from str_app (a := l) (b := 92 :: z) hmm)
        clear hmm
        go_wp2
        go_round
        case rel => exact ⟨k + 1, m, by omega, by go_num, HM.out, HN, hml⟩
        case measure => simp [intOf]; omega
      · have HM := Lib.hid (str_app (show l ++ [123] = m from hmm))
        clear hmm
        go_wp2
        go_round
        case rel => exact ⟨k + 1, m, by omega, by go_num, HM.out, HN, hml⟩
        case measure => simp [intOf]; omega
      · have HM := Lib.hid (str_app (show l ++ [125] = m from hmm))
        clear hmm
        go_wp2
        go_round
        case rel => exact ⟨k + 1, m, by omega, by go_num, HM.out, HN, hml⟩
        case measure => simp [intOf]; omega
      · have HM := Lib.hid (show Value.string (({ data := l.toArray } : ByteArray) ++ ({ data := ([35] : By).toArray } ++ { data := z.toArray })) = Value.string { data := m.toArray } from str_app (a := l) (b := 35 :: z) hmm)
        clear hmm
        go_wp2
        go_round
        case rel => exact ⟨k + 1, m, by omega, by go_num, HM.out, HN, hml⟩
        case measure => simp [intOf]; omega
      · obtain ⟨h1, h2, h3, h4, h5, h6, h7⟩ := hκ
        have HM := Lib.hid (show Value.string { data := l.toArray } = Value.string { data := m.toArray } by
          rw [← hmm]; unfold tokT; simp [h1, h2, h3, h4, h5, h6, h7])
        have d1 : (κ == 1) = false := by simpa using h1
        have d2 : (κ == 2) = false := by simpa using h2
        have d3 : (κ == 3) = false := by simpa using h3
        have d4 : (κ == 4) = false := by simpa using h4
        have d5 : (κ == 5) = false := by simpa using h5
        have d6 : (κ == 6) = false := by simpa using h6
        have d7 : (κ == 7) = false := by simpa using h7
        clear h1 h2 h3 h4 h5 h6 h7 hmm
        go_wp2
        go_round
        case rel => exact ⟨k + 1, m, by omega, by go_num, HM.out, HN, hml⟩
        case measure => simp [intOf]; omega
    · have hfin := HL.out
      rw [List.take_of_length_le (by omega)] at hfin
      have HF := Lib.hid hfin
      clear hfin HL
      go_wp2
      go_ret
      exact ⟨ret_eq (str_eq HF.out.symm), rfl⟩
theorem rgaps_any (k : Int) (w : World) : Calls Try.prog 36 #[.int .i64 k] w fun e w' => e = .returned (.bool (gapB k)) ∧ w = w' := by
  have HV := Lib.hid (show ((k == 2) || (k == 3)) = gapB k from rfl)
  generalize gapB k = V at *
  cases h2 : (k == 2) <;> (
    rw [h2] at HV
    go_enter Try.func36, Try.ntmps36
    go_wp2
    go_ret
    exact ⟨ret_bool HV.out, rfl⟩)
theorem all_stop (z : By) (k : Nat) (c : UInt8) (h : z[k]? = some c) (hc : ltr c = false) : z.all ltr = false := by
  cases hv : z.all ltr with
  | false => rfl
  | true =>
    rw [List.all_eq_true] at hv
    have := hv c (List.mem_of_getElem? h)
    rw [hc] at this; cases this
theorem pos_len (z : By) : decide (0 < z.length) = !z.isEmpty := by
  cases z <;> simp
set_option maxRecDepth 100000 in
set_option maxHeartbeats 4000000 in
theorem rmay_any (k : Int) (z : By) (w : World) (hz : z.length ≤ 100000) :
    Calls Try.prog 35 #[.agg #[.int .i64 k, .string ⟨z.toArray⟩]] w fun e w' => e = .returned (.bool (mayB (k, z))) ∧ Below w.heap.size w w' := by
  have HB := Lib.hid (one_below w (.cells #[.int .i64 k, .string ⟨z.toArray⟩] 40))
  have hp := pos_len z
  rcases kind_ways k with rfl | rfl | rfl | rfl | rfl | rfl | rfl | h
  · have HV := Lib.hid ((pos_len z).trans (may_word z).symm)
    generalize mayB (1, z) = V at *
    clear hp
    go_enter Try.func35, Try.ntmps35
    go_wp2
    go_ret
    exact ⟨ret_bool HV.out, HB.out⟩
  · have HV := Lib.hid (may_gap 2 z (by simp))
    generalize mayB (2, z) = V at *
    clear hp
    go_enter Try.func35, Try.ntmps35
    go_wp2
    go_ret
    exact ⟨ret_bool HV.out.symm, HB.out⟩
  · have HV := Lib.hid (may_gap 3 z (by simp))
    generalize mayB (3, z) = V at *
    clear hp
    go_enter Try.func35, Try.ntmps35
    go_wp2
    go_ret
    exact ⟨ret_bool HV.out.symm, HB.out⟩
  · have HV := Lib.hid (may_cmd z)
    generalize mayB (4, z) = V at *
    have c0 := new_fst w (.int .i64 4) (.string ⟨z.toArray⟩) 40
    have c1 := new_snd w (.int .i64 4) (.string ⟨z.toArray⟩) 40
    have HP := Lib.hid hp
    clear hp
    go_enter Try.func35, Try.ntmps35
    go_wp2
    go_loop [3] (fun i => ∃ n : Nat, n ≤ z.length ∧ i = .int .i64 n ∧ Hid ((z.take n).all ltr = true)) (fun i => z.length - (intOf i).toNat)
    case atStart => exact ⟨0, Nat.zero_le _, rfl, Lib.hid rfl⟩
    case round =>
      obtain ⟨n, hn, rfl, HA⟩ := hrel
      by_cases hlt : n < z.length
      · have hlt' : n < (ByteArray.mk z.toArray).size := hlt
        have hst : z.take (n + 1) = z.take n ++ [(ByteArray.mk z.toArray)[n]] := take_step ⟨z.toArray⟩ n hlt'
        have hat : z[n]? = some (ByteArray.mk z.toArray)[n] := List.getElem?_eq_getElem hlt
        obtain ⟨d, hd⟩ : ∃ d, (ByteArray.mk z.toArray)[n] = d := ⟨_, rfl⟩
        have hx : ((ByteArray.mk z.toArray)[n].toNat : Int) = (d.toNat : Int) := by rw [hd]
        rw [hd] at hst hat
        have hld := ltr_int d
        obtain ⟨x, hxx⟩ : ∃ x : Int, (d.toNat : Int) = x := ⟨_, rfl⟩
        rw [hxx] at hx hld
        have C := Lib.hid (fun w => rletter_any x w)
        rw [← hld] at C
        have i1 : (n : Int) < (z.length : Int) := by omega
        cases hv : ltr d
        · rw [hv] at C
          have HE := Lib.hid (show false = V by rw [HV.out, all_stop z n d hat hv]; rfl)
          clear hst hat hd hxx hld hv
          go_wp2_with fail
          refine (C.out _).mono ?_
          rintro e w' ⟨rfl, rfl⟩
          go_wp2
          go_ret
          exact ⟨ret_bool HE.out, HB.out⟩
        · rw [hv] at C
          have HN := Lib.hid (show (z.take (n + 1)).all ltr = true by rw [hst, List.all_append, HA.out]; simp [hv])
          clear hst hat hd hxx hld hv
          go_wp2_with fail
          refine (C.out _).mono ?_
          rintro e w' ⟨rfl, rfl⟩
          go_wp2
          go_round
          case rel => exact ⟨n + 1, by omega, by go_num, HN⟩
          case measure => simp [intOf]; omega
      · have hfin := HA.out
        rw [List.take_of_length_le (by omega)] at hfin
        have HE := Lib.hid (show decide (0 < z.length) = V by rw [HV.out, hfin, HP.out]; simp)
        clear hfin HA HV HP
        go_wp2
        go_ret
        exact ⟨ret_bool HE.out, HB.out⟩
  · have HV := Lib.hid (may_gap 5 z (by simp))
    generalize mayB (5, z) = V at *
    clear hp
    go_enter Try.func35, Try.ntmps35
    go_wp2
    go_ret
    exact ⟨ret_bool HV.out.symm, HB.out⟩
  · have HV := Lib.hid (may_gap 6 z (by simp))
    generalize mayB (6, z) = V at *
    clear hp
    go_enter Try.func35, Try.ntmps35
    go_wp2
    go_ret
    exact ⟨ret_bool HV.out.symm, HB.out⟩
  · have HV := Lib.hid (may_par z)
    generalize mayB (7, z) = V at *
    clear hp
    by_cases h1 : z.length = 1
    · obtain ⟨d, rfl⟩ : ∃ d, z = [d] := by
        match z, h1 with
        | [d], _ => exact ⟨d, rfl⟩
      have HV2 := Lib.hid (show dgtI (d.toNat : Int) = V by rw [HV.out, ← dgt_int]; simp)
      have C := Lib.hid (fun w => rdigit_any (d.toNat : Int) w)
      generalize dgtI (d.toNat : Int) = v at *
      clear HV h1
      go_enter Try.func35, Try.ntmps35
      go_wp2_with fail
      refine (C.out _).mono ?_
      rintro e w' ⟨rfl, rfl⟩
      go_wp2
      go_ret
      exact ⟨ret_bool HV2.out, HB.out⟩
    · have HV2 := Lib.hid (show false = V by rw [HV.out]; simp [h1])
      have q : ((z.length : Int) == 1) = false := by rw [beq_eq_false_iff_ne]; omega
      clear HV h1
      go_enter Try.func35, Try.ntmps35
      go_wp2
      go_ret
      exact ⟨ret_bool HV2.out, HB.out⟩
  · have HV := Lib.hid (may_none k z h).symm
    generalize mayB (k, z) = V at *
    clear hp
    obtain ⟨h1, h2, h3, h4, h5, h6, h7⟩ := h
    have d1 : (k == 1) = false := by simpa using h1
    have d2 : (k == 2) = false := by simpa using h2
    have d3 : (k == 3) = false := by simpa using h3
    have d4 : (k == 4) = false := by simpa using h4
    have d5 : (k == 5) = false := by simpa using h5
    have d6 : (k == 6) = false := by simpa using h6
    have d7 : (k == 7) = false := by simpa using h7
    clear h1 h2 h3 h4 h5 h6 h7
    go_enter Try.func35, Try.ntmps35
    go_wp2
    go_ret
    exact ⟨ret_bool HV.out, HB.out⟩
end Go.Proofs.Ytcfhjnidcmenkaa

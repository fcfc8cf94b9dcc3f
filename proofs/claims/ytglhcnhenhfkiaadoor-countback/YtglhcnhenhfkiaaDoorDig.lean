/-
  The walk of CountDigits: for every int it returns true; the tables lie in memory; old memory stays as it was.
-/
import Derived.Test.YtglhcnhenhfkiaaDoorT7
import Derived.Test.YtglhcnhenhfkiaaDoorV
namespace Go.Proofs.YtglhcnhenhfkiaaDoor
open Go.RowKit Go.Sort

theorem cut_nat (n : Int) (m : Nat) (w : World) (h : cCut n = m) :
    Calls Tryd.prog 11 #[.int .i64 n] w fun e w' => e = .returned (.int .i64 m) ∧ w = w' :=
  (cut_any n w).mono fun _ _ hh => ⟨hh.1.trans (ret_int h), hh.2⟩
theorem text_nat (m : Nat) (style : Int) (l : List UInt8) (w : World) (T : Tabs w) (hm : m ≤ 999999) (hl : cTextN m style = l) :
    Calls Tryd.prog 13 #[.int .i64 m, .int .i64 style] w fun e w' => e = .returned (.string ⟨l.toArray⟩) ∧ Below w.heap.size w w' :=
  (textN_any m style m w T (cCut_id _ (by omega) (by omega)) hm).mono fun _ _ hh => ⟨hh.1.trans (ret_str hl), hh.2⟩
theorem value_is (l : List UInt8) (style v e : Int) (w : World) (T : Tabs w) (hl : l.length ≤ 1000) (hv : cVal l style = v) (he : cErr l style = e) :
    Calls Tryd.prog 15 #[.string ⟨l.toArray⟩, .int .i64 style] w fun x w' => x = .returned (.tuple #[.int .i64 v, .int .i64 e]) ∧ Below w.heap.size w w' :=
  (value_any l style w T hl).mono fun _ _ hh => ⟨hh.1.trans (ret_two hv he), hh.2⟩

set_option maxRecDepth 100000 in
set_option maxHeartbeats 1000000 in
theorem digits_any (n : Int) (w : World) (T : Tabs w) :
    Calls Tryd.prog 8 #[.int .i64 n] w fun e w' => e = .returned (.bool true) ∧ Below w.heap.size w w' := by
  obtain ⟨m, hm⟩ : ∃ m : Nat, cCut n = m := ⟨(cCut n).toNat, by have := cCut_bd n; omega⟩
  have hm9 : m ≤ 999999 := by have := cCut_bd n; omega
  have HM := Lib.hid hm
  clear hm
  have HT := Lib.hid (fun style => dig_ok m style hm9)
  have HG := Lib.hid (fun style => guess_dec m style hm9)
  have hD6 : (Lib.decDigits m).length ≤ 1000 := by have := text_len m 0 hm9; rw [text_dec m 0 (by omega)] at this; omega
  have H0 := Lib.hid (text_dec m 0 (by omega))
  have HR := Lib.hid (fun (h : m = 0 ∨ (3999 < m ∧ (1 : Int) ≠ 3) ∨ (1 : Int) = 0) => text_dec m 1 h)
  have HL := Lib.hid (fun (h : m = 0 ∨ (3999 < m ∧ (3 : Int) ≠ 3) ∨ (3 : Int) = 0) => text_dec m 3 h)
  have HRn := Lib.hid (fun h1 h2 => dig_rom m h1 h2)
  have HLn := Lib.hid (fun h1 => dig_let m h1 hm9)
  generalize hD : Lib.decDigits m = D at *
  clear hD
  have B : Below w.heap.size w w := Below.refl _ _
  go_enter Tryd.func8, Tryd.ntmps8
  go_wp2_with fail
  refine (cut_nat n m _ HM.out).mono ?_
  rintro e w' ⟨rfl, rfl⟩
  go_wp2_with fail
  refine (text_nat m 0 D _ T hm9 H0.out).mono ?_
  rintro e w1 ⟨rfl, hb⟩
  replace B := B.trans (hb.mono B.size)
  replace T := T.below hb
  clear hb
  go_wp2_with fail
  go_loopw [4] (fun i wr => ∃ k : Nat, k ≤ 4 ∧ i = .int .i64 k ∧ Tabs wr ∧ Below w.heap.size w wr) (fun i _ => 4 - (intOf i).toNat)
  case atStart => exact ⟨0, by omega, rfl, T, B⟩
  case round =>
    obtain ⟨k, hk, rfl, Tr, Br⟩ := hrel
    by_cases hlt : k < 4
    · have HK := Lib.hid (HT.out (k : Int))
      have HGk := Lib.hid (HG.out (k : Int))
      generalize hl : cTextN m (k : Int) = lk at *
      have HLk := Lib.hid hl
      clear hl
      cases hq : (lk == D)
      · have HV := Lib.hid (show cVal D k = 0 by rw [cVal, HK.out, hq]; rfl)
        have HE := Lib.hid (show cErr D k = 5 by rw [cErr, HK.out, hq]; rfl)
        go_wp2_with fail
        refine (value_is D k 0 5 _ Tr hD6 HV.out HE.out).mono ?_
        rintro e w2 ⟨rfl, hb⟩
        replace Br := Br.trans (hb.mono Br.size)
        replace Tr := Tr.below hb
        clear hb
        go_wp2_with fail
        refine (text_nat m k lk _ Tr hm9 HLk.out).mono ?_
        rintro e w3 ⟨rfl, hb⟩
        replace Br := Br.trans (hb.mono Br.size)
        replace Tr := Tr.below hb
        clear hb
        go_wp2_with fail
        go_roundw
        case rel => exact ⟨k + 1, by omega, by go_num, Tr, Br⟩
        case measure => simp [intOf]; omega
      · have HV := Lib.hid (show cVal D k = m by rw [cVal, HK.out, hq, if_pos rfl, HGk.out])
        have HE := Lib.hid (show cErr D k = 0 by rw [cErr, HK.out, hq]; rfl)
        go_wp2_with fail
        refine (value_is D k m 0 _ Tr hD6 HV.out HE.out).mono ?_
        rintro e w2 ⟨rfl, hb⟩
        replace Br := Br.trans (hb.mono Br.size)
        replace Tr := Tr.below hb
        clear hb
        go_wp2_with fail
        refine (text_nat m k lk _ Tr hm9 HLk.out).mono ?_
        rintro e w3 ⟨rfl, hb⟩
        replace Br := Br.trans (hb.mono Br.size)
        replace Tr := Tr.below hb
        clear hb
        go_wp2_with fail
        go_roundw
        case rel => exact ⟨k + 1, by omega, by go_num, Tr, Br⟩
        case measure => simp [intOf]; omega
    · obtain rfl : k = 4 := by omega
      clear HT HG
      rcases (show m = 0 ∨ (1 ≤ m ∧ m ≤ 3999) ∨ 3999 < m by omega) with h0 | ⟨h1, h3⟩ | h9
      · have H1 := Lib.hid (HR.out (.inl h0))
        have H3 := Lib.hid (HL.out (.inl h0))
        have z0 : ((m : Int) == 0) = true := by rw [beq_iff_eq]; omega
        have HH := Lib.hid h0
        clear h0
        go_wp2_with fail
        refine (text_nat m 1 D _ Tr hm9 H1.out).mono ?_
        rintro e w2 ⟨rfl, hb⟩
        replace Br := Br.trans (hb.mono Br.size)
        replace Tr := Tr.below hb
        clear hb
        go_wp2_with fail
        refine (text_nat m 3 D _ Tr hm9 H3.out).mono ?_
        rintro e w3 ⟨rfl, hb⟩
        replace Br := Br.trans (hb.mono Br.size)
        replace Tr := Tr.below hb
        clear hb
        go_wp2_with fail
        refine (fixed_any _ Tr).mono ?_
        rintro e w4 ⟨rfl, hb⟩
        go_wp2_with fail
        go_ret
        exact ⟨rfl, Br.trans (hb.mono Br.size)⟩
      · have n1 := HRn.out h1 h3
        have n3 := HLn.out h1
        generalize hl1 : cTextN m 1 = l1 at *
        have HL1 := Lib.hid hl1
        clear hl1
        generalize hl3 : cTextN m 3 = l3 at *
        have HL3 := Lib.hid hl3
        clear hl3
        have q1 : (l1 == D) = false := by rw [beq_eq_false_iff_ne]; exact n1
        have q3 : (l3 == D) = false := by rw [beq_eq_false_iff_ne]; exact n3
        clear n1 n3
        have z0 : ((m : Int) == 0) = false := by rw [beq_eq_false_iff_ne]; omega
        have z9 : decide (3999 < (m : Int)) = false := by simp; omega
        go_wp2_with fail
        refine (text_nat m 1 l1 _ Tr hm9 HL1.out).mono ?_
        rintro e w2 ⟨rfl, hb⟩
        replace Br := Br.trans (hb.mono Br.size)
        replace Tr := Tr.below hb
        clear hb
        go_wp2_with fail
        refine (text_nat m 3 l3 _ Tr hm9 HL3.out).mono ?_
        rintro e w3 ⟨rfl, hb⟩
        replace Br := Br.trans (hb.mono Br.size)
        replace Tr := Tr.below hb
        clear hb
        go_wp2_with fail
        refine (fixed_any _ Tr).mono ?_
        rintro e w4 ⟨rfl, hb⟩
        go_wp2_with fail
        go_ret
        exact ⟨rfl, Br.trans (hb.mono Br.size)⟩
      · have n3 := HLn.out (by omega)
        generalize hl3 : cTextN m 3 = l3 at *
        have HL3 := Lib.hid hl3
        clear hl3
        have H1 := Lib.hid (HR.out (.inr (.inl ⟨h9, by decide⟩)))
        have q3 : (l3 == D) = false := by rw [beq_eq_false_iff_ne]; exact n3
        clear n3
        have z0 : ((m : Int) == 0) = false := by rw [beq_eq_false_iff_ne]; omega
        have z9 : decide (3999 < (m : Int)) = true := by simp; omega
        go_wp2_with fail
        refine (text_nat m 1 D _ Tr hm9 H1.out).mono ?_
        rintro e w2 ⟨rfl, hb⟩
        replace Br := Br.trans (hb.mono Br.size)
        replace Tr := Tr.below hb
        clear hb
        go_wp2_with fail
        refine (text_nat m 3 l3 _ Tr hm9 HL3.out).mono ?_
        rintro e w3 ⟨rfl, hb⟩
        replace Br := Br.trans (hb.mono Br.size)
        replace Tr := Tr.below hb
        clear hb
        go_wp2_with fail
        refine (fixed_any _ Tr).mono ?_
        rintro e w4 ⟨rfl, hb⟩
        go_wp2_with fail
        go_ret
        exact ⟨rfl, Br.trans (hb.mono Br.size)⟩
end Go.Proofs.YtglhcnhenhfkiaaDoor

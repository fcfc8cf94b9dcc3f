/-
  The walk of CountBack: for every two ints and every text it returns true; the tables lie in memory; old memory stays as it was.
-/
import Derived.Test.YtglhcnhenhfkiaaDoorDig
namespace Go.Proofs.YtglhcnhenhfkiaaDoor
open Go.RowKit Go.Sort

theorem cut_nat_ex (n : Int) : ∃ m : Nat, cCut n = m ∧ m ≤ 999999 := ⟨(cCut n).toNat, by have := cCut_bd n; omega, by have := cCut_bd n; omega⟩

theorem val_text (m : Nat) (style : Int) (h : m ≤ 999999) : cVal (cTextN m style) style = m ∧ cErr (cTextN m style) style = 0 := by
  unfold cVal cErr
  rw [ok_text m style h, if_pos rfl, if_pos rfl, guess_text m style h]
  exact ⟨rfl, rfl⟩
theorem val_ok (l : List UInt8) (style : Int) : (cOk l style = false → cVal l style = 0 ∧ cErr l style = 5) ∧ (cOk l style = true → ∃ g : Nat, g ≤ 999999 ∧ cVal l style = g ∧ cErr l style = 0 ∧ cTextN g style = l) := by
  refine ⟨fun h => ?_, fun h => ?_⟩
  · unfold cVal cErr; rw [h]; exact ⟨rfl, rfl⟩
  · have hb := cGuess_bd l style
    refine ⟨(cGuess l style).toNat, by omega, ?_, ?_, ?_⟩
    · unfold cVal; rw [h, if_pos rfl]; omega
    · unfold cErr; rw [h]; rfl
    · have h2 : cText (cGuess l style) style = l := by unfold cOk at h; exact beq_iff_eq.1 h
      unfold cText at h2
      rw [cCut_id _ hb.1 hb.2] at h2
      exact h2

set_option maxRecDepth 100000 in
set_option maxHeartbeats 1000000 in
theorem back_core (a b : Int) (s : ByteArray) (l : List UInt8) (ma mb : Nat) (w : World) (T : Tabs w) (Ha : Hid (cCut a = ma)) (Hb : Hid (cCut b = mb)) (ha9 : ma ≤ 999999) (hb9 : mb ≤ 999999) (hl : l.length ≤ 30) (hsz : s.size ≤ 9223372036854775807)
    (Hs : Hid (Value.string (s.extract 0 (min (s.size : Int) 30).toNat) = .string ⟨l.toArray⟩)) :
    Calls Tryd.prog 4 #[.int .i64 a, .int .i64 b, .string s] w fun e w' => e = .returned (.bool true) ∧ Below w.heap.size w w' := by
  have B : Below w.heap.size w w := Below.refl _ _
  go_enter Tryd.func4, Tryd.ntmps4
  go_wp2_with fail
  refine (cut_nat a ma _ Ha.out).mono ?_
  rintro e w' ⟨rfl, rfl⟩
  go_wp2_with fail
  refine (cut_nat b mb _ Hb.out).mono ?_
  rintro e w' ⟨rfl, rfl⟩
  go_wp2_with fail
  rw [Hs.out]
  clear Hs Ha Hb
  go_loopw [7] (fun i wr => ∃ k : Nat, k ≤ 4 ∧ i = .int .i64 k ∧ Tabs wr ∧ Below w.heap.size w wr) (fun i _ => 4 - (intOf i).toNat)
  case atStart => exact ⟨0, by omega, rfl, T, B⟩
  case round =>
    obtain ⟨k, hk, rfl, Tr, Br⟩ := hrel
    by_cases hlt : k < 4
    · have hla := text_len ma (k : Int) ha9
      have hlb := text_len mb (k : Int) hb9
      have Va := Lib.hid (val_text ma (k : Int) ha9)
      have Hi := Lib.hid (text_inj ma mb (k : Int) ha9 hb9)
      have Hg := Lib.hid (val_ok l (k : Int))
      generalize hta : cTextN ma (k : Int) = ta at *
      generalize htb : cTextN mb (k : Int) = tb at *
      have HA := Lib.hid hta
      have HB := Lib.hid htb
      clear hta htb
      by_cases heq : ma = mb
      · subst heq
        obtain rfl : ta = tb := HA.out.symm.trans HB.out
        clear HB Hi
        cases hok : cOk l (k : Int)
        · have HV := Lib.hid (Hg.out.1 hok)
          clear hok
          go_wp2_with fail
          refine (text_nat ma k ta _ Tr ha9 HA.out).mono ?_
          rintro e w2 ⟨rfl, hb⟩
          replace Br := Br.trans (hb.mono Br.size)
          replace Tr := Tr.below hb
          clear hb
          go_wp2_with fail
          refine (text_nat ma k ta _ Tr ha9 HA.out).mono ?_
          rintro e w3 ⟨rfl, hb⟩
          replace Br := Br.trans (hb.mono Br.size)
          replace Tr := Tr.below hb
          clear hb
          go_wp2_with fail
          refine (value_is ta k ma 0 _ Tr (by omega) Va.out.1 Va.out.2).mono ?_
          rintro e w4 ⟨rfl, hb⟩
          replace Br := Br.trans (hb.mono Br.size)
          replace Tr := Tr.below hb
          clear hb
          go_wp2_with fail
          refine (value_is l k 0 5 _ Tr (by omega) HV.out.1 HV.out.2).mono ?_
          rintro e w5 ⟨rfl, hb⟩
          replace Br := Br.trans (hb.mono Br.size)
          replace Tr := Tr.below hb
          clear hb
          go_wp2_with fail
          go_roundw
          case rel => exact ⟨k + 1, by omega, by go_num, Tr, Br⟩
          case measure => simp [intOf]; omega
        · obtain ⟨g, hg9, hv, he, hgt⟩ := Hg.out.2 hok
          have HV := Lib.hid hv
          have HE := Lib.hid he
          have HT := Lib.hid hgt
          clear hv he hgt hok
          go_wp2_with fail
          refine (text_nat ma k ta _ Tr ha9 HA.out).mono ?_
          rintro e w2 ⟨rfl, hb⟩
          replace Br := Br.trans (hb.mono Br.size)
          replace Tr := Tr.below hb
          clear hb
          go_wp2_with fail
          refine (text_nat ma k ta _ Tr ha9 HA.out).mono ?_
          rintro e w3 ⟨rfl, hb⟩
          replace Br := Br.trans (hb.mono Br.size)
          replace Tr := Tr.below hb
          clear hb
          go_wp2_with fail
          refine (value_is ta k ma 0 _ Tr (by omega) Va.out.1 Va.out.2).mono ?_
          rintro e w4 ⟨rfl, hb⟩
          replace Br := Br.trans (hb.mono Br.size)
          replace Tr := Tr.below hb
          clear hb
          go_wp2_with fail
          refine (value_is l k g 0 _ Tr (by omega) HV.out HE.out).mono ?_
          rintro e w5 ⟨rfl, hb⟩
          replace Br := Br.trans (hb.mono Br.size)
          replace Tr := Tr.below hb
          clear hb
          go_wp2_with fail
          refine (text_nat g k l _ Tr hg9 HT.out).mono ?_
          rintro e w6 ⟨rfl, hb⟩
          replace Br := Br.trans (hb.mono Br.size)
          replace Tr := Tr.below hb
          clear hb
          go_wp2_with fail
          go_roundw
          case rel => exact ⟨k + 1, by omega, by go_num, Tr, Br⟩
          case measure => simp [intOf]; omega
      · have q1 : (ta == tb) = false := by rw [beq_eq_false_iff_ne]; exact fun h => heq (Hi.out h)
        have q2 : ((ma : Int) == (mb : Int)) = false := by rw [beq_eq_false_iff_ne]; omega
        have q3 : (ma == mb) = false := by rw [beq_eq_false_iff_ne]; exact heq
        clear Hi heq
        cases hok : cOk l (k : Int)
        · have HV := Lib.hid (Hg.out.1 hok)
          clear hok
          go_wp2_with fail
          refine (text_nat ma k ta _ Tr ha9 HA.out).mono ?_
          rintro e w2 ⟨rfl, hb⟩
          replace Br := Br.trans (hb.mono Br.size)
          replace Tr := Tr.below hb
          clear hb
          go_wp2_with fail
          refine (text_nat mb k tb _ Tr hb9 HB.out).mono ?_
          rintro e w3 ⟨rfl, hb⟩
          replace Br := Br.trans (hb.mono Br.size)
          replace Tr := Tr.below hb
          clear hb
          go_wp2_with fail
          refine (value_is ta k ma 0 _ Tr (by omega) Va.out.1 Va.out.2).mono ?_
          rintro e w4 ⟨rfl, hb⟩
          replace Br := Br.trans (hb.mono Br.size)
          replace Tr := Tr.below hb
          clear hb
          go_wp2_with fail
          refine (value_is l k 0 5 _ Tr (by omega) HV.out.1 HV.out.2).mono ?_
          rintro e w5 ⟨rfl, hb⟩
          replace Br := Br.trans (hb.mono Br.size)
          replace Tr := Tr.below hb
          clear hb
          go_wp2_with fail
          go_roundw
          case rel => exact ⟨k + 1, by omega, by go_num, Tr, Br⟩
          case measure => simp [intOf]; omega
        · obtain ⟨g, hg9, hv, he, hgt⟩ := Hg.out.2 hok
          have HV := Lib.hid hv
          have HE := Lib.hid he
          have HT := Lib.hid hgt
          clear hv he hgt hok
          go_wp2_with fail
          refine (text_nat ma k ta _ Tr ha9 HA.out).mono ?_
          rintro e w2 ⟨rfl, hb⟩
          replace Br := Br.trans (hb.mono Br.size)
          replace Tr := Tr.below hb
          clear hb
          go_wp2_with fail
          refine (text_nat mb k tb _ Tr hb9 HB.out).mono ?_
          rintro e w3 ⟨rfl, hb⟩
          replace Br := Br.trans (hb.mono Br.size)
          replace Tr := Tr.below hb
          clear hb
          go_wp2_with fail
          refine (value_is ta k ma 0 _ Tr (by omega) Va.out.1 Va.out.2).mono ?_
          rintro e w4 ⟨rfl, hb⟩
          replace Br := Br.trans (hb.mono Br.size)
          replace Tr := Tr.below hb
          clear hb
          go_wp2_with fail
          refine (value_is l k g 0 _ Tr (by omega) HV.out HE.out).mono ?_
          rintro e w5 ⟨rfl, hb⟩
          replace Br := Br.trans (hb.mono Br.size)
          replace Tr := Tr.below hb
          clear hb
          go_wp2_with fail
          refine (text_nat g k l _ Tr hg9 HT.out).mono ?_
          rintro e w6 ⟨rfl, hb⟩
          replace Br := Br.trans (hb.mono Br.size)
          replace Tr := Tr.below hb
          clear hb
          go_wp2_with fail
          go_roundw
          case rel => exact ⟨k + 1, by omega, by go_num, Tr, Br⟩
          case measure => simp [intOf]; omega
    · obtain rfl : k = 4 := by omega
      go_wp2_with fail
      refine (fixed_any _ Tr).mono ?_
      rintro e w4 ⟨rfl, hb⟩
      go_wp2_with fail
      go_ret
      exact ⟨rfl, Br.trans (hb.mono Br.size)⟩
theorem back_any (a b : Int) (s : ByteArray) (w : World) (T : Tabs w) (hs : s.size ≤ maxLen) :
    Calls Tryd.prog 4 #[.int .i64 a, .int .i64 b, .string s] w fun e w' => e = .returned (.bool true) ∧ Below w.heap.size w w' := by
  obtain ⟨ma, ha, ha9⟩ := cut_nat_ex a
  obtain ⟨mb, hb, hb9⟩ := cut_nat_ex b
  unfold maxLen at hs
  refine back_core a b s (s.extract 0 (min (s.size : Int) 30).toNat).data.toList ma mb w T (Lib.hid ha) (Lib.hid hb) ha9 hb9 ?_ (by omega) (Lib.hid rfl)
  simp [ByteArray.data_extract]
  omega
end Go.Proofs.YtglhcnhenhfkiaaDoor

/-
  The rest of the contract of the document's answer for layer 1 (its Value): where neither reading is the text's counter.
-/
import Derived.Test.YtglhcnhenhfkiaaDoorF5
namespace Go.Proofs.YtglhcnhenhfkiaaDoor
open Go.RowKit Go.Sort

set_option maxRecDepth 100000 in
set_option maxHeartbeats 2000000 in
theorem rv_third1 (l : List UInt8) (a b : Int) (w : World) (hl : l.length ≤ 1000) (Ha : Hid (rdGo 48 10 0 0 l = a)) (Hb : Hid (rdGo 97 26 1 0 l = b)) (FA : Fails a 1 l) (FB : Fails b 1 l) (M : Nat) (hM1 : 1 ≤ M) (hM9 : M ≤ 3999) (HP : Hid (∀ n : Nat, 1 ≤ n → n ≤ 3999 → (cTextN n 1 == l) = decide (n = M))) :
    Calls Tryd.prog 16 #[.string ⟨l.toArray⟩, .int .i64 1] w fun x w' => x = .returned (.tuple #[.int .i64 M, .int .i64 0]) ∧ Below w.heap.size w w' := by
  have B : Below w.heap.size w w := Below.refl _ _
  rcases FA with fa | fa | ⟨ka, ta, rfl, fa1, fa2, fa3⟩
  · have g1 : decide ((0 : Int) ≤ a) = false := by simp; omega
    rcases FB with fb | fb | ⟨kb, tb, rfl, fb1, fb2, fb3⟩
    · have g3 : decide ((0 : Int) ≤ b) = false := by simp; omega
      go_enter Tryd.func16, Tryd.ntmps16
      go_wp2_with fail
      refine (read_d l a _ hl Ha.out).mono ?_
      rintro e w' ⟨rfl, rfl⟩
      go_wp2_with fail
      refine (read_a l b _ hl Hb.out).mono ?_
      rintro e w' ⟨rfl, rfl⟩

      go_wp2_with fail
      go_loopw [8] (fun i wr => ∃ k : Nat, 1 ≤ k ∧ k ≤ M ∧ i = .int .i64 k ∧ Below w.heap.size w wr) (fun i _ => M - (intOf i).toNat)
      case atStart => exact ⟨1, by omega, hM1, rfl, B⟩
      case round =>
        obtain ⟨k, hk1, hkM, rfl, Br⟩ := hrel
        have HK := Lib.hid (HP.out k hk1 (by omega))
        generalize hlk : cTextN k 1 = lk at *
        have HL := Lib.hid hlk
        clear hlk
        have hk9 : (k : Int) ≤ 3999 := by omega
        by_cases heq : k = M
        · have q : (lk == l) = true := by rw [HK.out]; simpa using heq
          have HQ := Lib.hid heq
          clear heq
          go_wp2_with fail
          refine (rtext_nat k 1 lk _ (by omega) HL.out).mono ?_
          rintro e w6 ⟨rfl, hb⟩
          go_wp2_with fail
          go_ret2
          exact ⟨ret_two (by have := HQ.out; omega) rfl, Br.trans (hb.mono Br.size)⟩
        · have q : (lk == l) = false := by rw [HK.out]; simpa using heq
          go_wp2_with fail
          refine (rtext_nat k 1 lk _ (by omega) HL.out).mono ?_
          rintro e w6 ⟨rfl, hb⟩
          replace Br := Br.trans (hb.mono Br.size)
          clear hb
          go_wp2_with fail
          go_roundw
          case rel => exact ⟨k + 1, by omega, by omega, by go_num, Br⟩
          case measure => simp [intOf]; omega
    · have g3 : (0 : Int) ≤ b := by omega
      have g4 : decide (b ≤ 999999) = false := by simp; omega
      go_enter Tryd.func16, Tryd.ntmps16
      go_wp2_with fail
      refine (read_d l a _ hl Ha.out).mono ?_
      rintro e w' ⟨rfl, rfl⟩
      go_wp2_with fail
      refine (read_a l b _ hl Hb.out).mono ?_
      rintro e w' ⟨rfl, rfl⟩

      go_wp2_with fail
      go_loopw [8] (fun i wr => ∃ k : Nat, 1 ≤ k ∧ k ≤ M ∧ i = .int .i64 k ∧ Below w.heap.size w wr) (fun i _ => M - (intOf i).toNat)
      case atStart => exact ⟨1, by omega, hM1, rfl, B⟩
      case round =>
        obtain ⟨k, hk1, hkM, rfl, Br⟩ := hrel
        have HK := Lib.hid (HP.out k hk1 (by omega))
        generalize hlk : cTextN k 1 = lk at *
        have HL := Lib.hid hlk
        clear hlk
        have hk9 : (k : Int) ≤ 3999 := by omega
        by_cases heq : k = M
        · have q : (lk == l) = true := by rw [HK.out]; simpa using heq
          have HQ := Lib.hid heq
          clear heq
          go_wp2_with fail
          refine (rtext_nat k 1 lk _ (by omega) HL.out).mono ?_
          rintro e w6 ⟨rfl, hb⟩
          go_wp2_with fail
          go_ret2
          exact ⟨ret_two (by have := HQ.out; omega) rfl, Br.trans (hb.mono Br.size)⟩
        · have q : (lk == l) = false := by rw [HK.out]; simpa using heq
          go_wp2_with fail
          refine (rtext_nat k 1 lk _ (by omega) HL.out).mono ?_
          rintro e w6 ⟨rfl, hb⟩
          replace Br := Br.trans (hb.mono Br.size)
          clear hb
          go_wp2_with fail
          go_roundw
          case rel => exact ⟨k + 1, by omega, by omega, by go_num, Br⟩
          case measure => simp [intOf]; omega
    · have HG := Lib.hid fb2
      clear fb2
      go_enter Tryd.func16, Tryd.ntmps16
      go_wp2_with fail
      refine (read_d l a _ hl Ha.out).mono ?_
      rintro e w' ⟨rfl, rfl⟩
      go_wp2_with fail
      refine (read_a l kb _ hl Hb.out).mono ?_
      rintro e w' ⟨rfl, rfl⟩

      go_wp2_with fail
      refine (rtext_nat kb 1 tb _ fb1 HG.out).mono ?_
      rintro e w2 ⟨rfl, hb⟩
      replace B := B.trans (hb.mono B.size)
      clear hb
      go_wp2_with fail
      go_loopw [8] (fun i wr => ∃ k : Nat, 1 ≤ k ∧ k ≤ M ∧ i = .int .i64 k ∧ Below w.heap.size w wr) (fun i _ => M - (intOf i).toNat)
      case atStart => exact ⟨1, by omega, hM1, rfl, B⟩
      case round =>
        obtain ⟨k, hk1, hkM, rfl, Br⟩ := hrel
        have HK := Lib.hid (HP.out k hk1 (by omega))
        generalize hlk : cTextN k 1 = lk at *
        have HL := Lib.hid hlk
        clear hlk
        have hk9 : (k : Int) ≤ 3999 := by omega
        by_cases heq : k = M
        · have q : (lk == l) = true := by rw [HK.out]; simpa using heq
          have HQ := Lib.hid heq
          clear heq
          go_wp2_with fail
          refine (rtext_nat k 1 lk _ (by omega) HL.out).mono ?_
          rintro e w6 ⟨rfl, hb⟩
          go_wp2_with fail
          go_ret2
          exact ⟨ret_two (by have := HQ.out; omega) rfl, Br.trans (hb.mono Br.size)⟩
        · have q : (lk == l) = false := by rw [HK.out]; simpa using heq
          go_wp2_with fail
          refine (rtext_nat k 1 lk _ (by omega) HL.out).mono ?_
          rintro e w6 ⟨rfl, hb⟩
          replace Br := Br.trans (hb.mono Br.size)
          clear hb
          go_wp2_with fail
          go_roundw
          case rel => exact ⟨k + 1, by omega, by omega, by go_num, Br⟩
          case measure => simp [intOf]; omega
  · have g1 : (0 : Int) ≤ a := by omega
    have g2 : decide (a ≤ 999999) = false := by simp; omega
    rcases FB with fb | fb | ⟨kb, tb, rfl, fb1, fb2, fb3⟩
    · have g3 : decide ((0 : Int) ≤ b) = false := by simp; omega
      go_enter Tryd.func16, Tryd.ntmps16
      go_wp2_with fail
      refine (read_d l a _ hl Ha.out).mono ?_
      rintro e w' ⟨rfl, rfl⟩
      go_wp2_with fail
      refine (read_a l b _ hl Hb.out).mono ?_
      rintro e w' ⟨rfl, rfl⟩

      go_wp2_with fail
      go_loopw [8] (fun i wr => ∃ k : Nat, 1 ≤ k ∧ k ≤ M ∧ i = .int .i64 k ∧ Below w.heap.size w wr) (fun i _ => M - (intOf i).toNat)
      case atStart => exact ⟨1, by omega, hM1, rfl, B⟩
      case round =>
        obtain ⟨k, hk1, hkM, rfl, Br⟩ := hrel
        have HK := Lib.hid (HP.out k hk1 (by omega))
        generalize hlk : cTextN k 1 = lk at *
        have HL := Lib.hid hlk
        clear hlk
        have hk9 : (k : Int) ≤ 3999 := by omega
        by_cases heq : k = M
        · have q : (lk == l) = true := by rw [HK.out]; simpa using heq
          have HQ := Lib.hid heq
          clear heq
          go_wp2_with fail
          refine (rtext_nat k 1 lk _ (by omega) HL.out).mono ?_
          rintro e w6 ⟨rfl, hb⟩
          go_wp2_with fail
          go_ret2
          exact ⟨ret_two (by have := HQ.out; omega) rfl, Br.trans (hb.mono Br.size)⟩
        · have q : (lk == l) = false := by rw [HK.out]; simpa using heq
          go_wp2_with fail
          refine (rtext_nat k 1 lk _ (by omega) HL.out).mono ?_
          rintro e w6 ⟨rfl, hb⟩
          replace Br := Br.trans (hb.mono Br.size)
          clear hb
          go_wp2_with fail
          go_roundw
          case rel => exact ⟨k + 1, by omega, by omega, by go_num, Br⟩
          case measure => simp [intOf]; omega
    · have g3 : (0 : Int) ≤ b := by omega
      have g4 : decide (b ≤ 999999) = false := by simp; omega
      go_enter Tryd.func16, Tryd.ntmps16
      go_wp2_with fail
      refine (read_d l a _ hl Ha.out).mono ?_
      rintro e w' ⟨rfl, rfl⟩
      go_wp2_with fail
      refine (read_a l b _ hl Hb.out).mono ?_
      rintro e w' ⟨rfl, rfl⟩

      go_wp2_with fail
      go_loopw [8] (fun i wr => ∃ k : Nat, 1 ≤ k ∧ k ≤ M ∧ i = .int .i64 k ∧ Below w.heap.size w wr) (fun i _ => M - (intOf i).toNat)
      case atStart => exact ⟨1, by omega, hM1, rfl, B⟩
      case round =>
        obtain ⟨k, hk1, hkM, rfl, Br⟩ := hrel
        have HK := Lib.hid (HP.out k hk1 (by omega))
        generalize hlk : cTextN k 1 = lk at *
        have HL := Lib.hid hlk
        clear hlk
        have hk9 : (k : Int) ≤ 3999 := by omega
        by_cases heq : k = M
        · have q : (lk == l) = true := by rw [HK.out]; simpa using heq
          have HQ := Lib.hid heq
          clear heq
          go_wp2_with fail
          refine (rtext_nat k 1 lk _ (by omega) HL.out).mono ?_
          rintro e w6 ⟨rfl, hb⟩
          go_wp2_with fail
          go_ret2
          exact ⟨ret_two (by have := HQ.out; omega) rfl, Br.trans (hb.mono Br.size)⟩
        · have q : (lk == l) = false := by rw [HK.out]; simpa using heq
          go_wp2_with fail
          refine (rtext_nat k 1 lk _ (by omega) HL.out).mono ?_
          rintro e w6 ⟨rfl, hb⟩
          replace Br := Br.trans (hb.mono Br.size)
          clear hb
          go_wp2_with fail
          go_roundw
          case rel => exact ⟨k + 1, by omega, by omega, by go_num, Br⟩
          case measure => simp [intOf]; omega
    · have HG := Lib.hid fb2
      clear fb2
      go_enter Tryd.func16, Tryd.ntmps16
      go_wp2_with fail
      refine (read_d l a _ hl Ha.out).mono ?_
      rintro e w' ⟨rfl, rfl⟩
      go_wp2_with fail
      refine (read_a l kb _ hl Hb.out).mono ?_
      rintro e w' ⟨rfl, rfl⟩

      go_wp2_with fail
      refine (rtext_nat kb 1 tb _ fb1 HG.out).mono ?_
      rintro e w2 ⟨rfl, hb⟩
      replace B := B.trans (hb.mono B.size)
      clear hb
      go_wp2_with fail
      go_loopw [8] (fun i wr => ∃ k : Nat, 1 ≤ k ∧ k ≤ M ∧ i = .int .i64 k ∧ Below w.heap.size w wr) (fun i _ => M - (intOf i).toNat)
      case atStart => exact ⟨1, by omega, hM1, rfl, B⟩
      case round =>
        obtain ⟨k, hk1, hkM, rfl, Br⟩ := hrel
        have HK := Lib.hid (HP.out k hk1 (by omega))
        generalize hlk : cTextN k 1 = lk at *
        have HL := Lib.hid hlk
        clear hlk
        have hk9 : (k : Int) ≤ 3999 := by omega
        by_cases heq : k = M
        · have q : (lk == l) = true := by rw [HK.out]; simpa using heq
          have HQ := Lib.hid heq
          clear heq
          go_wp2_with fail
          refine (rtext_nat k 1 lk _ (by omega) HL.out).mono ?_
          rintro e w6 ⟨rfl, hb⟩
          go_wp2_with fail
          go_ret2
          exact ⟨ret_two (by have := HQ.out; omega) rfl, Br.trans (hb.mono Br.size)⟩
        · have q : (lk == l) = false := by rw [HK.out]; simpa using heq
          go_wp2_with fail
          refine (rtext_nat k 1 lk _ (by omega) HL.out).mono ?_
          rintro e w6 ⟨rfl, hb⟩
          replace Br := Br.trans (hb.mono Br.size)
          clear hb
          go_wp2_with fail
          go_roundw
          case rel => exact ⟨k + 1, by omega, by omega, by go_num, Br⟩
          case measure => simp [intOf]; omega
  · have HF := Lib.hid fa2
    clear fa2
    rcases FB with fb | fb | ⟨kb, tb, rfl, fb1, fb2, fb3⟩
    · have g3 : decide ((0 : Int) ≤ b) = false := by simp; omega
      go_enter Tryd.func16, Tryd.ntmps16
      go_wp2_with fail
      refine (read_d l ka _ hl Ha.out).mono ?_
      rintro e w' ⟨rfl, rfl⟩
      go_wp2_with fail
      refine (read_a l b _ hl Hb.out).mono ?_
      rintro e w' ⟨rfl, rfl⟩
      go_wp2_with fail
      refine (rtext_nat ka 1 ta _ fa1 HF.out).mono ?_
      rintro e w1 ⟨rfl, hb⟩
      replace B := B.trans (hb.mono B.size)
      clear hb
      go_wp2_with fail
      go_loopw [8] (fun i wr => ∃ k : Nat, 1 ≤ k ∧ k ≤ M ∧ i = .int .i64 k ∧ Below w.heap.size w wr) (fun i _ => M - (intOf i).toNat)
      case atStart => exact ⟨1, by omega, hM1, rfl, B⟩
      case round =>
        obtain ⟨k, hk1, hkM, rfl, Br⟩ := hrel
        have HK := Lib.hid (HP.out k hk1 (by omega))
        generalize hlk : cTextN k 1 = lk at *
        have HL := Lib.hid hlk
        clear hlk
        have hk9 : (k : Int) ≤ 3999 := by omega
        by_cases heq : k = M
        · have q : (lk == l) = true := by rw [HK.out]; simpa using heq
          have HQ := Lib.hid heq
          clear heq
          go_wp2_with fail
          refine (rtext_nat k 1 lk _ (by omega) HL.out).mono ?_
          rintro e w6 ⟨rfl, hb⟩
          go_wp2_with fail
          go_ret2
          exact ⟨ret_two (by have := HQ.out; omega) rfl, Br.trans (hb.mono Br.size)⟩
        · have q : (lk == l) = false := by rw [HK.out]; simpa using heq
          go_wp2_with fail
          refine (rtext_nat k 1 lk _ (by omega) HL.out).mono ?_
          rintro e w6 ⟨rfl, hb⟩
          replace Br := Br.trans (hb.mono Br.size)
          clear hb
          go_wp2_with fail
          go_roundw
          case rel => exact ⟨k + 1, by omega, by omega, by go_num, Br⟩
          case measure => simp [intOf]; omega
    · have g3 : (0 : Int) ≤ b := by omega
      have g4 : decide (b ≤ 999999) = false := by simp; omega
      go_enter Tryd.func16, Tryd.ntmps16
      go_wp2_with fail
      refine (read_d l ka _ hl Ha.out).mono ?_
      rintro e w' ⟨rfl, rfl⟩
      go_wp2_with fail
      refine (read_a l b _ hl Hb.out).mono ?_
      rintro e w' ⟨rfl, rfl⟩
      go_wp2_with fail
      refine (rtext_nat ka 1 ta _ fa1 HF.out).mono ?_
      rintro e w1 ⟨rfl, hb⟩
      replace B := B.trans (hb.mono B.size)
      clear hb
      go_wp2_with fail
      go_loopw [8] (fun i wr => ∃ k : Nat, 1 ≤ k ∧ k ≤ M ∧ i = .int .i64 k ∧ Below w.heap.size w wr) (fun i _ => M - (intOf i).toNat)
      case atStart => exact ⟨1, by omega, hM1, rfl, B⟩
      case round =>
        obtain ⟨k, hk1, hkM, rfl, Br⟩ := hrel
        have HK := Lib.hid (HP.out k hk1 (by omega))
        generalize hlk : cTextN k 1 = lk at *
        have HL := Lib.hid hlk
        clear hlk
        have hk9 : (k : Int) ≤ 3999 := by omega
        by_cases heq : k = M
        · have q : (lk == l) = true := by rw [HK.out]; simpa using heq
          have HQ := Lib.hid heq
          clear heq
          go_wp2_with fail
          refine (rtext_nat k 1 lk _ (by omega) HL.out).mono ?_
          rintro e w6 ⟨rfl, hb⟩
          go_wp2_with fail
          go_ret2
          exact ⟨ret_two (by have := HQ.out; omega) rfl, Br.trans (hb.mono Br.size)⟩
        · have q : (lk == l) = false := by rw [HK.out]; simpa using heq
          go_wp2_with fail
          refine (rtext_nat k 1 lk _ (by omega) HL.out).mono ?_
          rintro e w6 ⟨rfl, hb⟩
          replace Br := Br.trans (hb.mono Br.size)
          clear hb
          go_wp2_with fail
          go_roundw
          case rel => exact ⟨k + 1, by omega, by omega, by go_num, Br⟩
          case measure => simp [intOf]; omega
    · have HG := Lib.hid fb2
      clear fb2
      go_enter Tryd.func16, Tryd.ntmps16
      go_wp2_with fail
      refine (read_d l ka _ hl Ha.out).mono ?_
      rintro e w' ⟨rfl, rfl⟩
      go_wp2_with fail
      refine (read_a l kb _ hl Hb.out).mono ?_
      rintro e w' ⟨rfl, rfl⟩
      go_wp2_with fail
      refine (rtext_nat ka 1 ta _ fa1 HF.out).mono ?_
      rintro e w1 ⟨rfl, hb⟩
      replace B := B.trans (hb.mono B.size)
      clear hb
      go_wp2_with fail
      refine (rtext_nat kb 1 tb _ fb1 HG.out).mono ?_
      rintro e w2 ⟨rfl, hb⟩
      replace B := B.trans (hb.mono B.size)
      clear hb
      go_wp2_with fail
      go_loopw [8] (fun i wr => ∃ k : Nat, 1 ≤ k ∧ k ≤ M ∧ i = .int .i64 k ∧ Below w.heap.size w wr) (fun i _ => M - (intOf i).toNat)
      case atStart => exact ⟨1, by omega, hM1, rfl, B⟩
      case round =>
        obtain ⟨k, hk1, hkM, rfl, Br⟩ := hrel
        have HK := Lib.hid (HP.out k hk1 (by omega))
        generalize hlk : cTextN k 1 = lk at *
        have HL := Lib.hid hlk
        clear hlk
        have hk9 : (k : Int) ≤ 3999 := by omega
        by_cases heq : k = M
        · have q : (lk == l) = true := by rw [HK.out]; simpa using heq
          have HQ := Lib.hid heq
          clear heq
          go_wp2_with fail
          refine (rtext_nat k 1 lk _ (by omega) HL.out).mono ?_
          rintro e w6 ⟨rfl, hb⟩
          go_wp2_with fail
          go_ret2
          exact ⟨ret_two (by have := HQ.out; omega) rfl, Br.trans (hb.mono Br.size)⟩
        · have q : (lk == l) = false := by rw [HK.out]; simpa using heq
          go_wp2_with fail
          refine (rtext_nat k 1 lk _ (by omega) HL.out).mono ?_
          rintro e w6 ⟨rfl, hb⟩
          replace Br := Br.trans (hb.mono Br.size)
          clear hb
          go_wp2_with fail
          go_roundw
          case rel => exact ⟨k + 1, by omega, by omega, by go_num, Br⟩
          case measure => simp [intOf]; omega
set_option maxRecDepth 100000 in
set_option maxHeartbeats 2000000 in
theorem rv_none1 (l : List UInt8) (a b : Int) (w : World) (hl : l.length ≤ 1000) (Ha : Hid (rdGo 48 10 0 0 l = a)) (Hb : Hid (rdGo 97 26 1 0 l = b)) (FA : Fails a 1 l) (FB : Fails b 1 l) (HP : Hid (∀ n : Nat, 1 ≤ n → n ≤ 3999 → (cTextN n 1 == l) = false)) :
    Calls Tryd.prog 16 #[.string ⟨l.toArray⟩, .int .i64 1] w fun x w' => x = .returned (.tuple #[.int .i64 0, .int .i64 5]) ∧ Below w.heap.size w w' := by
  have B : Below w.heap.size w w := Below.refl _ _
  rcases FA with fa | fa | ⟨ka, ta, rfl, fa1, fa2, fa3⟩
  · have g1 : decide ((0 : Int) ≤ a) = false := by simp; omega
    rcases FB with fb | fb | ⟨kb, tb, rfl, fb1, fb2, fb3⟩
    · have g3 : decide ((0 : Int) ≤ b) = false := by simp; omega
      go_enter Tryd.func16, Tryd.ntmps16
      go_wp2_with fail
      refine (read_d l a _ hl Ha.out).mono ?_
      rintro e w' ⟨rfl, rfl⟩
      go_wp2_with fail
      refine (read_a l b _ hl Hb.out).mono ?_
      rintro e w' ⟨rfl, rfl⟩

      go_wp2_with fail
      go_loopw [8] (fun i wr => ∃ k : Nat, 1 ≤ k ∧ k ≤ 4000 ∧ i = .int .i64 k ∧ Below w.heap.size w wr) (fun i _ => 4000 - (intOf i).toNat)
      case atStart => exact ⟨1, by omega, by omega, rfl, B⟩
      case round =>
        obtain ⟨k, hk1, hkM, rfl, Br⟩ := hrel
        by_cases hlt : k ≤ 3999
        · have q := HP.out k hk1 hlt
          generalize hlk : cTextN k 1 = lk at *
          have HL := Lib.hid hlk
          clear hlk
          have hk9 : (k : Int) ≤ 3999 := by omega
          go_wp2_with fail
          refine (rtext_nat k 1 lk _ (by omega) HL.out).mono ?_
          rintro e w6 ⟨rfl, hb⟩
          replace Br := Br.trans (hb.mono Br.size)
          clear hb
          go_wp2_with fail
          go_roundw
          case rel => exact ⟨k + 1, by omega, by omega, by go_num, Br⟩
          case measure => simp [intOf]; omega
        · have hk9 : decide ((k : Int) ≤ 3999) = false := by simp; omega
          go_wp2_with fail
          go_ret2
          exact ⟨rfl, Br⟩
    · have g3 : (0 : Int) ≤ b := by omega
      have g4 : decide (b ≤ 999999) = false := by simp; omega
      go_enter Tryd.func16, Tryd.ntmps16
      go_wp2_with fail
      refine (read_d l a _ hl Ha.out).mono ?_
      rintro e w' ⟨rfl, rfl⟩
      go_wp2_with fail
      refine (read_a l b _ hl Hb.out).mono ?_
      rintro e w' ⟨rfl, rfl⟩

      go_wp2_with fail
      go_loopw [8] (fun i wr => ∃ k : Nat, 1 ≤ k ∧ k ≤ 4000 ∧ i = .int .i64 k ∧ Below w.heap.size w wr) (fun i _ => 4000 - (intOf i).toNat)
      case atStart => exact ⟨1, by omega, by omega, rfl, B⟩
      case round =>
        obtain ⟨k, hk1, hkM, rfl, Br⟩ := hrel
        by_cases hlt : k ≤ 3999
        · have q := HP.out k hk1 hlt
          generalize hlk : cTextN k 1 = lk at *
          have HL := Lib.hid hlk
          clear hlk
          have hk9 : (k : Int) ≤ 3999 := by omega
          go_wp2_with fail
          refine (rtext_nat k 1 lk _ (by omega) HL.out).mono ?_
          rintro e w6 ⟨rfl, hb⟩
          replace Br := Br.trans (hb.mono Br.size)
          clear hb
          go_wp2_with fail
          go_roundw
          case rel => exact ⟨k + 1, by omega, by omega, by go_num, Br⟩
          case measure => simp [intOf]; omega
        · have hk9 : decide ((k : Int) ≤ 3999) = false := by simp; omega
          go_wp2_with fail
          go_ret2
          exact ⟨rfl, Br⟩
    · have HG := Lib.hid fb2
      clear fb2
      go_enter Tryd.func16, Tryd.ntmps16
      go_wp2_with fail
      refine (read_d l a _ hl Ha.out).mono ?_
      rintro e w' ⟨rfl, rfl⟩
      go_wp2_with fail
      refine (read_a l kb _ hl Hb.out).mono ?_
      rintro e w' ⟨rfl, rfl⟩

      go_wp2_with fail
      refine (rtext_nat kb 1 tb _ fb1 HG.out).mono ?_
      rintro e w2 ⟨rfl, hb⟩
      replace B := B.trans (hb.mono B.size)
      clear hb
      go_wp2_with fail
      go_loopw [8] (fun i wr => ∃ k : Nat, 1 ≤ k ∧ k ≤ 4000 ∧ i = .int .i64 k ∧ Below w.heap.size w wr) (fun i _ => 4000 - (intOf i).toNat)
      case atStart => exact ⟨1, by omega, by omega, rfl, B⟩
      case round =>
        obtain ⟨k, hk1, hkM, rfl, Br⟩ := hrel
        by_cases hlt : k ≤ 3999
        · have q := HP.out k hk1 hlt
          generalize hlk : cTextN k 1 = lk at *
          have HL := Lib.hid hlk
          clear hlk
          have hk9 : (k : Int) ≤ 3999 := by omega
          go_wp2_with fail
          refine (rtext_nat k 1 lk _ (by omega) HL.out).mono ?_
          rintro e w6 ⟨rfl, hb⟩
          replace Br := Br.trans (hb.mono Br.size)
          clear hb
          go_wp2_with fail
          go_roundw
          case rel => exact ⟨k + 1, by omega, by omega, by go_num, Br⟩
          case measure => simp [intOf]; omega
        · have hk9 : decide ((k : Int) ≤ 3999) = false := by simp; omega
          go_wp2_with fail
          go_ret2
          exact ⟨rfl, Br⟩
  · have g1 : (0 : Int) ≤ a := by omega
    have g2 : decide (a ≤ 999999) = false := by simp; omega
    rcases FB with fb | fb | ⟨kb, tb, rfl, fb1, fb2, fb3⟩
    · have g3 : decide ((0 : Int) ≤ b) = false := by simp; omega
      go_enter Tryd.func16, Tryd.ntmps16
      go_wp2_with fail
      refine (read_d l a _ hl Ha.out).mono ?_
      rintro e w' ⟨rfl, rfl⟩
      go_wp2_with fail
      refine (read_a l b _ hl Hb.out).mono ?_
      rintro e w' ⟨rfl, rfl⟩

      go_wp2_with fail
      go_loopw [8] (fun i wr => ∃ k : Nat, 1 ≤ k ∧ k ≤ 4000 ∧ i = .int .i64 k ∧ Below w.heap.size w wr) (fun i _ => 4000 - (intOf i).toNat)
      case atStart => exact ⟨1, by omega, by omega, rfl, B⟩
      case round =>
        obtain ⟨k, hk1, hkM, rfl, Br⟩ := hrel
        by_cases hlt : k ≤ 3999
        · have q := HP.out k hk1 hlt
          generalize hlk : cTextN k 1 = lk at *
          have HL := Lib.hid hlk
          clear hlk
          have hk9 : (k : Int) ≤ 3999 := by omega
          go_wp2_with fail
          refine (rtext_nat k 1 lk _ (by omega) HL.out).mono ?_
          rintro e w6 ⟨rfl, hb⟩
          replace Br := Br.trans (hb.mono Br.size)
          clear hb
          go_wp2_with fail
          go_roundw
          case rel => exact ⟨k + 1, by omega, by omega, by go_num, Br⟩
          case measure => simp [intOf]; omega
        · have hk9 : decide ((k : Int) ≤ 3999) = false := by simp; omega
          go_wp2_with fail
          go_ret2
          exact ⟨rfl, Br⟩
    · have g3 : (0 : Int) ≤ b := by omega
      have g4 : decide (b ≤ 999999) = false := by simp; omega
      go_enter Tryd.func16, Tryd.ntmps16
      go_wp2_with fail
      refine (read_d l a _ hl Ha.out).mono ?_
      rintro e w' ⟨rfl, rfl⟩
      go_wp2_with fail
      refine (read_a l b _ hl Hb.out).mono ?_
      rintro e w' ⟨rfl, rfl⟩

      go_wp2_with fail
      go_loopw [8] (fun i wr => ∃ k : Nat, 1 ≤ k ∧ k ≤ 4000 ∧ i = .int .i64 k ∧ Below w.heap.size w wr) (fun i _ => 4000 - (intOf i).toNat)
      case atStart => exact ⟨1, by omega, by omega, rfl, B⟩
      case round =>
        obtain ⟨k, hk1, hkM, rfl, Br⟩ := hrel
        by_cases hlt : k ≤ 3999
        · have q := HP.out k hk1 hlt
          generalize hlk : cTextN k 1 = lk at *
          have HL := Lib.hid hlk
          clear hlk
          have hk9 : (k : Int) ≤ 3999 := by omega
          go_wp2_with fail
          refine (rtext_nat k 1 lk _ (by omega) HL.out).mono ?_
          rintro e w6 ⟨rfl, hb⟩
          replace Br := Br.trans (hb.mono Br.size)
          clear hb
          go_wp2_with fail
          go_roundw
          case rel => exact ⟨k + 1, by omega, by omega, by go_num, Br⟩
          case measure => simp [intOf]; omega
        · have hk9 : decide ((k : Int) ≤ 3999) = false := by simp; omega
          go_wp2_with fail
          go_ret2
          exact ⟨rfl, Br⟩
    · have HG := Lib.hid fb2
      clear fb2
      go_enter Tryd.func16, Tryd.ntmps16
      go_wp2_with fail
      refine (read_d l a _ hl Ha.out).mono ?_
      rintro e w' ⟨rfl, rfl⟩
      go_wp2_with fail
      refine (read_a l kb _ hl Hb.out).mono ?_
      rintro e w' ⟨rfl, rfl⟩

      go_wp2_with fail
      refine (rtext_nat kb 1 tb _ fb1 HG.out).mono ?_
      rintro e w2 ⟨rfl, hb⟩
      replace B := B.trans (hb.mono B.size)
      clear hb
      go_wp2_with fail
      go_loopw [8] (fun i wr => ∃ k : Nat, 1 ≤ k ∧ k ≤ 4000 ∧ i = .int .i64 k ∧ Below w.heap.size w wr) (fun i _ => 4000 - (intOf i).toNat)
      case atStart => exact ⟨1, by omega, by omega, rfl, B⟩
      case round =>
        obtain ⟨k, hk1, hkM, rfl, Br⟩ := hrel
        by_cases hlt : k ≤ 3999
        · have q := HP.out k hk1 hlt
          generalize hlk : cTextN k 1 = lk at *
          have HL := Lib.hid hlk
          clear hlk
          have hk9 : (k : Int) ≤ 3999 := by omega
          go_wp2_with fail
          refine (rtext_nat k 1 lk _ (by omega) HL.out).mono ?_
          rintro e w6 ⟨rfl, hb⟩
          replace Br := Br.trans (hb.mono Br.size)
          clear hb
          go_wp2_with fail
          go_roundw
          case rel => exact ⟨k + 1, by omega, by omega, by go_num, Br⟩
          case measure => simp [intOf]; omega
        · have hk9 : decide ((k : Int) ≤ 3999) = false := by simp; omega
          go_wp2_with fail
          go_ret2
          exact ⟨rfl, Br⟩
  · have HF := Lib.hid fa2
    clear fa2
    rcases FB with fb | fb | ⟨kb, tb, rfl, fb1, fb2, fb3⟩
    · have g3 : decide ((0 : Int) ≤ b) = false := by simp; omega
      go_enter Tryd.func16, Tryd.ntmps16
      go_wp2_with fail
      refine (read_d l ka _ hl Ha.out).mono ?_
      rintro e w' ⟨rfl, rfl⟩
      go_wp2_with fail
      refine (read_a l b _ hl Hb.out).mono ?_
      rintro e w' ⟨rfl, rfl⟩
      go_wp2_with fail
      refine (rtext_nat ka 1 ta _ fa1 HF.out).mono ?_
      rintro e w1 ⟨rfl, hb⟩
      replace B := B.trans (hb.mono B.size)
      clear hb
      go_wp2_with fail
      go_loopw [8] (fun i wr => ∃ k : Nat, 1 ≤ k ∧ k ≤ 4000 ∧ i = .int .i64 k ∧ Below w.heap.size w wr) (fun i _ => 4000 - (intOf i).toNat)
      case atStart => exact ⟨1, by omega, by omega, rfl, B⟩
      case round =>
        obtain ⟨k, hk1, hkM, rfl, Br⟩ := hrel
        by_cases hlt : k ≤ 3999
        · have q := HP.out k hk1 hlt
          generalize hlk : cTextN k 1 = lk at *
          have HL := Lib.hid hlk
          clear hlk
          have hk9 : (k : Int) ≤ 3999 := by omega
          go_wp2_with fail
          refine (rtext_nat k 1 lk _ (by omega) HL.out).mono ?_
          rintro e w6 ⟨rfl, hb⟩
          replace Br := Br.trans (hb.mono Br.size)
          clear hb
          go_wp2_with fail
          go_roundw
          case rel => exact ⟨k + 1, by omega, by omega, by go_num, Br⟩
          case measure => simp [intOf]; omega
        · have hk9 : decide ((k : Int) ≤ 3999) = false := by simp; omega
          go_wp2_with fail
          go_ret2
          exact ⟨rfl, Br⟩
    · have g3 : (0 : Int) ≤ b := by omega
      have g4 : decide (b ≤ 999999) = false := by simp; omega
      go_enter Tryd.func16, Tryd.ntmps16
      go_wp2_with fail
      refine (read_d l ka _ hl Ha.out).mono ?_
      rintro e w' ⟨rfl, rfl⟩
      go_wp2_with fail
      refine (read_a l b _ hl Hb.out).mono ?_
      rintro e w' ⟨rfl, rfl⟩
      go_wp2_with fail
      refine (rtext_nat ka 1 ta _ fa1 HF.out).mono ?_
      rintro e w1 ⟨rfl, hb⟩
      replace B := B.trans (hb.mono B.size)
      clear hb
      go_wp2_with fail
      go_loopw [8] (fun i wr => ∃ k : Nat, 1 ≤ k ∧ k ≤ 4000 ∧ i = .int .i64 k ∧ Below w.heap.size w wr) (fun i _ => 4000 - (intOf i).toNat)
      case atStart => exact ⟨1, by omega, by omega, rfl, B⟩
      case round =>
        obtain ⟨k, hk1, hkM, rfl, Br⟩ := hrel
        by_cases hlt : k ≤ 3999
        · have q := HP.out k hk1 hlt
          generalize hlk : cTextN k 1 = lk at *
          have HL := Lib.hid hlk
          clear hlk
          have hk9 : (k : Int) ≤ 3999 := by omega
          go_wp2_with fail
          refine (rtext_nat k 1 lk _ (by omega) HL.out).mono ?_
          rintro e w6 ⟨rfl, hb⟩
          replace Br := Br.trans (hb.mono Br.size)
          clear hb
          go_wp2_with fail
          go_roundw
          case rel => exact ⟨k + 1, by omega, by omega, by go_num, Br⟩
          case measure => simp [intOf]; omega
        · have hk9 : decide ((k : Int) ≤ 3999) = false := by simp; omega
          go_wp2_with fail
          go_ret2
          exact ⟨rfl, Br⟩
    · have HG := Lib.hid fb2
      clear fb2
      go_enter Tryd.func16, Tryd.ntmps16
      go_wp2_with fail
      refine (read_d l ka _ hl Ha.out).mono ?_
      rintro e w' ⟨rfl, rfl⟩
      go_wp2_with fail
      refine (read_a l kb _ hl Hb.out).mono ?_
      rintro e w' ⟨rfl, rfl⟩
      go_wp2_with fail
      refine (rtext_nat ka 1 ta _ fa1 HF.out).mono ?_
      rintro e w1 ⟨rfl, hb⟩
      replace B := B.trans (hb.mono B.size)
      clear hb
      go_wp2_with fail
      refine (rtext_nat kb 1 tb _ fb1 HG.out).mono ?_
      rintro e w2 ⟨rfl, hb⟩
      replace B := B.trans (hb.mono B.size)
      clear hb
      go_wp2_with fail
      go_loopw [8] (fun i wr => ∃ k : Nat, 1 ≤ k ∧ k ≤ 4000 ∧ i = .int .i64 k ∧ Below w.heap.size w wr) (fun i _ => 4000 - (intOf i).toNat)
      case atStart => exact ⟨1, by omega, by omega, rfl, B⟩
      case round =>
        obtain ⟨k, hk1, hkM, rfl, Br⟩ := hrel
        by_cases hlt : k ≤ 3999
        · have q := HP.out k hk1 hlt
          generalize hlk : cTextN k 1 = lk at *
          have HL := Lib.hid hlk
          clear hlk
          have hk9 : (k : Int) ≤ 3999 := by omega
          go_wp2_with fail
          refine (rtext_nat k 1 lk _ (by omega) HL.out).mono ?_
          rintro e w6 ⟨rfl, hb⟩
          replace Br := Br.trans (hb.mono Br.size)
          clear hb
          go_wp2_with fail
          go_roundw
          case rel => exact ⟨k + 1, by omega, by omega, by go_num, Br⟩
          case measure => simp [intOf]; omega
        · have hk9 : decide ((k : Int) ≤ 3999) = false := by simp; omega
          go_wp2_with fail
          go_ret2
          exact ⟨rfl, Br⟩
set_option maxRecDepth 100000 in
set_option maxHeartbeats 2000000 in
theorem rv_third2 (l : List UInt8) (a b : Int) (w : World) (hl : l.length ≤ 1000) (Ha : Hid (rdGo 48 10 0 0 l = a)) (Hb : Hid (rdGo 97 26 1 0 l = b)) (FA : Fails a 2 l) (FB : Fails b 2 l) (M : Nat) (hM1 : 1 ≤ M) (hM9 : M ≤ 3999) (HP : Hid (∀ n : Nat, 1 ≤ n → n ≤ 3999 → (cTextN n 2 == l) = decide (n = M))) :
    Calls Tryd.prog 16 #[.string ⟨l.toArray⟩, .int .i64 2] w fun x w' => x = .returned (.tuple #[.int .i64 M, .int .i64 0]) ∧ Below w.heap.size w w' := by
  have B : Below w.heap.size w w := Below.refl _ _
  rcases FA with fa | fa | ⟨ka, ta, rfl, fa1, fa2, fa3⟩
  · have g1 : decide ((0 : Int) ≤ a) = false := by simp; omega
    rcases FB with fb | fb | ⟨kb, tb, rfl, fb1, fb2, fb3⟩
    · have g3 : decide ((0 : Int) ≤ b) = false := by simp; omega
      go_enter Tryd.func16, Tryd.ntmps16
      go_wp2_with fail
      refine (read_d l a _ hl Ha.out).mono ?_
      rintro e w' ⟨rfl, rfl⟩
      go_wp2_with fail
      refine (read_a l b _ hl Hb.out).mono ?_
      rintro e w' ⟨rfl, rfl⟩

      go_wp2_with fail
      go_loopw [8] (fun i wr => ∃ k : Nat, 1 ≤ k ∧ k ≤ M ∧ i = .int .i64 k ∧ Below w.heap.size w wr) (fun i _ => M - (intOf i).toNat)
      case atStart => exact ⟨1, by omega, hM1, rfl, B⟩
      case round =>
        obtain ⟨k, hk1, hkM, rfl, Br⟩ := hrel
        have HK := Lib.hid (HP.out k hk1 (by omega))
        generalize hlk : cTextN k 2 = lk at *
        have HL := Lib.hid hlk
        clear hlk
        have hk9 : (k : Int) ≤ 3999 := by omega
        by_cases heq : k = M
        · have q : (lk == l) = true := by rw [HK.out]; simpa using heq
          have HQ := Lib.hid heq
          clear heq
          go_wp2_with fail
          refine (rtext_nat k 2 lk _ (by omega) HL.out).mono ?_
          rintro e w6 ⟨rfl, hb⟩
          go_wp2_with fail
          go_ret2
          exact ⟨ret_two (by have := HQ.out; omega) rfl, Br.trans (hb.mono Br.size)⟩
        · have q : (lk == l) = false := by rw [HK.out]; simpa using heq
          go_wp2_with fail
          refine (rtext_nat k 2 lk _ (by omega) HL.out).mono ?_
          rintro e w6 ⟨rfl, hb⟩
          replace Br := Br.trans (hb.mono Br.size)
          clear hb
          go_wp2_with fail
          go_roundw
          case rel => exact ⟨k + 1, by omega, by omega, by go_num, Br⟩
          case measure => simp [intOf]; omega
    · have g3 : (0 : Int) ≤ b := by omega
      have g4 : decide (b ≤ 999999) = false := by simp; omega
      go_enter Tryd.func16, Tryd.ntmps16
      go_wp2_with fail
      refine (read_d l a _ hl Ha.out).mono ?_
      rintro e w' ⟨rfl, rfl⟩
      go_wp2_with fail
      refine (read_a l b _ hl Hb.out).mono ?_
      rintro e w' ⟨rfl, rfl⟩

      go_wp2_with fail
      go_loopw [8] (fun i wr => ∃ k : Nat, 1 ≤ k ∧ k ≤ M ∧ i = .int .i64 k ∧ Below w.heap.size w wr) (fun i _ => M - (intOf i).toNat)
      case atStart => exact ⟨1, by omega, hM1, rfl, B⟩
      case round =>
        obtain ⟨k, hk1, hkM, rfl, Br⟩ := hrel
        have HK := Lib.hid (HP.out k hk1 (by omega))
        generalize hlk : cTextN k 2 = lk at *
        have HL := Lib.hid hlk
        clear hlk
        have hk9 : (k : Int) ≤ 3999 := by omega
        by_cases heq : k = M
        · have q : (lk == l) = true := by rw [HK.out]; simpa using heq
          have HQ := Lib.hid heq
          clear heq
          go_wp2_with fail
          refine (rtext_nat k 2 lk _ (by omega) HL.out).mono ?_
          rintro e w6 ⟨rfl, hb⟩
          go_wp2_with fail
          go_ret2
          exact ⟨ret_two (by have := HQ.out; omega) rfl, Br.trans (hb.mono Br.size)⟩
        · have q : (lk == l) = false := by rw [HK.out]; simpa using heq
          go_wp2_with fail
          refine (rtext_nat k 2 lk _ (by omega) HL.out).mono ?_
          rintro e w6 ⟨rfl, hb⟩
          replace Br := Br.trans (hb.mono Br.size)
          clear hb
          go_wp2_with fail
          go_roundw
          case rel => exact ⟨k + 1, by omega, by omega, by go_num, Br⟩
          case measure => simp [intOf]; omega
    · have HG := Lib.hid fb2
      clear fb2
      go_enter Tryd.func16, Tryd.ntmps16
      go_wp2_with fail
      refine (read_d l a _ hl Ha.out).mono ?_
      rintro e w' ⟨rfl, rfl⟩
      go_wp2_with fail
      refine (read_a l kb _ hl Hb.out).mono ?_
      rintro e w' ⟨rfl, rfl⟩

      go_wp2_with fail
      refine (rtext_nat kb 2 tb _ fb1 HG.out).mono ?_
      rintro e w2 ⟨rfl, hb⟩
      replace B := B.trans (hb.mono B.size)
      clear hb
      go_wp2_with fail
      go_loopw [8] (fun i wr => ∃ k : Nat, 1 ≤ k ∧ k ≤ M ∧ i = .int .i64 k ∧ Below w.heap.size w wr) (fun i _ => M - (intOf i).toNat)
      case atStart => exact ⟨1, by omega, hM1, rfl, B⟩
      case round =>
        obtain ⟨k, hk1, hkM, rfl, Br⟩ := hrel
        have HK := Lib.hid (HP.out k hk1 (by omega))
        generalize hlk : cTextN k 2 = lk at *
        have HL := Lib.hid hlk
        clear hlk
        have hk9 : (k : Int) ≤ 3999 := by omega
        by_cases heq : k = M
        · have q : (lk == l) = true := by rw [HK.out]; simpa using heq
          have HQ := Lib.hid heq
          clear heq
          go_wp2_with fail
          refine (rtext_nat k 2 lk _ (by omega) HL.out).mono ?_
          rintro e w6 ⟨rfl, hb⟩
          go_wp2_with fail
          go_ret2
          exact ⟨ret_two (by have := HQ.out; omega) rfl, Br.trans (hb.mono Br.size)⟩
        · have q : (lk == l) = false := by rw [HK.out]; simpa using heq
          go_wp2_with fail
          refine (rtext_nat k 2 lk _ (by omega) HL.out).mono ?_
          rintro e w6 ⟨rfl, hb⟩
          replace Br := Br.trans (hb.mono Br.size)
          clear hb
          go_wp2_with fail
          go_roundw
          case rel => exact ⟨k + 1, by omega, by omega, by go_num, Br⟩
          case measure => simp [intOf]; omega
  · have g1 : (0 : Int) ≤ a := by omega
    have g2 : decide (a ≤ 999999) = false := by simp; omega
    rcases FB with fb | fb | ⟨kb, tb, rfl, fb1, fb2, fb3⟩
    · have g3 : decide ((0 : Int) ≤ b) = false := by simp; omega
      go_enter Tryd.func16, Tryd.ntmps16
      go_wp2_with fail
      refine (read_d l a _ hl Ha.out).mono ?_
      rintro e w' ⟨rfl, rfl⟩
      go_wp2_with fail
      refine (read_a l b _ hl Hb.out).mono ?_
      rintro e w' ⟨rfl, rfl⟩

      go_wp2_with fail
      go_loopw [8] (fun i wr => ∃ k : Nat, 1 ≤ k ∧ k ≤ M ∧ i = .int .i64 k ∧ Below w.heap.size w wr) (fun i _ => M - (intOf i).toNat)
      case atStart => exact ⟨1, by omega, hM1, rfl, B⟩
      case round =>
        obtain ⟨k, hk1, hkM, rfl, Br⟩ := hrel
        have HK := Lib.hid (HP.out k hk1 (by omega))
        generalize hlk : cTextN k 2 = lk at *
        have HL := Lib.hid hlk
        clear hlk
        have hk9 : (k : Int) ≤ 3999 := by omega
        by_cases heq : k = M
        · have q : (lk == l) = true := by rw [HK.out]; simpa using heq
          have HQ := Lib.hid heq
          clear heq
          go_wp2_with fail
          refine (rtext_nat k 2 lk _ (by omega) HL.out).mono ?_
          rintro e w6 ⟨rfl, hb⟩
          go_wp2_with fail
          go_ret2
          exact ⟨ret_two (by have := HQ.out; omega) rfl, Br.trans (hb.mono Br.size)⟩
        · have q : (lk == l) = false := by rw [HK.out]; simpa using heq
          go_wp2_with fail
          refine (rtext_nat k 2 lk _ (by omega) HL.out).mono ?_
          rintro e w6 ⟨rfl, hb⟩
          replace Br := Br.trans (hb.mono Br.size)
          clear hb
          go_wp2_with fail
          go_roundw
          case rel => exact ⟨k + 1, by omega, by omega, by go_num, Br⟩
          case measure => simp [intOf]; omega
    · have g3 : (0 : Int) ≤ b := by omega
      have g4 : decide (b ≤ 999999) = false := by simp; omega
      go_enter Tryd.func16, Tryd.ntmps16
      go_wp2_with fail
      refine (read_d l a _ hl Ha.out).mono ?_
      rintro e w' ⟨rfl, rfl⟩
      go_wp2_with fail
      refine (read_a l b _ hl Hb.out).mono ?_
      rintro e w' ⟨rfl, rfl⟩

      go_wp2_with fail
      go_loopw [8] (fun i wr => ∃ k : Nat, 1 ≤ k ∧ k ≤ M ∧ i = .int .i64 k ∧ Below w.heap.size w wr) (fun i _ => M - (intOf i).toNat)
      case atStart => exact ⟨1, by omega, hM1, rfl, B⟩
      case round =>
        obtain ⟨k, hk1, hkM, rfl, Br⟩ := hrel
        have HK := Lib.hid (HP.out k hk1 (by omega))
        generalize hlk : cTextN k 2 = lk at *
        have HL := Lib.hid hlk
        clear hlk
        have hk9 : (k : Int) ≤ 3999 := by omega
        by_cases heq : k = M
        · have q : (lk == l) = true := by rw [HK.out]; simpa using heq
          have HQ := Lib.hid heq
          clear heq
          go_wp2_with fail
          refine (rtext_nat k 2 lk _ (by omega) HL.out).mono ?_
          rintro e w6 ⟨rfl, hb⟩
          go_wp2_with fail
          go_ret2
          exact ⟨ret_two (by have := HQ.out; omega) rfl, Br.trans (hb.mono Br.size)⟩
        · have q : (lk == l) = false := by rw [HK.out]; simpa using heq
          go_wp2_with fail
          refine (rtext_nat k 2 lk _ (by omega) HL.out).mono ?_
          rintro e w6 ⟨rfl, hb⟩
          replace Br := Br.trans (hb.mono Br.size)
          clear hb
          go_wp2_with fail
          go_roundw
          case rel => exact ⟨k + 1, by omega, by omega, by go_num, Br⟩
          case measure => simp [intOf]; omega
    · have HG := Lib.hid fb2
      clear fb2
      go_enter Tryd.func16, Tryd.ntmps16
      go_wp2_with fail
      refine (read_d l a _ hl Ha.out).mono ?_
      rintro e w' ⟨rfl, rfl⟩
      go_wp2_with fail
      refine (read_a l kb _ hl Hb.out).mono ?_
      rintro e w' ⟨rfl, rfl⟩

      go_wp2_with fail
      refine (rtext_nat kb 2 tb _ fb1 HG.out).mono ?_
      rintro e w2 ⟨rfl, hb⟩
      replace B := B.trans (hb.mono B.size)
      clear hb
      go_wp2_with fail
      go_loopw [8] (fun i wr => ∃ k : Nat, 1 ≤ k ∧ k ≤ M ∧ i = .int .i64 k ∧ Below w.heap.size w wr) (fun i _ => M - (intOf i).toNat)
      case atStart => exact ⟨1, by omega, hM1, rfl, B⟩
      case round =>
        obtain ⟨k, hk1, hkM, rfl, Br⟩ := hrel
        have HK := Lib.hid (HP.out k hk1 (by omega))
        generalize hlk : cTextN k 2 = lk at *
        have HL := Lib.hid hlk
        clear hlk
        have hk9 : (k : Int) ≤ 3999 := by omega
        by_cases heq : k = M
        · have q : (lk == l) = true := by rw [HK.out]; simpa using heq
          have HQ := Lib.hid heq
          clear heq
          go_wp2_with fail
          refine (rtext_nat k 2 lk _ (by omega) HL.out).mono ?_
          rintro e w6 ⟨rfl, hb⟩
          go_wp2_with fail
          go_ret2
          exact ⟨ret_two (by have := HQ.out; omega) rfl, Br.trans (hb.mono Br.size)⟩
        · have q : (lk == l) = false := by rw [HK.out]; simpa using heq
          go_wp2_with fail
          refine (rtext_nat k 2 lk _ (by omega) HL.out).mono ?_
          rintro e w6 ⟨rfl, hb⟩
          replace Br := Br.trans (hb.mono Br.size)
          clear hb
          go_wp2_with fail
          go_roundw
          case rel => exact ⟨k + 1, by omega, by omega, by go_num, Br⟩
          case measure => simp [intOf]; omega
  · have HF := Lib.hid fa2
    clear fa2
    rcases FB with fb | fb | ⟨kb, tb, rfl, fb1, fb2, fb3⟩
    · have g3 : decide ((0 : Int) ≤ b) = false := by simp; omega
      go_enter Tryd.func16, Tryd.ntmps16
      go_wp2_with fail
      refine (read_d l ka _ hl Ha.out).mono ?_
      rintro e w' ⟨rfl, rfl⟩
      go_wp2_with fail
      refine (read_a l b _ hl Hb.out).mono ?_
      rintro e w' ⟨rfl, rfl⟩
      go_wp2_with fail
      refine (rtext_nat ka 2 ta _ fa1 HF.out).mono ?_
      rintro e w1 ⟨rfl, hb⟩
      replace B := B.trans (hb.mono B.size)
      clear hb
      go_wp2_with fail
      go_loopw [8] (fun i wr => ∃ k : Nat, 1 ≤ k ∧ k ≤ M ∧ i = .int .i64 k ∧ Below w.heap.size w wr) (fun i _ => M - (intOf i).toNat)
      case atStart => exact ⟨1, by omega, hM1, rfl, B⟩
      case round =>
        obtain ⟨k, hk1, hkM, rfl, Br⟩ := hrel
        have HK := Lib.hid (HP.out k hk1 (by omega))
        generalize hlk : cTextN k 2 = lk at *
        have HL := Lib.hid hlk
        clear hlk
        have hk9 : (k : Int) ≤ 3999 := by omega
        by_cases heq : k = M
        · have q : (lk == l) = true := by rw [HK.out]; simpa using heq
          have HQ := Lib.hid heq
          clear heq
          go_wp2_with fail
          refine (rtext_nat k 2 lk _ (by omega) HL.out).mono ?_
          rintro e w6 ⟨rfl, hb⟩
          go_wp2_with fail
          go_ret2
          exact ⟨ret_two (by have := HQ.out; omega) rfl, Br.trans (hb.mono Br.size)⟩
        · have q : (lk == l) = false := by rw [HK.out]; simpa using heq
          go_wp2_with fail
          refine (rtext_nat k 2 lk _ (by omega) HL.out).mono ?_
          rintro e w6 ⟨rfl, hb⟩
          replace Br := Br.trans (hb.mono Br.size)
          clear hb
          go_wp2_with fail
          go_roundw
          case rel => exact ⟨k + 1, by omega, by omega, by go_num, Br⟩
          case measure => simp [intOf]; omega
    · have g3 : (0 : Int) ≤ b := by omega
      have g4 : decide (b ≤ 999999) = false := by simp; omega
      go_enter Tryd.func16, Tryd.ntmps16
      go_wp2_with fail
      refine (read_d l ka _ hl Ha.out).mono ?_
      rintro e w' ⟨rfl, rfl⟩
      go_wp2_with fail
      refine (read_a l b _ hl Hb.out).mono ?_
      rintro e w' ⟨rfl, rfl⟩
      go_wp2_with fail
      refine (rtext_nat ka 2 ta _ fa1 HF.out).mono ?_
      rintro e w1 ⟨rfl, hb⟩
      replace B := B.trans (hb.mono B.size)
      clear hb
      go_wp2_with fail
      go_loopw [8] (fun i wr => ∃ k : Nat, 1 ≤ k ∧ k ≤ M ∧ i = .int .i64 k ∧ Below w.heap.size w wr) (fun i _ => M - (intOf i).toNat)
      case atStart => exact ⟨1, by omega, hM1, rfl, B⟩
      case round =>
        obtain ⟨k, hk1, hkM, rfl, Br⟩ := hrel
        have HK := Lib.hid (HP.out k hk1 (by omega))
        generalize hlk : cTextN k 2 = lk at *
        have HL := Lib.hid hlk
        clear hlk
        have hk9 : (k : Int) ≤ 3999 := by omega
        by_cases heq : k = M
        · have q : (lk == l) = true := by rw [HK.out]; simpa using heq
          have HQ := Lib.hid heq
          clear heq
          go_wp2_with fail
          refine (rtext_nat k 2 lk _ (by omega) HL.out).mono ?_
          rintro e w6 ⟨rfl, hb⟩
          go_wp2_with fail
          go_ret2
          exact ⟨ret_two (by have := HQ.out; omega) rfl, Br.trans (hb.mono Br.size)⟩
        · have q : (lk == l) = false := by rw [HK.out]; simpa using heq
          go_wp2_with fail
          refine (rtext_nat k 2 lk _ (by omega) HL.out).mono ?_
          rintro e w6 ⟨rfl, hb⟩
          replace Br := Br.trans (hb.mono Br.size)
          clear hb
          go_wp2_with fail
          go_roundw
          case rel => exact ⟨k + 1, by omega, by omega, by go_num, Br⟩
          case measure => simp [intOf]; omega
    · have HG := Lib.hid fb2
      clear fb2
      go_enter Tryd.func16, Tryd.ntmps16
      go_wp2_with fail
      refine (read_d l ka _ hl Ha.out).mono ?_
      rintro e w' ⟨rfl, rfl⟩
      go_wp2_with fail
      refine (read_a l kb _ hl Hb.out).mono ?_
      rintro e w' ⟨rfl, rfl⟩
      go_wp2_with fail
      refine (rtext_nat ka 2 ta _ fa1 HF.out).mono ?_
      rintro e w1 ⟨rfl, hb⟩
      replace B := B.trans (hb.mono B.size)
      clear hb
      go_wp2_with fail
      refine (rtext_nat kb 2 tb _ fb1 HG.out).mono ?_
      rintro e w2 ⟨rfl, hb⟩
      replace B := B.trans (hb.mono B.size)
      clear hb
      go_wp2_with fail
      go_loopw [8] (fun i wr => ∃ k : Nat, 1 ≤ k ∧ k ≤ M ∧ i = .int .i64 k ∧ Below w.heap.size w wr) (fun i _ => M - (intOf i).toNat)
      case atStart => exact ⟨1, by omega, hM1, rfl, B⟩
      case round =>
        obtain ⟨k, hk1, hkM, rfl, Br⟩ := hrel
        have HK := Lib.hid (HP.out k hk1 (by omega))
        generalize hlk : cTextN k 2 = lk at *
        have HL := Lib.hid hlk
        clear hlk
        have hk9 : (k : Int) ≤ 3999 := by omega
        by_cases heq : k = M
        · have q : (lk == l) = true := by rw [HK.out]; simpa using heq
          have HQ := Lib.hid heq
          clear heq
          go_wp2_with fail
          refine (rtext_nat k 2 lk _ (by omega) HL.out).mono ?_
          rintro e w6 ⟨rfl, hb⟩
          go_wp2_with fail
          go_ret2
          exact ⟨ret_two (by have := HQ.out; omega) rfl, Br.trans (hb.mono Br.size)⟩
        · have q : (lk == l) = false := by rw [HK.out]; simpa using heq
          go_wp2_with fail
          refine (rtext_nat k 2 lk _ (by omega) HL.out).mono ?_
          rintro e w6 ⟨rfl, hb⟩
          replace Br := Br.trans (hb.mono Br.size)
          clear hb
          go_wp2_with fail
          go_roundw
          case rel => exact ⟨k + 1, by omega, by omega, by go_num, Br⟩
          case measure => simp [intOf]; omega
set_option maxRecDepth 100000 in
set_option maxHeartbeats 2000000 in
theorem rv_none2 (l : List UInt8) (a b : Int) (w : World) (hl : l.length ≤ 1000) (Ha : Hid (rdGo 48 10 0 0 l = a)) (Hb : Hid (rdGo 97 26 1 0 l = b)) (FA : Fails a 2 l) (FB : Fails b 2 l) (HP : Hid (∀ n : Nat, 1 ≤ n → n ≤ 3999 → (cTextN n 2 == l) = false)) :
    Calls Tryd.prog 16 #[.string ⟨l.toArray⟩, .int .i64 2] w fun x w' => x = .returned (.tuple #[.int .i64 0, .int .i64 5]) ∧ Below w.heap.size w w' := by
  have B : Below w.heap.size w w := Below.refl _ _
  rcases FA with fa | fa | ⟨ka, ta, rfl, fa1, fa2, fa3⟩
  · have g1 : decide ((0 : Int) ≤ a) = false := by simp; omega
    rcases FB with fb | fb | ⟨kb, tb, rfl, fb1, fb2, fb3⟩
    · have g3 : decide ((0 : Int) ≤ b) = false := by simp; omega
      go_enter Tryd.func16, Tryd.ntmps16
      go_wp2_with fail
      refine (read_d l a _ hl Ha.out).mono ?_
      rintro e w' ⟨rfl, rfl⟩
      go_wp2_with fail
      refine (read_a l b _ hl Hb.out).mono ?_
      rintro e w' ⟨rfl, rfl⟩

      go_wp2_with fail
      go_loopw [8] (fun i wr => ∃ k : Nat, 1 ≤ k ∧ k ≤ 4000 ∧ i = .int .i64 k ∧ Below w.heap.size w wr) (fun i _ => 4000 - (intOf i).toNat)
      case atStart => exact ⟨1, by omega, by omega, rfl, B⟩
      case round =>
        obtain ⟨k, hk1, hkM, rfl, Br⟩ := hrel
        by_cases hlt : k ≤ 3999
        · have q := HP.out k hk1 hlt
          generalize hlk : cTextN k 2 = lk at *
          have HL := Lib.hid hlk
          clear hlk
          have hk9 : (k : Int) ≤ 3999 := by omega
          go_wp2_with fail
          refine (rtext_nat k 2 lk _ (by omega) HL.out).mono ?_
          rintro e w6 ⟨rfl, hb⟩
          replace Br := Br.trans (hb.mono Br.size)
          clear hb
          go_wp2_with fail
          go_roundw
          case rel => exact ⟨k + 1, by omega, by omega, by go_num, Br⟩
          case measure => simp [intOf]; omega
        · have hk9 : decide ((k : Int) ≤ 3999) = false := by simp; omega
          go_wp2_with fail
          go_ret2
          exact ⟨rfl, Br⟩
    · have g3 : (0 : Int) ≤ b := by omega
      have g4 : decide (b ≤ 999999) = false := by simp; omega
      go_enter Tryd.func16, Tryd.ntmps16
      go_wp2_with fail
      refine (read_d l a _ hl Ha.out).mono ?_
      rintro e w' ⟨rfl, rfl⟩
      go_wp2_with fail
      refine (read_a l b _ hl Hb.out).mono ?_
      rintro e w' ⟨rfl, rfl⟩

      go_wp2_with fail
      go_loopw [8] (fun i wr => ∃ k : Nat, 1 ≤ k ∧ k ≤ 4000 ∧ i = .int .i64 k ∧ Below w.heap.size w wr) (fun i _ => 4000 - (intOf i).toNat)
      case atStart => exact ⟨1, by omega, by omega, rfl, B⟩
      case round =>
        obtain ⟨k, hk1, hkM, rfl, Br⟩ := hrel
        by_cases hlt : k ≤ 3999
        · have q := HP.out k hk1 hlt
          generalize hlk : cTextN k 2 = lk at *
          have HL := Lib.hid hlk
          clear hlk
          have hk9 : (k : Int) ≤ 3999 := by omega
          go_wp2_with fail
          refine (rtext_nat k 2 lk _ (by omega) HL.out).mono ?_
          rintro e w6 ⟨rfl, hb⟩
          replace Br := Br.trans (hb.mono Br.size)
          clear hb
          go_wp2_with fail
          go_roundw
          case rel => exact ⟨k + 1, by omega, by omega, by go_num, Br⟩
          case measure => simp [intOf]; omega
        · have hk9 : decide ((k : Int) ≤ 3999) = false := by simp; omega
          go_wp2_with fail
          go_ret2
          exact ⟨rfl, Br⟩
    · have HG := Lib.hid fb2
      clear fb2
      go_enter Tryd.func16, Tryd.ntmps16
      go_wp2_with fail
      refine (read_d l a _ hl Ha.out).mono ?_
      rintro e w' ⟨rfl, rfl⟩
      go_wp2_with fail
      refine (read_a l kb _ hl Hb.out).mono ?_
      rintro e w' ⟨rfl, rfl⟩

      go_wp2_with fail
      refine (rtext_nat kb 2 tb _ fb1 HG.out).mono ?_
      rintro e w2 ⟨rfl, hb⟩
      replace B := B.trans (hb.mono B.size)
      clear hb
      go_wp2_with fail
      go_loopw [8] (fun i wr => ∃ k : Nat, 1 ≤ k ∧ k ≤ 4000 ∧ i = .int .i64 k ∧ Below w.heap.size w wr) (fun i _ => 4000 - (intOf i).toNat)
      case atStart => exact ⟨1, by omega, by omega, rfl, B⟩
      case round =>
        obtain ⟨k, hk1, hkM, rfl, Br⟩ := hrel
        by_cases hlt : k ≤ 3999
        · have q := HP.out k hk1 hlt
          generalize hlk : cTextN k 2 = lk at *
          have HL := Lib.hid hlk
          clear hlk
          have hk9 : (k : Int) ≤ 3999 := by omega
          go_wp2_with fail
          refine (rtext_nat k 2 lk _ (by omega) HL.out).mono ?_
          rintro e w6 ⟨rfl, hb⟩
          replace Br := Br.trans (hb.mono Br.size)
          clear hb
          go_wp2_with fail
          go_roundw
          case rel => exact ⟨k + 1, by omega, by omega, by go_num, Br⟩
          case measure => simp [intOf]; omega
        · have hk9 : decide ((k : Int) ≤ 3999) = false := by simp; omega
          go_wp2_with fail
          go_ret2
          exact ⟨rfl, Br⟩
  · have g1 : (0 : Int) ≤ a := by omega
    have g2 : decide (a ≤ 999999) = false := by simp; omega
    rcases FB with fb | fb | ⟨kb, tb, rfl, fb1, fb2, fb3⟩
    · have g3 : decide ((0 : Int) ≤ b) = false := by simp; omega
      go_enter Tryd.func16, Tryd.ntmps16
      go_wp2_with fail
      refine (read_d l a _ hl Ha.out).mono ?_
      rintro e w' ⟨rfl, rfl⟩
      go_wp2_with fail
      refine (read_a l b _ hl Hb.out).mono ?_
      rintro e w' ⟨rfl, rfl⟩

      go_wp2_with fail
      go_loopw [8] (fun i wr => ∃ k : Nat, 1 ≤ k ∧ k ≤ 4000 ∧ i = .int .i64 k ∧ Below w.heap.size w wr) (fun i _ => 4000 - (intOf i).toNat)
      case atStart => exact ⟨1, by omega, by omega, rfl, B⟩
      case round =>
        obtain ⟨k, hk1, hkM, rfl, Br⟩ := hrel
        by_cases hlt : k ≤ 3999
        · have q := HP.out k hk1 hlt
          generalize hlk : cTextN k 2 = lk at *
          have HL := Lib.hid hlk
          clear hlk
          have hk9 : (k : Int) ≤ 3999 := by omega
          go_wp2_with fail
          refine (rtext_nat k 2 lk _ (by omega) HL.out).mono ?_
          rintro e w6 ⟨rfl, hb⟩
          replace Br := Br.trans (hb.mono Br.size)
          clear hb
          go_wp2_with fail
          go_roundw
          case rel => exact ⟨k + 1, by omega, by omega, by go_num, Br⟩
          case measure => simp [intOf]; omega
        · have hk9 : decide ((k : Int) ≤ 3999) = false := by simp; omega
          go_wp2_with fail
          go_ret2
          exact ⟨rfl, Br⟩
    · have g3 : (0 : Int) ≤ b := by omega
      have g4 : decide (b ≤ 999999) = false := by simp; omega
      go_enter Tryd.func16, Tryd.ntmps16
      go_wp2_with fail
      refine (read_d l a _ hl Ha.out).mono ?_
      rintro e w' ⟨rfl, rfl⟩
      go_wp2_with fail
      refine (read_a l b _ hl Hb.out).mono ?_
      rintro e w' ⟨rfl, rfl⟩

      go_wp2_with fail
      go_loopw [8] (fun i wr => ∃ k : Nat, 1 ≤ k ∧ k ≤ 4000 ∧ i = .int .i64 k ∧ Below w.heap.size w wr) (fun i _ => 4000 - (intOf i).toNat)
      case atStart => exact ⟨1, by omega, by omega, rfl, B⟩
      case round =>
        obtain ⟨k, hk1, hkM, rfl, Br⟩ := hrel
        by_cases hlt : k ≤ 3999
        · have q := HP.out k hk1 hlt
          generalize hlk : cTextN k 2 = lk at *
          have HL := Lib.hid hlk
          clear hlk
          have hk9 : (k : Int) ≤ 3999 := by omega
          go_wp2_with fail
          refine (rtext_nat k 2 lk _ (by omega) HL.out).mono ?_
          rintro e w6 ⟨rfl, hb⟩
          replace Br := Br.trans (hb.mono Br.size)
          clear hb
          go_wp2_with fail
          go_roundw
          case rel => exact ⟨k + 1, by omega, by omega, by go_num, Br⟩
          case measure => simp [intOf]; omega
        · have hk9 : decide ((k : Int) ≤ 3999) = false := by simp; omega
          go_wp2_with fail
          go_ret2
          exact ⟨rfl, Br⟩
    · have HG := Lib.hid fb2
      clear fb2
      go_enter Tryd.func16, Tryd.ntmps16
      go_wp2_with fail
      refine (read_d l a _ hl Ha.out).mono ?_
      rintro e w' ⟨rfl, rfl⟩
      go_wp2_with fail
      refine (read_a l kb _ hl Hb.out).mono ?_
      rintro e w' ⟨rfl, rfl⟩

      go_wp2_with fail
      refine (rtext_nat kb 2 tb _ fb1 HG.out).mono ?_
      rintro e w2 ⟨rfl, hb⟩
      replace B := B.trans (hb.mono B.size)
      clear hb
      go_wp2_with fail
      go_loopw [8] (fun i wr => ∃ k : Nat, 1 ≤ k ∧ k ≤ 4000 ∧ i = .int .i64 k ∧ Below w.heap.size w wr) (fun i _ => 4000 - (intOf i).toNat)
      case atStart => exact ⟨1, by omega, by omega, rfl, B⟩
      case round =>
        obtain ⟨k, hk1, hkM, rfl, Br⟩ := hrel
        by_cases hlt : k ≤ 3999
        · have q := HP.out k hk1 hlt
          generalize hlk : cTextN k 2 = lk at *
          have HL := Lib.hid hlk
          clear hlk
          have hk9 : (k : Int) ≤ 3999 := by omega
          go_wp2_with fail
          refine (rtext_nat k 2 lk _ (by omega) HL.out).mono ?_
          rintro e w6 ⟨rfl, hb⟩
          replace Br := Br.trans (hb.mono Br.size)
          clear hb
          go_wp2_with fail
          go_roundw
          case rel => exact ⟨k + 1, by omega, by omega, by go_num, Br⟩
          case measure => simp [intOf]; omega
        · have hk9 : decide ((k : Int) ≤ 3999) = false := by simp; omega
          go_wp2_with fail
          go_ret2
          exact ⟨rfl, Br⟩
  · have HF := Lib.hid fa2
    clear fa2
    rcases FB with fb | fb | ⟨kb, tb, rfl, fb1, fb2, fb3⟩
    · have g3 : decide ((0 : Int) ≤ b) = false := by simp; omega
      go_enter Tryd.func16, Tryd.ntmps16
      go_wp2_with fail
      refine (read_d l ka _ hl Ha.out).mono ?_
      rintro e w' ⟨rfl, rfl⟩
      go_wp2_with fail
      refine (read_a l b _ hl Hb.out).mono ?_
      rintro e w' ⟨rfl, rfl⟩
      go_wp2_with fail
      refine (rtext_nat ka 2 ta _ fa1 HF.out).mono ?_
      rintro e w1 ⟨rfl, hb⟩
      replace B := B.trans (hb.mono B.size)
      clear hb
      go_wp2_with fail
      go_loopw [8] (fun i wr => ∃ k : Nat, 1 ≤ k ∧ k ≤ 4000 ∧ i = .int .i64 k ∧ Below w.heap.size w wr) (fun i _ => 4000 - (intOf i).toNat)
      case atStart => exact ⟨1, by omega, by omega, rfl, B⟩
      case round =>
        obtain ⟨k, hk1, hkM, rfl, Br⟩ := hrel
        by_cases hlt : k ≤ 3999
        · have q := HP.out k hk1 hlt
          generalize hlk : cTextN k 2 = lk at *
          have HL := Lib.hid hlk
          clear hlk
          have hk9 : (k : Int) ≤ 3999 := by omega
          go_wp2_with fail
          refine (rtext_nat k 2 lk _ (by omega) HL.out).mono ?_
          rintro e w6 ⟨rfl, hb⟩
          replace Br := Br.trans (hb.mono Br.size)
          clear hb
          go_wp2_with fail
          go_roundw
          case rel => exact ⟨k + 1, by omega, by omega, by go_num, Br⟩
          case measure => simp [intOf]; omega
        · have hk9 : decide ((k : Int) ≤ 3999) = false := by simp; omega
          go_wp2_with fail
          go_ret2
          exact ⟨rfl, Br⟩
    · have g3 : (0 : Int) ≤ b := by omega
      have g4 : decide (b ≤ 999999) = false := by simp; omega
      go_enter Tryd.func16, Tryd.ntmps16
      go_wp2_with fail
      refine (read_d l ka _ hl Ha.out).mono ?_
      rintro e w' ⟨rfl, rfl⟩
      go_wp2_with fail
      refine (read_a l b _ hl Hb.out).mono ?_
      rintro e w' ⟨rfl, rfl⟩
      go_wp2_with fail
      refine (rtext_nat ka 2 ta _ fa1 HF.out).mono ?_
      rintro e w1 ⟨rfl, hb⟩
      replace B := B.trans (hb.mono B.size)
      clear hb
      go_wp2_with fail
      go_loopw [8] (fun i wr => ∃ k : Nat, 1 ≤ k ∧ k ≤ 4000 ∧ i = .int .i64 k ∧ Below w.heap.size w wr) (fun i _ => 4000 - (intOf i).toNat)
      case atStart => exact ⟨1, by omega, by omega, rfl, B⟩
      case round =>
        obtain ⟨k, hk1, hkM, rfl, Br⟩ := hrel
        by_cases hlt : k ≤ 3999
        · have q := HP.out k hk1 hlt
          generalize hlk : cTextN k 2 = lk at *
          have HL := Lib.hid hlk
          clear hlk
          have hk9 : (k : Int) ≤ 3999 := by omega
          go_wp2_with fail
          refine (rtext_nat k 2 lk _ (by omega) HL.out).mono ?_
          rintro e w6 ⟨rfl, hb⟩
          replace Br := Br.trans (hb.mono Br.size)
          clear hb
          go_wp2_with fail
          go_roundw
          case rel => exact ⟨k + 1, by omega, by omega, by go_num, Br⟩
          case measure => simp [intOf]; omega
        · have hk9 : decide ((k : Int) ≤ 3999) = false := by simp; omega
          go_wp2_with fail
          go_ret2
          exact ⟨rfl, Br⟩
    · have HG := Lib.hid fb2
      clear fb2
      go_enter Tryd.func16, Tryd.ntmps16
      go_wp2_with fail
      refine (read_d l ka _ hl Ha.out).mono ?_
      rintro e w' ⟨rfl, rfl⟩
      go_wp2_with fail
      refine (read_a l kb _ hl Hb.out).mono ?_
      rintro e w' ⟨rfl, rfl⟩
      go_wp2_with fail
      refine (rtext_nat ka 2 ta _ fa1 HF.out).mono ?_
      rintro e w1 ⟨rfl, hb⟩
      replace B := B.trans (hb.mono B.size)
      clear hb
      go_wp2_with fail
      refine (rtext_nat kb 2 tb _ fb1 HG.out).mono ?_
      rintro e w2 ⟨rfl, hb⟩
      replace B := B.trans (hb.mono B.size)
      clear hb
      go_wp2_with fail
      go_loopw [8] (fun i wr => ∃ k : Nat, 1 ≤ k ∧ k ≤ 4000 ∧ i = .int .i64 k ∧ Below w.heap.size w wr) (fun i _ => 4000 - (intOf i).toNat)
      case atStart => exact ⟨1, by omega, by omega, rfl, B⟩
      case round =>
        obtain ⟨k, hk1, hkM, rfl, Br⟩ := hrel
        by_cases hlt : k ≤ 3999
        · have q := HP.out k hk1 hlt
          generalize hlk : cTextN k 2 = lk at *
          have HL := Lib.hid hlk
          clear hlk
          have hk9 : (k : Int) ≤ 3999 := by omega
          go_wp2_with fail
          refine (rtext_nat k 2 lk _ (by omega) HL.out).mono ?_
          rintro e w6 ⟨rfl, hb⟩
          replace Br := Br.trans (hb.mono Br.size)
          clear hb
          go_wp2_with fail
          go_roundw
          case rel => exact ⟨k + 1, by omega, by omega, by go_num, Br⟩
          case measure => simp [intOf]; omega
        · have hk9 : decide ((k : Int) ≤ 3999) = false := by simp; omega
          go_wp2_with fail
          go_ret2
          exact ⟨rfl, Br⟩
set_option maxRecDepth 100000 in
set_option maxHeartbeats 2000000 in
theorem rv_other (style : Int) (l : List UInt8) (a b : Int) (w : World) (hl : l.length ≤ 1000) (Ha : Hid (rdGo 48 10 0 0 l = a)) (Hb : Hid (rdGo 97 26 1 0 l = b)) (e1 : (style == 1) = false) (e2 : (style == 2) = false) (FA : Fails a style l) (FB : Fails b style l) :
    Calls Tryd.prog 16 #[.string ⟨l.toArray⟩, .int .i64 style] w fun x w' => x = .returned (.tuple #[.int .i64 0, .int .i64 5]) ∧ Below w.heap.size w w' := by
  have B : Below w.heap.size w w := Below.refl _ _
  rcases FA with fa | fa | ⟨ka, ta, rfl, fa1, fa2, fa3⟩
  · have g1 : decide ((0 : Int) ≤ a) = false := by simp; omega
    rcases FB with fb | fb | ⟨kb, tb, rfl, fb1, fb2, fb3⟩
    · have g3 : decide ((0 : Int) ≤ b) = false := by simp; omega
      go_enter Tryd.func16, Tryd.ntmps16
      go_wp2_with fail
      refine (read_d l a _ hl Ha.out).mono ?_
      rintro e w' ⟨rfl, rfl⟩
      go_wp2_with fail
      refine (read_a l b _ hl Hb.out).mono ?_
      rintro e w' ⟨rfl, rfl⟩

      go_wp2_with fail
      go_loopw [8] (fun i wr => i = .int .i64 1 ∧ Below w.heap.size w wr) (fun i _ => 0)
      case atStart => exact ⟨rfl, B⟩
      case round =>
        obtain ⟨rfl, Br⟩ := hrel
        go_wp2_with fail
        go_ret2
        exact ⟨rfl, Br⟩
    · have g3 : (0 : Int) ≤ b := by omega
      have g4 : decide (b ≤ 999999) = false := by simp; omega
      go_enter Tryd.func16, Tryd.ntmps16
      go_wp2_with fail
      refine (read_d l a _ hl Ha.out).mono ?_
      rintro e w' ⟨rfl, rfl⟩
      go_wp2_with fail
      refine (read_a l b _ hl Hb.out).mono ?_
      rintro e w' ⟨rfl, rfl⟩

      go_wp2_with fail
      go_loopw [8] (fun i wr => i = .int .i64 1 ∧ Below w.heap.size w wr) (fun i _ => 0)
      case atStart => exact ⟨rfl, B⟩
      case round =>
        obtain ⟨rfl, Br⟩ := hrel
        go_wp2_with fail
        go_ret2
        exact ⟨rfl, Br⟩
    · have HG := Lib.hid fb2
      clear fb2
      go_enter Tryd.func16, Tryd.ntmps16
      go_wp2_with fail
      refine (read_d l a _ hl Ha.out).mono ?_
      rintro e w' ⟨rfl, rfl⟩
      go_wp2_with fail
      refine (read_a l kb _ hl Hb.out).mono ?_
      rintro e w' ⟨rfl, rfl⟩

      go_wp2_with fail
      refine (rtext_nat kb style tb _ fb1 HG.out).mono ?_
      rintro e w2 ⟨rfl, hb⟩
      replace B := B.trans (hb.mono B.size)
      clear hb
      go_wp2_with fail
      go_loopw [8] (fun i wr => i = .int .i64 1 ∧ Below w.heap.size w wr) (fun i _ => 0)
      case atStart => exact ⟨rfl, B⟩
      case round =>
        obtain ⟨rfl, Br⟩ := hrel
        go_wp2_with fail
        go_ret2
        exact ⟨rfl, Br⟩
  · have g1 : (0 : Int) ≤ a := by omega
    have g2 : decide (a ≤ 999999) = false := by simp; omega
    rcases FB with fb | fb | ⟨kb, tb, rfl, fb1, fb2, fb3⟩
    · have g3 : decide ((0 : Int) ≤ b) = false := by simp; omega
      go_enter Tryd.func16, Tryd.ntmps16
      go_wp2_with fail
      refine (read_d l a _ hl Ha.out).mono ?_
      rintro e w' ⟨rfl, rfl⟩
      go_wp2_with fail
      refine (read_a l b _ hl Hb.out).mono ?_
      rintro e w' ⟨rfl, rfl⟩

      go_wp2_with fail
      go_loopw [8] (fun i wr => i = .int .i64 1 ∧ Below w.heap.size w wr) (fun i _ => 0)
      case atStart => exact ⟨rfl, B⟩
      case round =>
        obtain ⟨rfl, Br⟩ := hrel
        go_wp2_with fail
        go_ret2
        exact ⟨rfl, Br⟩
    · have g3 : (0 : Int) ≤ b := by omega
      have g4 : decide (b ≤ 999999) = false := by simp; omega
      go_enter Tryd.func16, Tryd.ntmps16
      go_wp2_with fail
      refine (read_d l a _ hl Ha.out).mono ?_
      rintro e w' ⟨rfl, rfl⟩
      go_wp2_with fail
      refine (read_a l b _ hl Hb.out).mono ?_
      rintro e w' ⟨rfl, rfl⟩

      go_wp2_with fail
      go_loopw [8] (fun i wr => i = .int .i64 1 ∧ Below w.heap.size w wr) (fun i _ => 0)
      case atStart => exact ⟨rfl, B⟩
      case round =>
        obtain ⟨rfl, Br⟩ := hrel
        go_wp2_with fail
        go_ret2
        exact ⟨rfl, Br⟩
    · have HG := Lib.hid fb2
      clear fb2
      go_enter Tryd.func16, Tryd.ntmps16
      go_wp2_with fail
      refine (read_d l a _ hl Ha.out).mono ?_
      rintro e w' ⟨rfl, rfl⟩
      go_wp2_with fail
      refine (read_a l kb _ hl Hb.out).mono ?_
      rintro e w' ⟨rfl, rfl⟩

      go_wp2_with fail
      refine (rtext_nat kb style tb _ fb1 HG.out).mono ?_
      rintro e w2 ⟨rfl, hb⟩
      replace B := B.trans (hb.mono B.size)
      clear hb
      go_wp2_with fail
      go_loopw [8] (fun i wr => i = .int .i64 1 ∧ Below w.heap.size w wr) (fun i _ => 0)
      case atStart => exact ⟨rfl, B⟩
      case round =>
        obtain ⟨rfl, Br⟩ := hrel
        go_wp2_with fail
        go_ret2
        exact ⟨rfl, Br⟩
  · have HF := Lib.hid fa2
    clear fa2
    rcases FB with fb | fb | ⟨kb, tb, rfl, fb1, fb2, fb3⟩
    · have g3 : decide ((0 : Int) ≤ b) = false := by simp; omega
      go_enter Tryd.func16, Tryd.ntmps16
      go_wp2_with fail
      refine (read_d l ka _ hl Ha.out).mono ?_
      rintro e w' ⟨rfl, rfl⟩
      go_wp2_with fail
      refine (read_a l b _ hl Hb.out).mono ?_
      rintro e w' ⟨rfl, rfl⟩
      go_wp2_with fail
      refine (rtext_nat ka style ta _ fa1 HF.out).mono ?_
      rintro e w1 ⟨rfl, hb⟩
      replace B := B.trans (hb.mono B.size)
      clear hb
      go_wp2_with fail
      go_loopw [8] (fun i wr => i = .int .i64 1 ∧ Below w.heap.size w wr) (fun i _ => 0)
      case atStart => exact ⟨rfl, B⟩
      case round =>
        obtain ⟨rfl, Br⟩ := hrel
        go_wp2_with fail
        go_ret2
        exact ⟨rfl, Br⟩
    · have g3 : (0 : Int) ≤ b := by omega
      have g4 : decide (b ≤ 999999) = false := by simp; omega
      go_enter Tryd.func16, Tryd.ntmps16
      go_wp2_with fail
      refine (read_d l ka _ hl Ha.out).mono ?_
      rintro e w' ⟨rfl, rfl⟩
      go_wp2_with fail
      refine (read_a l b _ hl Hb.out).mono ?_
      rintro e w' ⟨rfl, rfl⟩
      go_wp2_with fail
      refine (rtext_nat ka style ta _ fa1 HF.out).mono ?_
      rintro e w1 ⟨rfl, hb⟩
      replace B := B.trans (hb.mono B.size)
      clear hb
      go_wp2_with fail
      go_loopw [8] (fun i wr => i = .int .i64 1 ∧ Below w.heap.size w wr) (fun i _ => 0)
      case atStart => exact ⟨rfl, B⟩
      case round =>
        obtain ⟨rfl, Br⟩ := hrel
        go_wp2_with fail
        go_ret2
        exact ⟨rfl, Br⟩
    · have HG := Lib.hid fb2
      clear fb2
      go_enter Tryd.func16, Tryd.ntmps16
      go_wp2_with fail
      refine (read_d l ka _ hl Ha.out).mono ?_
      rintro e w' ⟨rfl, rfl⟩
      go_wp2_with fail
      refine (read_a l kb _ hl Hb.out).mono ?_
      rintro e w' ⟨rfl, rfl⟩
      go_wp2_with fail
      refine (rtext_nat ka style ta _ fa1 HF.out).mono ?_
      rintro e w1 ⟨rfl, hb⟩
      replace B := B.trans (hb.mono B.size)
      clear hb
      go_wp2_with fail
      refine (rtext_nat kb style tb _ fb1 HG.out).mono ?_
      rintro e w2 ⟨rfl, hb⟩
      replace B := B.trans (hb.mono B.size)
      clear hb
      go_wp2_with fail
      go_loopw [8] (fun i wr => i = .int .i64 1 ∧ Below w.heap.size w wr) (fun i _ => 0)
      case atStart => exact ⟨rfl, B⟩
      case round =>
        obtain ⟨rfl, Br⟩ := hrel
        go_wp2_with fail
        go_ret2
        exact ⟨rfl, Br⟩
end Go.Proofs.YtglhcnhenhfkiaaDoor

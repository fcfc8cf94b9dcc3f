/-
  The walk of LexBlanks: for every input it returns true; old memory stays.
-/
import Derived.Test.YtcfhjnidcmenkaaN
namespace Go.Proofs.Ytcfhjnidcmenkaa
open Go.RowKit

theorem str_app {a b r : By} (h : a ++ b = r) : Value.string (({ data := a.toArray } : ByteArray) ++ { data := b.toArray }) = Value.string { data := r.toArray } := by
  subst h; congr 1
theorem one_byte (t : ByteArray) (k : Nat) (h : k < t.size) : t.extract k (k + 1) = ⟨([t[k]] : By).toArray⟩ := by
  apply str_of
  rw [ext_list, take_step t k h, List.drop_append, List.length_take, size_list]
  rw [List.drop_of_length_le (by rw [List.length_take]; omega), show k - min k t.size = 0 by omega]
  rfl
theorem tabs_app (k : Nat) (a b : By) : tabs k (a ++ b) = tabs k a ++ tabs k b := by simp [tabs]
theorem tabs_one9 (k : Nat) : tabs k [9] = List.replicate (k + 1) 32 := by simp [tabs, sp]
theorem tabs_one {c : UInt8} (k : Nat) (h : c ≠ 9) : tabs k [c] = [c] := by simp [tabs, sp, h]
set_option maxRecDepth 100000 in
set_option maxHeartbeats 4000000 in
theorem lexBlanks_walk (s : By) (w : World) (hs : s.length ≤ 9223372036854775807) :
    Calls Try.prog 8 #[.string ⟨s.toArray⟩] w fun e w' => e = .returned (.bool true) ∧ Below w.heap.size w w' := by
  obtain ⟨cz, r, HCY, hrl, hmin, hcut⟩ := cut_facts s 150 150 rfl
  go_enter Try.func8, Try.ntmps8
  go_wp2
  go_loop [3, 4, 5] (fun v3 v4 v5 => ∃ (k : Nat) (o t : By), k ≤ s.length ∧ k ≤ 150 ∧ v5 = .int .i64 k ∧ v3 = .string ⟨o.toArray⟩ ∧ v4 = .string ⟨t.toArray⟩ ∧ o.length ≤ 2 * k ∧ t.length ≤ 2 * k ∧ Hid (tabs 0 (s.take k) = o ∧ tabs 1 (s.take k) = t ∧ ∀ c ∈ s.take k, c ≠ 92)) (fun _ _ v5 => s.length - (intOf v5).toNat)
  case atStart => exact ⟨0, [], [], Nat.zero_le _, by omega, rfl, rfl, rfl, by simp, by simp, Lib.hid ⟨rfl, rfl, by simp⟩⟩
  case round =>
    obtain ⟨k, o, t, hk, hk2, rfl, rfl, rfl, hol, htl, HI⟩ := hrel
    by_cases hin : k < s.length ∧ k < 150
    · obtain ⟨hlt, hlt2⟩ := hin
      have hlt' : k < (ByteArray.mk s.toArray).size := hlt
      have hone := one_byte ⟨s.toArray⟩ k hlt'
      have hst : s.take (k + 1) = s.take k ++ [(ByteArray.mk s.toArray)[k]] := take_step ⟨s.toArray⟩ k hlt'
      obtain ⟨c, hc⟩ : ∃ c, (ByteArray.mk s.toArray)[k] = c := ⟨_, rfl⟩
      have hx : ((ByteArray.mk s.toArray)[k].toNat : Int) = (c.toNat : Int) := by rw [hc]
      rw [hc] at hone hst
      obtain ⟨x, hxx⟩ : ∃ x : Int, x = (c.toNat : Int) := ⟨_, rfl⟩
      rw [← hxx] at hx
      have i1 : (k : Int) < (s.length : Int) := by omega
      have i2 : (k : Int) < 150 := by omega
      obtain ⟨o2, ho2⟩ : ∃ o2, o ++ [c] = o2 := ⟨_, rfl⟩
      obtain ⟨t2, ht2⟩ : ∃ t2, t ++ [c] = t2 := ⟨_, rfl⟩
      obtain ⟨o3, ho3⟩ : ∃ o3, o ++ [32] = o3 := ⟨_, rfl⟩
      obtain ⟨t3, ht3⟩ : ∃ t3, t ++ [32, 32] = t3 := ⟨_, rfl⟩
      have l1 : o2.length ≤ 2 * (k + 1) ∧ t2.length ≤ 2 * (k + 1) ∧ o3.length ≤ 2 * (k + 1) ∧ t3.length ≤ 2 * (k + 1) := by
        rw [← ho2, ← ht2, ← ho3, ← ht3]; simp; omega
      by_cases h92 : x = 92
      · subst h92
        clear hone hst hc hxx ho2 ht2 ho3 ht3 l1 HI
        go_wp2_with fail
        refine (fixed_any _).mono ?_
        rintro e w9 ⟨rfl, hb9⟩
        go_wp2
        go_ret
        exact ⟨rfl, hb9⟩
      · have n92 : c ≠ 92 := fun e => h92 (by rw [hxx, e]; rfl)
        have q92 : (x == 92) = false := by simpa using h92
        obtain ⟨I1, I2, I3⟩ := HI.out
        have hall : ∀ d ∈ s.take (k + 1), d ≠ 92 := by
          rw [hst]; intro d hd
          rcases List.mem_append.1 hd with q | q
          · exact I3 d q
          · simp at q; subst q; exact n92
        by_cases h9 : x = 9
        · have c9 : c = 9 := byte_lit (n := 9) (by rw [← hxx, h9]; rfl)
          have HN := Lib.hid (show tabs 0 (s.take (k + 1)) = o3 ∧ tabs 1 (s.take (k + 1)) = t3 ∧ ∀ d ∈ s.take (k + 1), d ≠ 92 by
            refine ⟨?_, ?_, hall⟩
            · rw [hst, tabs_app, I1, c9, tabs_one9, ← ho3]; rfl
            · rw [hst, tabs_app, I2, c9, tabs_one9, ← ht3]; rfl)
          have HS := Lib.hid (And.intro (str_app ho3) (str_app ht3))
          subst h9
          clear hone hst hc hxx ho2 ht2 ho3 ht3 HI I1 I2 I3 hall c9 n92 h92
          go_wp2
          go_round
          case rel => exact ⟨k + 1, o3, t3, by omega, by omega, by go_num, HS.out.1, HS.out.2, by omega, by omega, HN⟩
          case measure => simp [intOf]; omega
        · have n9 : c ≠ 9 := fun e => h9 (by rw [hxx, e]; rfl)
          have q9 : (x == 9) = false := by simpa using h9
          have HN := Lib.hid (show tabs 0 (s.take (k + 1)) = o2 ∧ tabs 1 (s.take (k + 1)) = t2 ∧ ∀ d ∈ s.take (k + 1), d ≠ 92 by
            refine ⟨?_, ?_, hall⟩
            · rw [hst, tabs_app, I1, tabs_one _ n9, ← ho2]
            · rw [hst, tabs_app, I2, tabs_one _ n9, ← ht2])
          have HS := Lib.hid (And.intro (str_app ho2) (str_app ht2))
          clear hst hc hxx ho2 ht2 ho3 ht3 HI I1 I2 I3 hall n9 n92 h92 h9
          go_wp2
          go_round
          case rel => exact ⟨k + 1, o2, t2, by omega, by omega, by go_num, HS.out.1, HS.out.2, by omega, by omega, HN⟩
          case measure => simp [intOf]; omega
    · have hr : s.take k = r := by
        rw [← HCY.out, List.take_eq_take_iff]; omega
      obtain ⟨I1, I2, I3⟩ := HI.out
      rw [hr] at I1 I2 I3
      have L1 := Lib.hid (fun w => lex_list r w (by omega))
      have L2 := Lib.hid (fun w => lex_list o w (by omega))
      have L3 := Lib.hid (fun w => lex_list t w (by omega))
      rw [← I1, toks_tabs 0 _ r (Nat.le_refl _) I3, I1] at L2
      rw [← I2, toks_tabs 1 _ r (Nat.le_refl _) I3, I2] at L3
      have htl2 := toks_len r
      generalize toks r = ts at *
      have hin2 : (decide ((k : Int) < (s.length : Int)) && decide ((k : Int) < 150)) = false := by
        rw [Bool.eq_false_iff]; simp; omega
      clear hr I1 I2 I3 HI HCY
      rcases (show ¬ (k : Int) < (s.length : Int) ∨ ((k : Int) < (s.length : Int) ∧ ¬ (k : Int) < 150) by omega) with j1 | ⟨j1, j2⟩
      all_goals
        clear hin hin2
        go_wp2_with fail
        refine (L1.out _).mono ?_
        rintro e w1 ⟨A1, c1, rfl, ho1, hb⟩
        replace ho1 := ho1.rd
        have HB := Lib.hid hb
        clear hb
        go_wp2_with fail
        refine (refs_any A1 c1 ts w1 ho1 (by omega)).mono ?_
        rintro e w2 ⟨A2, c2, rfl, ho2, hb2⟩
        replace ho1 := ho1.below hb2
        replace ho2 := ho2.rd
        replace HB := Lib.hid (bch HB.out hb2)
        clear hb2
        go_wp2_with fail
        refine (L2.out w2).mono ?_
        rintro e w3 ⟨A3, c3, rfl, ho3, hb3⟩
        replace ho1 := ho1.below hb3
        replace ho2 := ho2.below hb3
        replace ho3 := ho3.rd
        replace HB := Lib.hid (bch HB.out hb3)
        clear hb3
        go_wp2_with fail
        refine (refs_any A3 c3 ts w3 ho3 (by omega)).mono ?_
        rintro e w4 ⟨A4, c4, rfl, ho4, hb4⟩
        replace ho1 := ho1.below hb4
        replace ho2 := ho2.below hb4
        replace ho4 := ho4.rd
        replace HB := Lib.hid (bch HB.out hb4)
        clear hb4 ho3
        go_wp2_with fail
        refine (same_eq A2 A4 c2 c4 ts w4 ho2 ho4 (by omega)).mono ?_
        rintro e w5 ⟨rfl, hb5⟩
        replace ho1 := ho1.below hb5
        replace HB := Lib.hid (bch HB.out hb5)
        clear hb5 ho2 ho4
        go_wp2_with fail
        refine (refs_any A1 c1 ts w5 ho1 (by omega)).mono ?_
        rintro e w6 ⟨A6, c6, rfl, ho6, hb6⟩
        replace ho6 := ho6.rd
        replace HB := Lib.hid (bch HB.out hb6)
        clear hb6 ho1
        go_wp2_with fail
        refine (L3.out w6).mono ?_
        rintro e w7 ⟨A7, c7, rfl, ho7, hb7⟩
        replace ho6 := ho6.below hb7
        replace ho7 := ho7.rd
        replace HB := Lib.hid (bch HB.out hb7)
        clear hb7
        go_wp2_with fail
        refine (refs_any A7 c7 ts w7 ho7 (by omega)).mono ?_
        rintro e w8 ⟨A8, c8, rfl, ho8, hb8⟩
        replace ho6 := ho6.below hb8
        replace ho8 := ho8.rd
        replace HB := Lib.hid (bch HB.out hb8)
        clear hb8 ho7
        go_wp2_with fail
        refine (same_eq A6 A8 c6 c8 ts w8 ho6 ho8 (by omega)).mono ?_
        rintro e w9 ⟨rfl, hb9⟩
        replace HB := Lib.hid (bch HB.out hb9)
        clear hb9 ho6 ho8
        go_wp2_with fail
        refine (fixed_any w9).mono ?_
        rintro e w10 ⟨rfl, hb10⟩
        replace HB := Lib.hid (bch HB.out hb10)
        clear hb10
        go_wp2
        go_ret
        exact ⟨rfl, HB.out⟩
end Go.Proofs.Ytcfhjnidcmenkaa

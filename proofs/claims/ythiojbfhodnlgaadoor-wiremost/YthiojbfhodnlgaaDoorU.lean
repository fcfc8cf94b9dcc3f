/-
  Contracts of wire.Get, and of the document's answer's length and Get: the text at a place and the place behind it, or what is wrong.
-/
import Derived.Test.YthiojbfhodnlgaaDoorT
namespace Go.Proofs.YthiojbfhodnlgaaDoor
open Go.RowKit

theorem getT_bad {s : List UInt8} {p most : Int} (h : getE s p most ≠ 0) : getT s p most = [] := by
  unfold getE at h
  unfold getT
  split
  · rfl
  · rename_i q
    rw [if_neg q] at h
    rcases got_codes (s.drop p.toNat) most.toNat with k | ⟨_, k⟩
    · exact absurd k h
    · rw [k]
theorem getP_bad {s : List UInt8} {p most : Int} (h : getE s p most ≠ 0) : getP s p most = 0 := by unfold getP; rw [if_neg h]
def getR (s : List UInt8) (p most : Int) : Value := .tuple #[.string ⟨(getT s p most).toArray⟩, .int .i64 (getP s p most), .int .i64 (getE s p most)]
theorem getR_bad {s : List UInt8} {p most : Int} (h : getE s p most ≠ 0) : getR s p most = .tuple #[.string ⟨#[]⟩, .int .i64 0, .int .i64 (getE s p most)] := by
  unfold getR; rw [getT_bad h, getP_bad h]; rfl
theorem ret_eq {a b : Value} (h : a = b) : Ending.returned a = .returned b := by rw [h]
set_option maxHeartbeats 400000 in
theorem get_any (s : List UInt8) (p most : Int) (w : World) (T : Tabs w) (hs : s.length ≤ 4611686018427387904) :
    Calls Tryd.prog 9 #[.string ⟨s.toArray⟩, .int .i64 p, .int .i64 most] w fun e w' => e = .returned (getR s p most) ∧ Below w.heap.size w w' := by
  have C := Lib.hid (read_any s p most w hs)
  by_cases h : getE s p most = 0
  · have HR := Lib.hid (show readR s p most = .tuple #[.string ⟨(getT s p most).toArray⟩, .int .i64 (getP s p most), .nilIface] by unfold readR; rw [if_pos h])
    have HG := Lib.hid (show .tuple #[.string ⟨(getT s p most).toArray⟩, .int .i64 (getP s p most), .int .i64 0] = getR s p most by unfold getR; rw [h])
    generalize getR s p most = V at *
    generalize getT s p most = t at *
    generalize getP s p most = q at *
    clear h
    rw [HR.out] at C
    go_enter Tryd.func9, Tryd.ntmps9
    go_wp2_with fail
    refine C.out.mono ?_
    rintro e w1 ⟨rfl, rfl⟩
    go_wp2_with fail
    refine (number_nil _).mono ?_
    rintro e w1 ⟨rfl, hb⟩
    go_wp2
    go_ret3
    exact ⟨ret_eq HG.out, hb⟩
  · have HR := Lib.hid (readR_bad rfl h)
    have HG := Lib.hid (getR_bad h).symm
    generalize getR s p most = V at *
    generalize getE s p most = x at *
    clear h
    rw [HR.out] at C
    go_enter Tryd.func9, Tryd.ntmps9
    go_wp2_with fail
    refine C.out.mono ?_
    rintro e w1 ⟨rfl, rfl⟩
    go_wp2_with fail
    refine (number_fault x _ T.ety).mono ?_
    rintro e w1 ⟨rfl, hb⟩
    go_wp2
    go_ret3
    exact ⟨ret_eq HG.out, hb⟩

theorem digit_no (x : Int) (w : World) (h : x < 48 ∨ 57 < x) : Calls Tryd.prog 36 #[.int .u8 x] w fun e w' => e = .returned (.bool false) ∧ w = w' := by
  by_cases h1 : x < 48
  · go_enter Tryd.func36, Tryd.ntmps36
    go_wp2
    go_ret
    exact ⟨rfl, rfl⟩
  · have h2 : 57 < x := by omega
    go_enter Tryd.func36, Tryd.ntmps36
    go_wp2
    go_ret
    exact ⟨ret_bool (decide_eq_false (by omega)), rfl⟩
theorem digit_yes (x : Int) (w : World) (h1 : 48 ≤ x) (h2 : x ≤ 57) : Calls Tryd.prog 36 #[.int .u8 x] w fun e w' => e = .returned (.bool true) ∧ w = w' := by
  go_enter Tryd.func36, Tryd.ntmps36
  go_wp2
  go_ret
  exact ⟨rfl, rfl⟩
def rnumR (len : Nat) (x : Int × Nat × List UInt8) : Value := if x.1 = 0 then .tuple #[.int .i64 x.2.1, .int .i64 ((len - x.2.2.length : Nat)), .int .i64 0] else .tuple #[.int .i64 0, .int .i64 0, .int .i64 x.1]
theorem rz_end {s : ByteArray} {k m : Nat} {z b : Bool} {R : Int × Nat × List UInt8} {V : Value} (h : numG z b m (s.data.toList.drop k) = R) (hV : rnumR s.size R = V) (hk : ¬ k < s.size) : Ending.returned (.tuple #[.int .i64 0, .int .i64 0, .int .i64 6]) = .returned V := by
  rw [List.drop_of_length_le (by simp; omega), numG_nil] at h
  rw [← hV, ← h]; rfl
theorem rz_colon {s : ByteArray} {k m : Nat} {z : Bool} {c : UInt8} {R : Int × Nat × List UInt8} {V : Value} (h : numG z true m (s.data.toList.drop k) = R) (hV : rnumR s.size R = V) (hd : s.data.toList.drop k = c :: s.data.toList.drop (k + 1)) (hk : k < s.size) (hc : c.toNat = 58) :
    Ending.returned (.tuple #[.int .i64 m, .int .i64 ((k : Int) + 1), .int .i64 0]) = .returned V := by
  rw [hd, numG_colon _ _ _ hc] at h
  rw [← hV, ← h]
  unfold rnumR
  rw [if_pos rfl]
  have : ((s.size - (List.drop (k + 1) s.data.toList).length : Nat) : Int) = (k : Int) + 1 := by
    rw [List.length_drop]
    have : s.data.toList.length = s.size := by simp
    omega
  rw [this]
theorem rz_form {s : ByteArray} {k m : Nat} {z b : Bool} {c : UInt8} {R : Int × Nat × List UInt8} {V : Value} (h : numG z b m (s.data.toList.drop k) = R) (hV : rnumR s.size R = V) (hd : s.data.toList.drop k = c :: s.data.toList.drop (k + 1)) (hb : ¬ (c.toNat = 58 ∧ b = true)) (hc : c.toNat < 48 ∨ 57 < c.toNat) :
    Ending.returned (.tuple #[.int .i64 0, .int .i64 0, .int .i64 5]) = .returned V := by
  rw [hd, numG_form _ _ _ _ hb hc] at h
  rw [← hV, ← h]; rfl
theorem rz_zero {s : ByteArray} {k m : Nat} {c : UInt8} {R : Int × Nat × List UInt8} {V : Value} (h : numG true true m (s.data.toList.drop k) = R) (hV : rnumR s.size R = V) (hd : s.data.toList.drop k = c :: s.data.toList.drop (k + 1)) (hc : c.toNat ≠ 58) :
    Ending.returned (.tuple #[.int .i64 0, .int .i64 0, .int .i64 5]) = .returned V := by
  rw [hd, numG_zero _ _ hc] at h
  rw [← hV, ← h]; rfl
theorem rz_big {s : ByteArray} {k m : Nat} {z b : Bool} {c : UInt8} {R : Int × Nat × List UInt8} {V : Value} (h : numG z b m (s.data.toList.drop k) = R) (hV : rnumR s.size R = V) (hd : s.data.toList.drop k = c :: s.data.toList.drop (k + 1)) (k1 : 48 ≤ c.toNat) (k2 : c.toNat ≤ 57) (hz : ¬ (b = true ∧ z = true)) (hn : 999999 < m * 10 + (c.toNat - 48)) :
    Ending.returned (.tuple #[.int .i64 0, .int .i64 0, .int .i64 3]) = .returned V := by
  rw [hd, numG_big _ _ _ _ k1 k2 hz hn] at h
  rw [← hV, ← h]; rfl
set_option maxRecDepth 100000 in
set_option maxHeartbeats 2000000 in
theorem rlength_B (s : ByteArray) (p : Nat) (w : World) (hp : p ≤ s.size) (hs : s.size ≤ 4611686018427387904) :
    Calls Tryd.prog 25 #[.string s, .int .i64 p] w fun e w' => e = .returned (rnumR s.size (numG false false 0 (s.data.toList.drop p))) ∧ w = w' := by
  generalize hR : numG false false 0 (s.data.toList.drop p) = R
  generalize hV : rnumR s.size R = V
  have HR := Lib.hid hR
  have HV := Lib.hid hV
  clear hR hV
  go_enter Tryd.func25, Tryd.ntmps25
  go_wp2
  go_loop [7, 8] (fun n i => ∃ (k m : Nat) (z : Bool), p ≤ k ∧ k ≤ s.size ∧ i = .int .i64 k ∧ n = .int .i64 m ∧ m ≤ 999999 ∧ Hid (NumAt s p k m z R)) (fun _ i => s.size - (intOf i).toNat)
  case atStart => exact ⟨p, 0, false, Nat.le_refl _, hp, rfl, rfl, by omega, Lib.hid ⟨by rw [decide_eq_false (Nat.lt_irrefl p)]; exact HR.out, fun h => absurd h (Nat.lt_irrefl p)⟩⟩
  case round =>
    obtain ⟨k, m, z, hpk, hk, rfl, rfl, hm, HN⟩ := hrel
    by_cases hlt : k < s.size
    · have HS := Lib.hid (drop_at s k hlt)
      have hb : (s[k].toNat : Int) < 256 := by have := s[k].toNat_lt; omega
      by_cases hpk2 : p < k
      · obtain ⟨hps, hz⟩ := HN.out.2 hpk2
        have HZ := Lib.hid hz
        have HM := Lib.hid (show numG z true m (s.data.toList.drop k) = R by have := HN.out.1; rwa [decide_eq_true hpk2] at this)
        clear hz HN
        have d1 : decide ((p : Int) < (k : Int)) = true := by simp; omega
        by_cases h58 : s[k].toNat = 58
        · have q58 : ((s[k].toNat : Int) == 58) = true := by simp; omega
          have H58 := Lib.hid h58
          clear h58
          go_wp2
          go_ret3
          exact ⟨rz_colon HM.out HV.out HS.out hlt H58.out, rfl⟩
        · have q58 : ((s[k].toNat : Int) == 58) = false := by simp; omega
          have H58 := Lib.hid h58
          clear h58
          by_cases h1 : (s[k].toNat : Int) < 48
          · go_wp2_with fail
            refine (digit_no _ _ (.inl h1)).mono ?_
            rintro e w' ⟨rfl, rfl⟩
            go_wp2
            go_ret3
            exact ⟨rz_form HM.out HV.out HS.out (fun q => H58.out q.1) (.inl (by omega)), rfl⟩
          by_cases h2 : 57 < (s[k].toNat : Int)
          · go_wp2_with fail
            refine (digit_no _ _ (.inr h2)).mono ?_
            rintro e w' ⟨rfl, rfl⟩
            go_wp2
            go_ret3
            exact ⟨rz_form HM.out HV.out HS.out (fun q => H58.out q.1) (.inr (by omega)), rfl⟩
          by_cases h48 : s[p].toNat = 48
          · have q48 : ((s[p].toNat : Int) == 48) = true := by simp; omega
            obtain rfl : z = true := HZ.out.trans (decide_eq_true h48)
            clear h48
            go_wp2_with fail
            refine (digit_yes _ _ (by omega) (by omega)).mono ?_
            rintro e w' ⟨rfl, rfl⟩
            go_wp2
            go_ret3
            exact ⟨rz_zero HM.out HV.out HS.out H58.out, rfl⟩
          have q48 : ((s[p].toNat : Int) == 48) = false := by simp; omega
          have hzf : z = false := HZ.out.trans (decide_eq_false h48)
          subst hzf
          clear h48
          by_cases h9 : 999999 < 10 * (m : Int) + (s[k].toNat : Int) - 48
          · go_wp2_with fail
            refine (digit_yes _ _ (by omega) (by omega)).mono ?_
            rintro e w' ⟨rfl, rfl⟩
            go_wp2
            go_ret3
            exact ⟨rz_big HM.out HV.out HS.out (by omega) (by omega) (by simp) (by omega), rfl⟩
          · go_wp2_with fail
            refine (digit_yes _ _ (by omega) (by omega)).mono ?_
            rintro e w' ⟨rfl, rfl⟩
            go_wp2
            go_round
            case rel => exact ⟨k + 1, m * 10 + (s[k].toNat - 48), false, by omega, by omega, by go_num, by go_num, by omega, Lib.hid ⟨by rw [decide_eq_true (show p < k + 1 by omega)]; exact sz_step HM.out HS.out (by omega) (by omega) (by simp) (by omega), fun _ => ⟨hps, HZ.out⟩⟩⟩
            case measure => simp [intOf]; omega
      · obtain rfl : p = k := by omega
        have HM := Lib.hid (show numG z false m (s.data.toList.drop p) = R by have := HN.out.1; rwa [decide_eq_false hpk2] at this)
        clear HN hpk2
        have d1 : decide ((p : Int) < (p : Int)) = false := by simp
        by_cases h1 : (s[p].toNat : Int) < 48
        · have q58 : ((s[p].toNat : Int) == 58) = false := by simp; omega
          go_wp2_with fail
          refine (digit_no _ _ (.inl h1)).mono ?_
          rintro e w' ⟨rfl, rfl⟩
          go_wp2
          go_ret3
          exact ⟨rz_form HM.out HV.out HS.out (fun q => by simp at q) (.inl (by omega)), rfl⟩
        by_cases h2 : 57 < (s[p].toNat : Int)
        · by_cases h58 : s[p].toNat = 58
          · have q58 : ((s[p].toNat : Int) == 58) = true := by simp; omega
            clear h58
            go_wp2_with fail
            refine (digit_no _ _ (.inr h2)).mono ?_
            rintro e w' ⟨rfl, rfl⟩
            go_wp2
            go_ret3
            exact ⟨rz_form HM.out HV.out HS.out (fun q => by simp at q) (.inr (by omega)), rfl⟩
          · have q58 : ((s[p].toNat : Int) == 58) = false := by simp; omega
            clear h58
            go_wp2_with fail
            refine (digit_no _ _ (.inr h2)).mono ?_
            rintro e w' ⟨rfl, rfl⟩
            go_wp2
            go_ret3
            exact ⟨rz_form HM.out HV.out HS.out (fun q => by simp at q) (.inr (by omega)), rfl⟩
        have q58 : ((s[p].toNat : Int) == 58) = false := by simp; omega
        by_cases h9 : 999999 < 10 * (m : Int) + (s[p].toNat : Int) - 48
        · go_wp2_with fail
          refine (digit_yes _ _ (by omega) (by omega)).mono ?_
          rintro e w' ⟨rfl, rfl⟩
          go_wp2
          go_ret3
          exact ⟨rz_big HM.out HV.out HS.out (by omega) (by omega) (by simp) (by omega), rfl⟩
        · go_wp2_with fail
          refine (digit_yes _ _ (by omega) (by omega)).mono ?_
          rintro e w' ⟨rfl, rfl⟩
          go_wp2
          go_round
          case rel => exact ⟨p + 1, m * 10 + (s[p].toNat - 48), decide (s[p].toNat = 48), by omega, by omega, by go_num, by go_num, by omega, Lib.hid ⟨by rw [decide_eq_true (show p < p + 1 by omega)]; have := sz_step HM.out HS.out (by omega) (by omega) (by simp) (by omega); rwa [if_neg (by simp)] at this, fun _ => ⟨hlt, rfl⟩⟩⟩
          case measure => simp [intOf]; omega
    · go_wp2
      go_ret3
      exact ⟨rz_end HN.out.1 HV.out hlt, rfl⟩
end Go.Proofs.YthiojbfhodnlgaaDoor

/-
  Contracts of wire.size, wire.read and wire.Get over the translation: the plain functions of their arguments; what is wrong comes as a fault that wraps the number.
-/
import Derived.OwnWalk
import Derived.Test.YtmggpockikcjjaaGreatDoorE
import Derived.Test.YtmggpockikcjjaaGreatDoorW
namespace Go.Proofs.YtmggpockikcjjaaGreatDoor
open Go.RowKit

def numR (len : Nat) (x : Int × Nat × List UInt8) : Value := if x.1 = 0 then .tuple #[.int .i64 x.2.1, .int .i64 ((len - x.2.2.length : Nat)), .nilIface] else .tuple #[.int .i64 0, .int .i64 0, flt x.1]
theorem drop_at (s : ByteArray) (k : Nat) (h : k < s.size) : s.data.toList.drop k = s[k] :: s.data.toList.drop (k + 1) := by
  rw [List.drop_eq_getElem_cons (by simpa using h)]; rfl
theorem sz_end {s : ByteArray} {k m : Nat} {z b : Bool} {R : Int × Nat × List UInt8} {V : Value} (h : numG z b m (s.data.toList.drop k) = R) (hV : numR s.size R = V) (hk : ¬ k < s.size) : Ending.returned (.tuple #[.int .i64 0, .int .i64 0, .iface 110 (.agg #[.int .i64 6])]) = .returned V := by
  rw [List.drop_of_length_le (by simp; omega), numG_nil] at h
  rw [← hV, ← h]; rfl
theorem sz_colon {s : ByteArray} {k m : Nat} {z : Bool} {c : UInt8} {R : Int × Nat × List UInt8} {V : Value} (h : numG z true m (s.data.toList.drop k) = R) (hV : numR s.size R = V) (hd : s.data.toList.drop k = c :: s.data.toList.drop (k + 1)) (hk : k < s.size) (hc : c.toNat = 58) :
    Ending.returned (.tuple #[.int .i64 m, .int .i64 ((k : Int) + 1), .nilIface]) = .returned V := by
  rw [hd, numG_colon _ _ _ hc] at h
  rw [← hV, ← h]
  unfold numR
  rw [if_pos rfl]
  have : ((s.size - (List.drop (k + 1) s.data.toList).length : Nat) : Int) = (k : Int) + 1 := by
    rw [List.length_drop]
    have : s.data.toList.length = s.size := by simp
    omega
  rw [this]
theorem sz_form {s : ByteArray} {k m : Nat} {z b : Bool} {c : UInt8} {R : Int × Nat × List UInt8} {V : Value} (h : numG z b m (s.data.toList.drop k) = R) (hV : numR s.size R = V) (hd : s.data.toList.drop k = c :: s.data.toList.drop (k + 1)) (hb : ¬ (c.toNat = 58 ∧ b = true)) (hc : c.toNat < 48 ∨ 57 < c.toNat) :
    Ending.returned (.tuple #[.int .i64 0, .int .i64 0, .iface 110 (.agg #[.int .i64 5])]) = .returned V := by
  rw [hd, numG_form _ _ _ _ hb hc] at h
  rw [← hV, ← h]; rfl
theorem sz_zero {s : ByteArray} {k m : Nat} {c : UInt8} {R : Int × Nat × List UInt8} {V : Value} (h : numG true true m (s.data.toList.drop k) = R) (hV : numR s.size R = V) (hd : s.data.toList.drop k = c :: s.data.toList.drop (k + 1)) (hc : c.toNat ≠ 58) :
    Ending.returned (.tuple #[.int .i64 0, .int .i64 0, .iface 110 (.agg #[.int .i64 5])]) = .returned V := by
  rw [hd, numG_zero _ _ hc] at h
  rw [← hV, ← h]; rfl
theorem sz_big {s : ByteArray} {k m : Nat} {z b : Bool} {c : UInt8} {R : Int × Nat × List UInt8} {V : Value} (h : numG z b m (s.data.toList.drop k) = R) (hV : numR s.size R = V) (hd : s.data.toList.drop k = c :: s.data.toList.drop (k + 1)) (k1 : 48 ≤ c.toNat) (k2 : c.toNat ≤ 57) (hz : ¬ (b = true ∧ z = true)) (hn : 999999 < m * 10 + (c.toNat - 48)) :
    Ending.returned (.tuple #[.int .i64 0, .int .i64 0, .iface 110 (.agg #[.int .i64 3])]) = .returned V := by
  rw [hd, numG_big _ _ _ _ k1 k2 hz hn] at h
  rw [← hV, ← h]; rfl
theorem sz_step {s : ByteArray} {k m : Nat} {z b : Bool} {c : UInt8} {R : Int × Nat × List UInt8} (h : numG z b m (s.data.toList.drop k) = R) (hd : s.data.toList.drop k = c :: s.data.toList.drop (k + 1)) (k1 : 48 ≤ c.toNat) (k2 : c.toNat ≤ 57) (hz : ¬ (b = true ∧ z = true)) (hn : m * 10 + (c.toNat - 48) ≤ 999999) :
    numG (if b = true then z else decide (c.toNat = 48)) true (m * 10 + (c.toNat - 48)) (s.data.toList.drop (k + 1)) = R := by
  rw [hd, numG_step _ _ _ _ k1 k2 hz hn] at h; exact h

/-- Where a reader of a number stands. -/
def NumAt (s : ByteArray) (p k m : Nat) (z : Bool) (R : Int × Nat × List UInt8) : Prop := numG z (decide (p < k)) m (s.data.toList.drop k) = R ∧ (p < k → ∃ h : p < s.size, z = decide (s[p].toNat = 48))
set_option maxRecDepth 100000 in
set_option maxHeartbeats 2000000 in
theorem size_B (s : ByteArray) (p : Nat) (w : World) (hp : p ≤ s.size) (hs : s.size ≤ 4611686018427387904) :
    Calls Tryz.prog 79 #[.string s, .int .i64 p] w fun e w' => e = .returned (numR s.size (numG false false 0 (s.data.toList.drop p))) ∧ w = w' := by
  generalize hR : numG false false 0 (s.data.toList.drop p) = R
  generalize hV : numR s.size R = V
  have HR := Lib.hid hR
  have HV := Lib.hid hV
  clear hR hV
  go_enter Tryz.func79, Tryz.ntmps79
  go_wp2
  go_loop [7, 8] (fun n i => ∃ (k m : Nat) (z : Bool), p ≤ k ∧ k ≤ s.size ∧ i = .int .i64 k ∧ n = .int .i64 m ∧ m ≤ 999999 ∧ Hid (NumAt s p k m z R)) (fun _ i => s.size - (intOf i).toNat)
  case atStart => exact ⟨p, 0, false, Nat.le_refl _, hp, rfl, rfl, by omega, Lib.hid ⟨by rw [decide_eq_false (Nat.lt_irrefl p)]; exact HR.out, fun h => absurd h (Nat.lt_irrefl p)⟩⟩
  case round =>
    obtain ⟨k, m, z, hpk, hk, rfl, rfl, hm, HN⟩ := hrel
    by_cases hlt : k < s.size
    · have HS := Lib.hid (drop_at s k hlt)
      have hb : (s[k].toNat : Int) < 256 := by have := s[k].toNat_lt; omega
      by_cases hpk2 : p < k
      · obtain ⟨hps, hz⟩ := HN.out.2 hpk2
        have HZ := Lib.hid hz
        have HM := Lib.hid (show numG z true m (s.data.toList.drop k) = R by have := HN.out.1; rwa [decide_eq_true hpk2] at this)
        clear hz HN
        have d1 : decide ((p : Int) < (k : Int)) = true := by simp; omega
        by_cases h58 : s[k].toNat = 58
        · have q58 : ((s[k].toNat : Int) == 58) = true := by simp; omega
          have H58 := Lib.hid h58
          clear h58
          go_wp2
          go_ret3
          exact ⟨sz_colon HM.out HV.out HS.out hlt H58.out, rfl⟩
        · have q58 : ((s[k].toNat : Int) == 58) = false := by simp; omega
          have H58 := Lib.hid h58
          clear h58
          by_cases h1 : (s[k].toNat : Int) < 48
          · go_wp2
            go_ret3
            exact ⟨sz_form HM.out HV.out HS.out (fun q => H58.out q.1) (.inl (by omega)), rfl⟩
          by_cases h2 : 57 < (s[k].toNat : Int)
          · go_wp2
            go_ret3
            exact ⟨sz_form HM.out HV.out HS.out (fun q => H58.out q.1) (.inr (by omega)), rfl⟩
          by_cases h48 : s[p].toNat = 48
          · have q48 : ((s[p].toNat : Int) == 48) = true := by simp; omega
            obtain rfl : z = true := HZ.out.trans (decide_eq_true h48)
            clear h48
            go_wp2
            go_ret3
            exact ⟨sz_zero HM.out HV.out HS.out H58.out, rfl⟩
          have q48 : ((s[p].toNat : Int) == 48) = false := by simp; omega
          have hzf : z = false := HZ.out.trans (decide_eq_false h48)
          subst hzf
          clear h48
          by_cases h9 : 999999 < (m : Int) * 10 + ((s[k].toNat : Int) - 48)
          · go_wp2
            go_ret3
            exact ⟨sz_big HM.out HV.out HS.out (by omega) (by omega) (by simp) (by omega), rfl⟩
          · go_wp2
            go_round
            case rel => exact ⟨k + 1, m * 10 + (s[k].toNat - 48), false, by omega, by omega, by go_num, by go_num, by omega, Lib.hid ⟨by rw [decide_eq_true (show p < k + 1 by omega)]; exact sz_step HM.out HS.out (by omega) (by omega) (by simp) (by omega), fun _ => ⟨hps, HZ.out⟩⟩⟩
            case measure => simp [intOf]; omega
      · obtain rfl : p = k := by omega
        have HM := Lib.hid (show numG z false m (s.data.toList.drop p) = R by have := HN.out.1; rwa [decide_eq_false hpk2] at this)
        clear HN hpk2
        have d1 : decide ((p : Int) < (p : Int)) = false := by simp
        by_cases h1 : (s[p].toNat : Int) < 48
        · have q58 : ((s[p].toNat : Int) == 58) = false := by simp; omega
          go_wp2
          go_ret3
          exact ⟨sz_form HM.out HV.out HS.out (fun q => by simp at q) (.inl (by omega)), rfl⟩
        by_cases h2 : 57 < (s[p].toNat : Int)
        · by_cases h58 : s[p].toNat = 58
          · have q58 : ((s[p].toNat : Int) == 58) = true := by simp; omega
            clear h58
            go_wp2
            go_ret3
            exact ⟨sz_form HM.out HV.out HS.out (fun q => by simp at q) (.inr (by omega)), rfl⟩
          · have q58 : ((s[p].toNat : Int) == 58) = false := by simp; omega
            clear h58
            go_wp2
            go_ret3
            exact ⟨sz_form HM.out HV.out HS.out (fun q => by simp at q) (.inr (by omega)), rfl⟩
        have q58 : ((s[p].toNat : Int) == 58) = false := by simp; omega
        by_cases h9 : 999999 < (m : Int) * 10 + ((s[p].toNat : Int) - 48)
        · go_wp2
          go_ret3
          exact ⟨sz_big HM.out HV.out HS.out (by omega) (by omega) (by simp) (by omega), rfl⟩
        · go_wp2
          go_round
          case rel => exact ⟨p + 1, m * 10 + (s[p].toNat - 48), decide (s[p].toNat = 48), by omega, by omega, by go_num, by go_num, by omega, Lib.hid ⟨by rw [decide_eq_true (show p < p + 1 by omega)]; have := sz_step HM.out HS.out (by omega) (by omega) (by simp) (by omega); rwa [if_neg (by simp)] at this, fun _ => ⟨hlt, rfl⟩⟩⟩
          case measure => simp [intOf]; omega
    · go_wp2
      go_ret3
      exact ⟨sz_end HN.out.1 HV.out hlt, rfl⟩
end Go.Proofs.YtmggpockikcjjaaGreatDoor

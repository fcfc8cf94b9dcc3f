/-
  Contracts of the document's answer for layer 1 (its ten and read) over the translation: they return the plain functions of their arguments; old memory stays as it was.
-/
import Derived.Test.YtglhcnhenhfkiaaDoorF1
namespace Go.Proofs.YtglhcnhenhfkiaaDoor
open Go.RowKit Go.Sort

def tenL (k : Nat) (o f t : List UInt8) : List UInt8 :=
  match k with
  | 0 => []
  | 1 => o
  | 2 => o ++ o
  | 3 => o ++ o ++ o
  | 4 => o ++ f
  | 5 => f
  | 6 => f ++ o
  | 7 => f ++ o ++ o
  | 8 => f ++ o ++ o ++ o
  | _ => o ++ t

set_option maxRecDepth 100000 in
set_option maxHeartbeats 1000000 in
theorem ten_any (d : Nat) (o f t : List UInt8) (w : World) (hd : d ≤ 999999) (ho : o.length ≤ 10) (hf : f.length ≤ 10) (ht : t.length ≤ 10) :
    Calls Tryd.prog 28 #[.int .i64 d, .string ⟨o.toArray⟩, .string ⟨f.toArray⟩, .string ⟨t.toArray⟩] w fun e w' => e = .returned (.string ⟨(tenL (d % 10) o f t).toArray⟩) ∧ Below w.heap.size w w' := by
  have h10 : d % 10 < 10 := by omega
  generalize hk : d % 10 = k at *
  have hi : (d : Int) % 10 = (k : Int) := by omega
  have HK := Lib.hid hk
  clear hk
  obtain rfl | rfl | rfl | rfl | rfl | rfl | rfl | rfl | rfl | rfl : k = 0 ∨ k = 1 ∨ k = 2 ∨ k = 3 ∨ k = 4 ∨ k = 5 ∨ k = 6 ∨ k = 7 ∨ k = 8 ∨ k = 9 := by omega
  all_goals
    go_enter Tryd.func28, Tryd.ntmps28
    go_wp2
    go_ret
    exact ⟨rfl, one_below _ _⟩

/-- The number of a text by a base; -1, if a sign is strange, or it grows too great. -/
def rdGo (f g l : Int) : Int → List UInt8 → Int
  | n, [] => n
  | n, c :: r => if (c.toNat : Int) - f < 0 ∨ g ≤ (c.toNat : Int) - f ∨ 999999 < n then -1 else rdGo f g l (n * g + ((c.toNat : Int) - f) + l) r
theorem rd_bad {f g l m R X : Int} {c : UInt8} {r t : List UInt8} (hX : X = R) (h : rdGo f g l m t = R) (ht : t = c :: r) (hb : (c.toNat : Int) - f < 0 ∨ g ≤ (c.toNat : Int) - f ∨ 999999 < m) : -1 = X := by
  rw [hX, ← h, ht, rdGo, if_pos hb]
theorem rd_good {f g l m R : Int} {c : UInt8} {r t : List UInt8} (h : rdGo f g l m t = R) (ht : t = c :: r) (h1 : 0 ≤ (c.toNat : Int) - f) (h2 : (c.toNat : Int) - f < g) (h3 : m ≤ 999999) : rdGo f g l (m * g + ((c.toNat : Int) - f) + l) r = R := by
  rw [ht, rdGo, if_neg (by omega)] at h; exact h
theorem rd_end {f g l m R X : Int} {s : ByteArray} {k : Nat} (hX : X = R) (h : rdGo f g l m (s.data.toList.drop k) = R) (hk : ¬ k < s.size) : m = X := by
  rw [List.drop_of_length_le (by simp; omega), rdGo] at h; omega
set_option maxHeartbeats 400000 in
theorem readA (s : ByteArray) (w : World) (hs : s.size ≤ 1000000) :
    Calls Tryd.prog 25 #[.string s, .int .u8 97, .int .i64 26, .int .i64 1] w fun e w' => e = .returned (.int .i64 (rdGo 97 26 1 0 s.data.toList)) ∧ w = w' := by
  go_enter Tryd.func25, Tryd.ntmps25
  go_wp2
  generalize hR : rdGo 97 26 1 0 s.data.toList = R
  have HR := Lib.hid hR
  clear hR
  go_loop [9, 10] (fun n i => ∃ (k : Nat) (m : Int), k ≤ s.size ∧ i = .int .i64 k ∧ n = .int .i64 m ∧ 0 ≤ m ∧ m ≤ 30000000 ∧ Hid (rdGo 97 26 1 m (s.data.toList.drop k) = R)) (fun _ i => s.size - (intOf i).toNat)
  case atStart => exact ⟨0, 0, by omega, rfl, rfl, by omega, by omega, by simpa using HR⟩
  case round =>
    obtain ⟨k, m, hk, rfl, rfl, hm0, hm1, HP⟩ := hrel
    by_cases hlt : k < s.size
    · have HS := Lib.hid (drop_at s k hlt)
      have hb : (s[k].toNat : Int) < 256 := by have := s[k].toNat_lt; omega
      by_cases h1 : (s[k].toNat : Int) - 97 < 0
      · go_wp2
        go_ret
        exact ⟨ret_int (rd_bad HR.out HP.out HS.out (.inl h1)), rfl⟩
      · by_cases h2 : 26 ≤ (s[k].toNat : Int) - 97
        · go_wp2
          go_ret
          exact ⟨ret_int (rd_bad HR.out HP.out HS.out (.inr (.inl h2))), rfl⟩
        · by_cases h3 : 999999 < m
          · go_wp2
            go_ret
            exact ⟨ret_int (rd_bad HR.out HP.out HS.out (.inr (.inr h3))), rfl⟩
          · go_wp2
            go_round
            case rel => exact ⟨k + 1, _, by omega, by go_num, rfl, by omega, by omega, Lib.hid (rd_good HP.out HS.out (by omega) (by omega) (by omega))⟩
            case measure => simp [intOf]; omega
    · go_wp2
      go_ret
      exact ⟨ret_int (rd_end HR.out HP.out hlt), rfl⟩
set_option maxHeartbeats 400000 in
theorem readD (s : ByteArray) (w : World) (hs : s.size ≤ 1000000) :
    Calls Tryd.prog 25 #[.string s, .int .u8 48, .int .i64 10, .int .i64 0] w fun e w' => e = .returned (.int .i64 (rdGo 48 10 0 0 s.data.toList)) ∧ w = w' := by
  go_enter Tryd.func25, Tryd.ntmps25
  go_wp2
  generalize hR : rdGo 48 10 0 0 s.data.toList = R
  have HR := Lib.hid hR
  clear hR
  go_loop [9, 10] (fun n i => ∃ (k : Nat) (m : Int), k ≤ s.size ∧ i = .int .i64 k ∧ n = .int .i64 m ∧ 0 ≤ m ∧ m ≤ 30000000 ∧ Hid (rdGo 48 10 0 m (s.data.toList.drop k) = R)) (fun _ i => s.size - (intOf i).toNat)
  case atStart => exact ⟨0, 0, by omega, rfl, rfl, by omega, by omega, by simpa using HR⟩
  case round =>
    obtain ⟨k, m, hk, rfl, rfl, hm0, hm1, HP⟩ := hrel
    by_cases hlt : k < s.size
    · have HS := Lib.hid (drop_at s k hlt)
      have hb : (s[k].toNat : Int) < 256 := by have := s[k].toNat_lt; omega
      by_cases h1 : (s[k].toNat : Int) - 48 < 0
      · go_wp2
        go_ret
        exact ⟨ret_int (rd_bad HR.out HP.out HS.out (.inl h1)), rfl⟩
      · by_cases h2 : 10 ≤ (s[k].toNat : Int) - 48
        · go_wp2
          go_ret
          exact ⟨ret_int (rd_bad HR.out HP.out HS.out (.inr (.inl h2))), rfl⟩
        · by_cases h3 : 999999 < m
          · go_wp2
            go_ret
            exact ⟨ret_int (rd_bad HR.out HP.out HS.out (.inr (.inr h3))), rfl⟩
          · go_wp2
            go_round
            case rel => exact ⟨k + 1, _, by omega, by go_num, rfl, by omega, by omega, Lib.hid ((by have h := rd_good HP.out HS.out (by omega) (by omega) (by omega); simpa using h))⟩
            case measure => simp [intOf]; omega
    · go_wp2
      go_ret
      exact ⟨ret_int (rd_end HR.out HP.out hlt), rfl⟩
end Go.Proofs.YtglhcnhenhfkiaaDoor

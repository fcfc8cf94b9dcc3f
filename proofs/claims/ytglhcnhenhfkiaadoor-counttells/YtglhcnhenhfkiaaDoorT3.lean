/-
  Contracts of count.placesValue over the translation, at its two calls' constants: for every text of at most a million bytes it returns the plain function's number; the world stays as it was.
-/
import Derived.Test.YtglhcnhenhfkiaaDoorA
import Derived.Handy
import Derived.Lib.Hide
namespace Go.Proofs.YtglhcnhenhfkiaaDoor
open Go.RowKit
/-- The number of a text by places, cut at each; 0, if a sign is strange. -/
def plGo (first signs low : Int) : Int → List UInt8 → Int
  | n, [] => n
  | n, c :: r => if (c.toNat : Int) - first < 0 ∨ signs ≤ (c.toNat : Int) - first then 0 else plGo first signs low (cCut (n * signs + ((c.toNat : Int) - first) + low)) r
theorem plGo_bd (first signs low : Int) : ∀ (l : List UInt8) (n : Int), 0 ≤ n → n ≤ 999999 → 0 ≤ plGo first signs low n l ∧ plGo first signs low n l ≤ 999999
  | [], n, h0, h1 => ⟨h0, h1⟩
  | c :: r, n, h0, h1 => by
    unfold plGo
    split
    · omega
    · exact plGo_bd first signs low r _ (cCut_bd _).1 (cCut_bd _).2
theorem drop_at (s : ByteArray) (k : Nat) (h : k < s.size) : s.data.toList.drop k = s[k] :: s.data.toList.drop (k + 1) := by
  rw [List.drop_eq_getElem_cons (by simpa using h)]; rfl
theorem pl_bad {f g l m R X : Int} {c : UInt8} {r t : List UInt8} (hX : X = R) (h : plGo f g l m t = R) (ht : t = c :: r) (hb : (c.toNat : Int) - f < 0 ∨ g ≤ (c.toNat : Int) - f) : 0 = X := by
  rw [hX, ← h, ht, plGo, if_pos hb]
theorem pl_good {f g l m R : Int} {c : UInt8} {r t : List UInt8} (h : plGo f g l m t = R) (ht : t = c :: r) (h1 : 0 ≤ (c.toNat : Int) - f) (h2 : (c.toNat : Int) - f < g) : plGo f g l (cCut (m * g + ((c.toNat : Int) - f) + l)) r = R := by
  rw [ht, plGo, if_neg (by omega)] at h; exact h
theorem pl_end {f g l m R X : Int} {s : ByteArray} {k : Nat} (hX : X = R) (h : plGo f g l m (s.data.toList.drop k) = R) (hk : ¬ k < s.size) : m = X := by
  rw [List.drop_of_length_le (by simp; omega), plGo] at h; omega

set_option maxHeartbeats 400000 in
theorem placesA (s : ByteArray) (w : World) (hs : s.size ≤ 1000000) :
    Calls Tryd.prog 31 #[.string s, .int .u8 97, .int .i64 26, .int .i64 1] w fun e w' => e = .returned (.int .i64 (plGo 97 26 1 0 s.data.toList)) ∧ w = w' := by
  go_enter Tryd.func31, Tryd.ntmps31
  go_wp2
  generalize hR : plGo 97 26 1 0 s.data.toList = R
  have HR := Lib.hid hR
  clear hR
  go_loop [9, 14] (fun n i => ∃ (k : Nat) (m : Int), k ≤ s.size ∧ i = .int .i64 k ∧ n = .int .i64 m ∧ 0 ≤ m ∧ m ≤ 999999 ∧ Hid (plGo 97 26 1 m (s.data.toList.drop k) = R)) (fun _ i => s.size - (intOf i).toNat)
  case atStart => exact ⟨0, 0, by omega, rfl, rfl, by omega, by omega, by simpa using HR⟩
  case round =>
    obtain ⟨k, m, hk, rfl, rfl, hm0, hm1, HP⟩ := hrel
    by_cases hlt : k < s.size
    · have HS := Lib.hid (drop_at s k hlt)
      have hb : (s[k].toNat : Int) < 256 := by have := s[k].toNat_lt; omega
      by_cases h1 : (s[k].toNat : Int) - 97 < 0
      · go_wp2
        go_ret
        exact ⟨ret_int (pl_bad HR.out HP.out HS.out (.inl h1)), rfl⟩
      · by_cases h2 : 26 ≤ (s[k].toNat : Int) - 97
        · go_wp2
          go_ret
          exact ⟨ret_int (pl_bad HR.out HP.out HS.out (.inr h2)), rfl⟩
        · go_wp2_with (go_at_call 11; refine (cut_any _ _).mono ?_; rintro e w' ⟨rfl, rfl⟩)
          go_round
          case rel => exact ⟨k + 1, _, by omega, by go_num, rfl, (cCut_bd _).1, (cCut_bd _).2, Lib.hid (pl_good HP.out HS.out h1 h2)⟩
          case measure => simp [intOf]; omega
    · go_wp2
      go_ret
      exact ⟨ret_int (pl_end HR.out HP.out hlt), rfl⟩

set_option maxHeartbeats 400000 in
theorem placesD (s : ByteArray) (w : World) (hs : s.size ≤ 1000000) :
    Calls Tryd.prog 31 #[.string s, .int .u8 48, .int .i64 10, .int .i64 0] w fun e w' => e = .returned (.int .i64 (plGo 48 10 0 0 s.data.toList)) ∧ w = w' := by
  go_enter Tryd.func31, Tryd.ntmps31
  go_wp2
  generalize hR : plGo 48 10 0 0 s.data.toList = R
  have HR := Lib.hid hR
  clear hR
  go_loop [9, 14] (fun n i => ∃ (k : Nat) (m : Int), k ≤ s.size ∧ i = .int .i64 k ∧ n = .int .i64 m ∧ 0 ≤ m ∧ m ≤ 999999 ∧ Hid (plGo 48 10 0 m (s.data.toList.drop k) = R)) (fun _ i => s.size - (intOf i).toNat)
  case atStart => exact ⟨0, 0, by omega, rfl, rfl, by omega, by omega, by simpa using HR⟩
  case round =>
    obtain ⟨k, m, hk, rfl, rfl, hm0, hm1, HP⟩ := hrel
    by_cases hlt : k < s.size
    · have HS := Lib.hid (drop_at s k hlt)
      have hb : (s[k].toNat : Int) < 256 := by have := s[k].toNat_lt; omega
      by_cases h1 : (s[k].toNat : Int) - 48 < 0
      · go_wp2
        go_ret
        exact ⟨ret_int (pl_bad HR.out HP.out HS.out (.inl h1)), rfl⟩
      · by_cases h2 : 10 ≤ (s[k].toNat : Int) - 48
        · go_wp2
          go_ret
          exact ⟨ret_int (pl_bad HR.out HP.out HS.out (.inr h2)), rfl⟩
        · go_wp2_with (go_at_call 11; refine (cut_any _ _).mono ?_; rintro e w' ⟨rfl, rfl⟩)
          go_round
          case rel => exact ⟨k + 1, _, by omega, by go_num, rfl, (cCut_bd _).1, (cCut_bd _).2, Lib.hid ((by have h := pl_good HP.out HS.out h1 h2; simpa using h))⟩
          case measure => simp [intOf]; omega
    · go_wp2
      go_ret
      exact ⟨ret_int (pl_end HR.out HP.out hlt), rfl⟩
end Go.Proofs.YtglhcnhenhfkiaaDoor

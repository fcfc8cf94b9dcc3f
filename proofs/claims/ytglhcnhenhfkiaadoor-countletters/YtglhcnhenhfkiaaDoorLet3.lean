/-
  The walk of CountLetters: for every two ints it returns true; the tables lie in memory; old memory stays as it was.
-/
import Derived.Test.YtglhcnhenhfkiaaDoorLet2
namespace Go.Proofs.YtglhcnhenhfkiaaDoor
open Go.RowKit Go.Sort

def letB2 : Nat → Nat
  | 0 => 0
  | k + 1 => 26 * letB2 k + 26
theorem let_len2 : ∀ (k n : Nat), n ≤ letB2 k → (letL n).length ≤ k
  | 0, n, h => by
    obtain rfl : n = 0 := by simpa [letB2] using h
    simp [letL_zero]
  | k + 1, n, h => by
    by_cases h0 : n = 0
    · subst h0; simp [letL_zero]
    · rw [letL_pos n (by omega)]
      have := let_len2 k ((n - 1) / 26) (by unfold letB2 at h; omega)
      simp only [List.length_append, List.length_singleton]
      omega
theorem let_short (n : Nat) (h1 : 1 ≤ n) (h : n ≤ 1000000) : 1 ≤ (letL n).length ∧ (letL n).length ≤ 1000 := by
  have h5 := let_len2 5 n (by have : letB2 5 = 12356630 := by decide
                              omega)
  refine ⟨?_, by omega⟩
  rw [letL_pos n h1]; simp
theorem text3 (n : Nat) (h : 1 ≤ n) : cTextN n 3 = letL n := by
  unfold cTextN; rw [if_neg (by omega), if_neg (by omega), if_pos ⟨rfl, h⟩]
theorem byte_last (P : List UInt8) (c : UInt8) (k : Nat) (hk : k = P.length) (h : k < ({ data := (P ++ [c]).toArray } : ByteArray).size) : ({ data := (P ++ [c]).toArray } : ByteArray)[k]'h = c := by
  subst hk
  show (P ++ [c]).toArray[P.length]'_ = c
  simp
theorem byteN (k : Nat) (h : k < 256) : (UInt8.ofNat k).toNat = k := by
  simp [UInt8.toNat_ofNat', Nat.mod_eq_of_lt h]
theorem last_of (S P : List UInt8) (c : UInt8) (hS : S = P ++ [c]) (k : Nat) (hk : k = S.length - 1) (h : k < ({ data := S.toArray } : ByteArray).size) : ({ data := S.toArray } : ByteArray)[k]'h = c := by
  subst hS
  exact byte_last P c k (by simp [hk]) h
theorem front_of (P : List UInt8) (c : UInt8) (k : Nat) (hk : k = P.length) : (({ data := (P ++ [c]).toArray } : ByteArray).extract 0 k).toList = P := by
  subst hk
  have : ({ data := (P ++ [c]).toArray } : ByteArray).extract 0 P.length = { data := P.toArray } := by
    apply ByteArray.ext
    simp [ByteArray.data_extract]
  rw [this]
  simp

theorem letters_any (a b : Int) (w : World) (T : Tabs w) :
    Calls Tryd.prog 6 #[.int .i64 a, .int .i64 b] w fun e w' => e = .returned (.bool true) ∧ Below w.heap.size w w' := by
  have ha := cCut_bd a
  have hb := cCut_bd b
  obtain ⟨ma, hma⟩ : ∃ m : Nat, cCut a = m := ⟨(cCut a).toNat, by omega⟩
  obtain ⟨mb, hmb⟩ : ∃ m : Nat, cCut b = m := ⟨(cCut b).toNat, by omega⟩
  obtain ⟨A, hA⟩ : ∃ A : Nat, max (1 : Int) ma = A := ⟨max 1 ma, by omega⟩
  obtain ⟨B, hB⟩ : ∃ B : Nat, max (1 : Int) mb = B := ⟨max 1 mb, by omega⟩
  have hA1 : 1 ≤ A := by omega
  have hB1 : 1 ≤ B := by omega
  have hA9 : A ≤ 999999 := by omega
  have hB9 : B ≤ 999999 := by omega
  have sA := let_short A hA1 (by omega)
  have sB := let_short B hB1 (by omega)
  have key : (B ≤ A) ∨ (A < B ∧ (letL A).length < (letL B).length) ∨ (A < B ∧ (letL A).length ≤ (letL B).length ∧ (((letL A).length : Int) == ((letL B).length : Int)) = true ∧ Op.bytesLess (letL A) (letL B) = true) := by
    by_cases h : B ≤ A
    · exact .inl h
    · have ho := let_order B A (by omega)
      by_cases he : (letL A).length = (letL B).length
      · exact .inr (.inr ⟨by omega, ho.1, by rw [beq_iff_eq]; omega, ho.2 he⟩)
      · exact .inr (.inl ⟨by omega, by omega⟩)
  by_cases h9 : A = 999999
  · have hN : cText ((A : Int) + 1) 3 = letL A := by
      subst h9
      unfold cText
      rw [show cCut (((999999 : Nat) : Int) + 1) = 999999 by decide]
      exact text3 999999 (by omega)
    exact letters_end a b ma mb A B (letL A) (letL B) (letL A) w T (Lib.hid hma) (Lib.hid hmb) (Lib.hid hA) (Lib.hid hB) hA9 hB9 hA1 hB1 (Lib.hid (text3 A hA1)) (Lib.hid (text3 B hB1)) (Lib.hid hN) sA.1 sB.1 sA.1 sA.2 sB.2 sA.2 key
      (by rw [beq_iff_eq]; omega) (by simp)
  · have hN : cText ((A : Int) + 1) 3 = letL (A + 1) := by
      unfold cText
      rw [cCut_id _ (by omega) (by omega)]
      exact text3 (A + 1) (by omega)
    have sN := let_short (A + 1) (by omega) (by omega)
    have q9 : ((A : Int) == 999999) = false := by rw [beq_eq_false_iff_ne]; omega
    by_cases hz : (A - 1) % 26 = 25
    · refine letters_z a b ma mb A B (letL A) (letL B) (letL (A + 1)) w T (Lib.hid hma) (Lib.hid hmb) (Lib.hid hA) (Lib.hid hB) hA9 hB9 hA1 hB1 (Lib.hid (text3 A hA1)) (Lib.hid (text3 B hB1)) (Lib.hid hN) sA.1 sB.1 sN.1 sA.2 sB.2 sN.2 key
        q9 ?_ ?_ (let_next_len A)
      · rw [last_of _ _ _ (letL_pos A hA1) _ rfl, byteN _ (by omega), hz]; rfl
      · rw [last_of _ _ _ (let_over A (by omega)) _ rfl]; rfl
    · have hlen : (letL (A + 1)).length = (letL A).length := by
        rw [let_turn A hA1 hz, letL_pos A hA1]; simp
      have e1 : ∀ h, ({ data := (letL A).toArray } : ByteArray)[(letL A).length - 1]'h = UInt8.ofNat (97 + (A - 1) % 26) := fun h => last_of _ _ _ (letL_pos A hA1) _ rfl h
      have e2 : ∀ h, ({ data := (letL (A + 1)).toArray } : ByteArray)[(letL A).length - 1]'h = UInt8.ofNat (98 + (A - 1) % 26) := fun h => last_of _ _ _ (let_turn A hA1 hz) _ (by rw [hlen]) h
      refine letters_turn a b ma mb A B (letL A) (letL B) (letL (A + 1)) w T (Lib.hid hma) (Lib.hid hmb) (Lib.hid hA) (Lib.hid hB) hA9 hB9 hA1 hB1 (Lib.hid (text3 A hA1)) (Lib.hid (text3 B hB1)) (Lib.hid hN) sA.1 sB.1 sN.1 sA.2 sB.2 sN.2 key
        q9 ?_ (by omega) (by omega) (by rw [beq_iff_eq]; omega) ?_ ?_
      · rw [e1, byteN _ (by omega), bne_iff_ne]; omega
      · have hl : (letL A).length - 1 = (letL ((A - 1) / 26)).length := by rw [letL_pos A hA1]; simp
        rw [hl]
        conv => lhs; rw [let_turn A hA1 hz]
        conv => rhs; rw [letL_pos A hA1]
        rw [front_of _ _ _ rfl, front_of _ _ _ rfl]
      · rw [e1, e2, byteN _ (by omega), byteN _ (by omega), IntWalk.u8_in _ (by omega)]; omega
end Go.Proofs.YtglhcnhenhfkiaaDoor

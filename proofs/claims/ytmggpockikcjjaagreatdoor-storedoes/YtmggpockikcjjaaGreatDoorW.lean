/-
  Plain mathematics of texts as bytes (no program text): a text with its length ahead, what stands at a place, all texts, a map's bytes, and what follows.
-/
import Derived.Lib.ItoaNum
import Derived.Test.YtmggpockikcjjaaGreatDoorP
namespace Go.Proofs.YtmggpockikcjjaaGreatDoor

theorem dec_small (u : Nat) (h : u < 10) : Lib.decDigits u = [UInt8.ofNat (48 + u)] := by rw [Lib.decDigits, dif_pos h]
theorem dec_big (u : Nat) (h : ¬ u < 10) : Lib.decDigits u = Lib.decDigits (u / 10) ++ [UInt8.ofNat (48 + u % 10)] := by rw [Lib.decDigits, dif_neg h]
theorem dec_ne (u : Nat) : Lib.decDigits u ≠ [] := by
  by_cases h : u < 10
  · rw [dec_small u h]; simp
  · rw [dec_big u h]; simp

/-! ### The number at the beginning of bytes -/
/-- What is wrong (0: nothing), the number, and what stands behind its colon. -/
def numG : Bool → Bool → Nat → List UInt8 → Int × Nat × List UInt8
  | _, _, _, [] => (6, 0, [])
  | z, b, n, c :: r =>
    if c.toNat = 58 ∧ b = true then (0, n, r)
    else if c.toNat < 48 ∨ 57 < c.toNat then (5, 0, [])
    else if b = true ∧ z = true then (5, 0, [])
    else if 999999 < n * 10 + (c.toNat - 48) then (3, 0, [])
    else numG (if b = true then z else decide (c.toNat = 48)) true (n * 10 + (c.toNat - 48)) r
theorem numG_nil (z b : Bool) (n : Nat) : numG z b n [] = (6, 0, []) := rfl
theorem numG_colon (z : Bool) (n : Nat) {c : UInt8} (r : List UInt8) (h : c.toNat = 58) : numG z true n (c :: r) = (0, n, r) := by
  rw [numG, if_pos ⟨h, rfl⟩]
theorem numG_form (z b : Bool) (n : Nat) {c : UInt8} (r : List UInt8) (h : ¬ (c.toNat = 58 ∧ b = true)) (k : c.toNat < 48 ∨ 57 < c.toNat) : numG z b n (c :: r) = (5, 0, []) := by
  rw [numG, if_neg h, if_pos k]
theorem numG_zero (n : Nat) {c : UInt8} (r : List UInt8) (h : c.toNat ≠ 58) : numG true true n (c :: r) = (5, 0, []) := by
  rw [numG, if_neg (fun q => h q.1)]
  split
  · rfl
  · rw [if_pos ⟨rfl, rfl⟩]
theorem numG_big (z b : Bool) (n : Nat) {c : UInt8} (r : List UInt8) (k1 : 48 ≤ c.toNat) (k2 : c.toNat ≤ 57) (hz : ¬ (b = true ∧ z = true)) (hn : 999999 < n * 10 + (c.toNat - 48)) : numG z b n (c :: r) = (3, 0, []) := by
  rw [numG, if_neg (fun q => by omega), if_neg (by omega), if_neg hz, if_pos hn]
theorem numG_step (z b : Bool) (n : Nat) {c : UInt8} (r : List UInt8) (k1 : 48 ≤ c.toNat) (k2 : c.toNat ≤ 57) (hz : ¬ (b = true ∧ z = true)) (hn : n * 10 + (c.toNat - 48) ≤ 999999) :
    numG z b n (c :: r) = numG (if b = true then z else decide (c.toNat = 48)) true (n * 10 + (c.toNat - 48)) r := by
  rw [numG, if_neg (fun q => by omega), if_neg (by omega), if_neg hz, if_neg (by omega)]
theorem numG_codes : ∀ (l : List UInt8) (z b : Bool) (n : Nat), (numG z b n l).1 = 0 ∨ (numG z b n l).1 = 3 ∨ (numG z b n l).1 = 5 ∨ (numG z b n l).1 = 6
  | [], _, _, _ => .inr (.inr (.inr rfl))
  | c :: r, z, b, n => by
    rw [numG]
    split
    · exact .inl rfl
    · split
      · exact .inr (.inr (.inl rfl))
      · split
        · exact .inr (.inr (.inl rfl))
        · split
          · exact .inr (.inl rfl)
          · exact numG_codes r _ _ _
theorem numG_bad : ∀ (l : List UInt8) (z b : Bool) (n : Nat), (numG z b n l).1 ≠ 0 → (numG z b n l).2 = (0, [])
  | [], _, _, _, _ => rfl
  | c :: r, z, b, n, h => by
    rw [numG] at h ⊢
    split
    · rename_i q; rw [if_pos q] at h; exact absurd rfl h
    · rename_i q1; rw [if_neg q1] at h
      split
      · rfl
      · rename_i q2; rw [if_neg q2] at h
        split
        · rfl
        · rename_i q3; rw [if_neg q3] at h
          split
          · rfl
          · rename_i q4; rw [if_neg q4] at h
            exact numG_bad r _ _ _ h
theorem numG_dig : ∀ (n : Nat), n ≤ 999999 → ∀ r, numG false false 0 (Lib.decDigits n ++ r) = numG (decide (n = 0)) true n r := by
  intro n
  induction n using Nat.strongRecOn with
  | _ n ih =>
    intro hn r
    have hc : ∀ d, d < 10 → (UInt8.ofNat (48 + d)).toNat = 48 + d := fun d hd => by
      rw [UInt8.toNat_ofNat']; omega
    by_cases h : n < 10
    · rw [dec_small n h, List.singleton_append, numG_step _ _ _ _ (by rw [hc n h]; omega) (by rw [hc n h]; omega) (by simp) (by rw [hc n h]; omega), hc n h]
      simp
    · rw [dec_big n h, List.append_assoc, ih (n / 10) (by omega) (by omega), List.singleton_append]
      have hd := hc (n % 10) (by omega)
      have h0 : ¬ n / 10 = 0 := by omega
      have h1 : ¬ n = 0 := by omega
      rw [numG_step _ _ _ _ (by rw [hd]; omega) (by rw [hd]; omega) (by simp [h0]) (by rw [hd]; omega), hd]
      rw [if_pos rfl, decide_eq_false h0, decide_eq_false h1, show n / 10 * 10 + (48 + n % 10 - 48) = n by omega]
theorem u8_of {c : UInt8} {n : Nat} (h : c.toNat = n) : c = UInt8.ofNat n := by
  apply UInt8.toNat_inj.1; rw [UInt8.toNat_ofNat', h]; have := c.toNat_lt; omega
theorem numG_back : ∀ (l : List UInt8) (n x : Nat) (r : List UInt8), numG (decide (n = 0)) true n l = (0, x, r) → n ≤ 999999 → Lib.decDigits n ++ l = Lib.decDigits x ++ 58 :: r ∧ x ≤ 999999
  | [], _, _, _, h, _ => by simp [numG_nil] at h
  | c :: l, n, x, r, h, hn => by
    by_cases h1 : c.toNat = 58
    · rw [numG_colon _ _ _ h1] at h
      simp only [Prod.mk.injEq, true_and] at h
      obtain ⟨rfl, rfl⟩ := h
      rw [u8_of h1]; exact ⟨rfl, hn⟩
    by_cases h2 : c.toNat < 48 ∨ 57 < c.toNat
    · rw [numG_form _ _ _ _ (fun q => h1 q.1) h2] at h; simp at h
    by_cases h0 : n = 0
    · subst h0
      rw [decide_eq_true rfl, numG_zero _ _ h1] at h; simp at h
    by_cases h3 : 999999 < n * 10 + (c.toNat - 48)
    · rw [numG_big _ _ _ _ (by omega) (by omega) (by simp [h0]) h3] at h; simp at h
    rw [numG_step _ _ _ _ (by omega) (by omega) (by simp [h0]) (by omega), if_pos rfl, decide_eq_false h0, ← decide_eq_false (show ¬ n * 10 + (c.toNat - 48) = 0 by omega)] at h
    have ih := numG_back l _ x r h (by omega)
    rw [dec_big (n * 10 + (c.toNat - 48)) (by omega)] at ih
    rw [show (n * 10 + (c.toNat - 48)) / 10 = n by omega, show (n * 10 + (c.toNat - 48)) % 10 = c.toNat - 48 by omega, ← u8_of (show c.toNat = 48 + (c.toNat - 48) by omega), List.append_assoc, List.singleton_append] at ih
    exact ih
theorem numG_is {l : List UInt8} {x : Nat} {r : List UInt8} (h : numG false false 0 l = (0, x, r)) : l = Lib.decDigits x ++ 58 :: r ∧ x ≤ 999999 := by
  cases l with
  | nil => simp [numG_nil] at h
  | cons c l =>
    by_cases h2 : c.toNat < 48 ∨ 57 < c.toNat
    · rw [numG_form _ _ _ _ (fun q => by simp at q) h2] at h; simp at h
    rw [numG_step _ _ _ _ (by omega) (by omega) (by simp) (by omega)] at h
    rw [if_neg (by simp), show decide (c.toNat = 48) = decide (0 * 10 + (c.toNat - 48) = 0) from decide_eq_decide.2 (by omega)] at h
    have := numG_back l _ x r h (by omega)
    rw [dec_small _ (by omega), show 48 + (0 * 10 + (c.toNat - 48)) = c.toNat by omega, ← u8_of (c := c) rfl, List.singleton_append] at this
    exact this
theorem numG_app : ∀ (p q : List UInt8) (z b : Bool) (n : Nat), (numG z b n p).1 ≠ 6 → numG z b n (p ++ q) = ((numG z b n p).1, (numG z b n p).2.1, if (numG z b n p).1 = 0 then (numG z b n p).2.2 ++ q else [])
  | [], _, _, _, _, h => absurd rfl h
  | c :: p, q, z, b, n, h => by
    rw [numG] at h
    rw [List.cons_append, numG, numG]
    split
    · simp
    · rename_i q1; rw [if_neg q1] at h
      split
      · simp
      · rename_i q2; rw [if_neg q2] at h
        split
        · simp
        · rename_i q3; rw [if_neg q3] at h
          split
          · simp
          · rename_i q4; rw [if_neg q4] at h
            exact numG_app p q _ _ _ h

/-! ### A text at the beginning of bytes -/
/-- What is wrong, the text, and what stands behind it. -/
def gotL (t : List UInt8) (m : Nat) : Int × List UInt8 × List UInt8 :=
  let x := numG false false 0 t
  if x.1 ≠ 0 then (x.1, [], [])
  else if m < x.2.1 then (3, [], [])
  else if x.2.2.length ≤ x.2.1 then (6, [], [])
  else if x.2.2.getD x.2.1 0 ≠ 44 then (5, [], [])
  else (0, x.2.2.take x.2.1, x.2.2.drop (x.2.1 + 1))
def wputL (s : List UInt8) : List UInt8 := Lib.decDigits s.length ++ (58 :: (s ++ [44]))
theorem got_num {t : List UInt8} {m : Nat} (h : (numG false false 0 t).1 ≠ 0) : gotL t m = ((numG false false 0 t).1, [], []) := by
  unfold gotL; simp only; rw [if_pos h]
theorem got_big {t : List UInt8} {m n : Nat} {r : List UInt8} (h : numG false false 0 t = (0, n, r)) (k : m < n) : gotL t m = (3, [], []) := by
  unfold gotL; simp only [h]; rw [if_neg (by simp), if_pos k]
theorem got_short {t : List UInt8} {m n : Nat} {r : List UInt8} (h : numG false false 0 t = (0, n, r)) (k : n ≤ m) (k2 : r.length ≤ n) : gotL t m = (6, [], []) := by
  unfold gotL; simp only [h]; rw [if_neg (by simp), if_neg (by omega), if_pos k2]
theorem got_form {t : List UInt8} {m n : Nat} {r : List UInt8} {c : UInt8} (h : numG false false 0 t = (0, n, r)) (k : n ≤ m) (k2 : r[n]? = some c) (k3 : c ≠ 44) : gotL t m = (5, [], []) := by
  have hl : n < r.length := by
    rcases Nat.lt_or_ge n r.length with q | q
    · exact q
    · rw [List.getElem?_eq_none q] at k2; cases k2
  unfold gotL; simp only [h]; rw [if_neg (by simp), if_neg (by omega), if_neg (by omega), if_pos (by simp [List.getD, k2, k3])]
theorem got_ok {t : List UInt8} {m n : Nat} {r : List UInt8} (h : numG false false 0 t = (0, n, r)) (k : n ≤ m) (k2 : r[n]? = some 44) : gotL t m = (0, r.take n, r.drop (n + 1)) := by
  have hl : n < r.length := by
    rcases Nat.lt_or_ge n r.length with q | q
    · exact q
    · rw [List.getElem?_eq_none q] at k2; cases k2
  unfold gotL; simp only [h]; rw [if_neg (by simp), if_neg (by omega), if_neg (by omega), if_neg (by simp [List.getD, k2])]
/-- The five ways. -/
theorem got_ways (t : List UInt8) (m : Nat) : ((numG false false 0 t).1 ≠ 0 ∧ gotL t m = ((numG false false 0 t).1, [], []))
    ∨ ∃ n r, numG false false 0 t = (0, n, r) ∧ ((m < n ∧ gotL t m = (3, [], [])) ∨ (n ≤ m ∧ r.length ≤ n ∧ gotL t m = (6, [], [])) ∨ (n ≤ m ∧ ∃ c, r[n]? = some c ∧ c ≠ 44 ∧ gotL t m = (5, [], [])) ∨ (n ≤ m ∧ r[n]? = some 44 ∧ gotL t m = (0, r.take n, r.drop (n + 1)))) := by
  by_cases h : (numG false false 0 t).1 = 0
  · right
    obtain ⟨e, n, r⟩ : ∃ x, x = numG false false 0 t := ⟨_, rfl⟩
    generalize hx : numG false false 0 t = x at h
    obtain ⟨e, n, r⟩ := x
    subst h
    refine ⟨n, r, rfl, ?_⟩
    by_cases k : m < n
    · exact .inl ⟨k, got_big hx k⟩
    by_cases k2 : r.length ≤ n
    · exact .inr (.inl ⟨by omega, k2, got_short hx (by omega) k2⟩)
    have k3 : r[n]? = some r[n] := List.getElem?_eq_getElem (by omega)
    by_cases k4 : r[n] = 44
    · exact .inr (.inr (.inr ⟨by omega, by rw [k3, k4], got_ok hx (by omega) (by rw [k3, k4])⟩))
    · exact .inr (.inr (.inl ⟨by omega, _, k3, k4, got_form hx (by omega) k3 k4⟩))
  · exact .inl ⟨h, got_num h⟩
theorem got_codes (t : List UInt8) (m : Nat) : (gotL t m).1 = 0 ∨ ((gotL t m).1 = 3 ∨ (gotL t m).1 = 5 ∨ (gotL t m).1 = 6) ∧ (gotL t m).2 = ([], []) := by
  rcases got_ways t m with ⟨h, e⟩ | ⟨n, r, _, ⟨_, e⟩ | ⟨_, _, e⟩ | ⟨_, c, _, _, e⟩ | ⟨_, _, e⟩⟩
  · rcases numG_codes t false false 0 with q | q | q | q
    · exact absurd q h
    · right; rw [e]; exact ⟨.inl q, rfl⟩
    · right; rw [e]; exact ⟨.inr (.inl q), rfl⟩
    · right; rw [e]; exact ⟨.inr (.inr q), rfl⟩
  · right; rw [e]; exact ⟨.inl rfl, rfl⟩
  · right; rw [e]; exact ⟨.inr (.inr rfl), rfl⟩
  · right; rw [e]; exact ⟨.inr (.inl rfl), rfl⟩
  · left; rw [e]
/-- What is put is got. -/
theorem got_put (s : List UInt8) (x : List UInt8) (m : Nat) (hs : s.length ≤ 999999) (hm : s.length ≤ m) : gotL (wputL s ++ x) m = (0, s, x) := by
  have hn : numG false false 0 (wputL s ++ x) = (0, s.length, s ++ (44 :: x)) := by
    unfold wputL
    rw [List.append_assoc, numG_dig _ hs, List.cons_append, numG_colon _ _ _ rfl, List.append_assoc, List.singleton_append]
  rw [got_ok hn hm (by rw [List.getElem?_append_right (Nat.le_refl _)]; simp)]
  rw [List.take_append_of_le_length (Nat.le_refl _), List.take_length, List.drop_append]
  simp
theorem got_put_big (s : List UInt8) (x : List UInt8) (m : Nat) (hs : s.length ≤ 999999) (hm : m < s.length) : gotL (wputL s ++ x) m = (3, [], []) := by
  have hn : numG false false 0 (wputL s ++ x) = (0, s.length, s ++ (44 :: x)) := by
    unfold wputL
    rw [List.append_assoc, numG_dig _ hs, List.cons_append, numG_colon _ _ _ rfl, List.append_assoc, List.singleton_append]
  exact got_big hn hm
theorem got_is {t u r : List UInt8} {m : Nat} (h : gotL t m = (0, u, r)) : t = wputL u ++ r ∧ u.length ≤ 999999 ∧ u.length ≤ m := by
  rcases got_ways t m with ⟨k, e⟩ | ⟨n, r', hn, ⟨_, e⟩ | ⟨_, _, e⟩ | ⟨_, c, _, _, e⟩ | ⟨hm, h4, e⟩⟩
  · rw [e] at h; simp only [Prod.mk.injEq] at h; exact absurd h.1 k
  · rw [e] at h; simp at h
  · rw [e] at h; simp at h
  · rw [e] at h; simp at h
  · rw [e] at h
    simp only [Prod.mk.injEq, true_and] at h
    obtain ⟨rfl, rfl⟩ := h
    obtain ⟨h1, h2⟩ := numG_is hn
    have hl : n < r'.length := by
      rcases Nat.lt_or_ge n r'.length with q | q
      · exact q
      · rw [List.getElem?_eq_none q] at h4; cases h4
    have ht : (r'.take n).length = n := by rw [List.length_take]; omega
    refine ⟨?_, by omega, by omega⟩
    rw [h1]; unfold wputL
    rw [ht, List.append_assoc, List.cons_append, List.append_assoc]
    congr 2
    have e4 : r'[n] = 44 := by rw [List.getElem?_eq_getElem hl] at h4; simpa using h4
    have : r' = r'.take n ++ r'.drop n := (List.take_append_drop n r').symm
    rw [List.drop_eq_getElem_cons hl, e4] at this
    exact this
theorem got_app (p q : List UInt8) (m : Nat) (h : (gotL p m).1 ≠ 6) : (gotL (p ++ q) m).1 = (gotL p m).1 ∧ ((gotL p m).1 = 0 → (gotL (p ++ q) m).2 = ((gotL p m).2.1, (gotL p m).2.2 ++ q)) := by
  rcases got_ways p m with ⟨k, e⟩ | ⟨n, r, hn, hw⟩
  · have h6 : (numG false false 0 p).1 ≠ 6 := by rw [e] at h; exact h
    have ha := numG_app p q false false 0 h6
    have k2 : (numG false false 0 (p ++ q)).1 ≠ 0 := by rw [ha]; exact k
    rw [got_num k2, e, ha]
    exact ⟨rfl, fun h0 => absurd h0 k⟩
  · have ha := numG_app p q false false 0 (by rw [hn]; simp)
    rw [hn] at ha
    simp only [if_true] at ha
    rcases hw with ⟨k, e⟩ | ⟨_, _, e⟩ | ⟨k, c, h1, h2, e⟩ | ⟨k, h4, e⟩
    · rw [e, got_big ha k]; exact ⟨rfl, fun h0 => by simp at h0⟩
    · rw [e] at h; exact absurd rfl h
    · rw [e, got_form ha k (by rw [List.getElem?_append_left (by rcases Nat.lt_or_ge n r.length with q | q; exact q; rw [List.getElem?_eq_none q] at h1; cases h1)]; exact h1) h2]
      exact ⟨rfl, fun h0 => by simp at h0⟩
    · have hl : n < r.length := by
        rcases Nat.lt_or_ge n r.length with q | q
        · exact q
        · rw [List.getElem?_eq_none q] at h4; cases h4
      rw [e, got_ok ha k (by rw [List.getElem?_append_left hl]; exact h4)]
      refine ⟨rfl, fun _ => ?_⟩
      simp only [Prod.mk.injEq]
      exact ⟨List.take_append_of_le_length (by omega), List.drop_append_of_le_length (by omega)⟩
/-- Cut off anywhere they are too short. -/
theorem got_cut (s : List UInt8) (j m : Nat) (hs : s.length ≤ 999999) (hm : s.length ≤ m) (hj : j < (wputL s).length) : gotL ((wputL s).take j) m = (6, [], []) := by
  have h6 : (gotL ((wputL s).take j) m).1 = 6 := by
    rcases Classical.em ((gotL ((wputL s).take j) m).1 = 6) with h | h
    · exact h
    · exfalso
      obtain ⟨h1, h2⟩ := got_app ((wputL s).take j) ((wputL s).drop j) m h
      have hp := got_put s [] m hs hm
      rw [List.append_nil] at hp
      rw [List.take_append_drop, hp] at h1 h2
      have h3 := h2 h1.symm
      simp only [Prod.mk.injEq] at h3
      have h4 := congrArg List.length h3.2
      rw [List.length_append, List.length_drop] at h4
      simp at h4
      omega
  rcases got_codes ((wputL s).take j) m with h | ⟨_, h⟩
  · rw [h] at h6; exact absurd h6 (by decide)
  · generalize gotL ((wputL s).take j) m = x at h h6
    obtain ⟨a, b⟩ := x
    simp only at h h6
    rw [h, h6]
theorem wput_inj {s t : List UInt8} (hs : s.length ≤ 999999) (ht : t.length ≤ 999999) (h : wputL s = wputL t) : s = t := by
  have h1 := got_put s [] 999999 hs hs
  have h2 := got_put t [] 999999 ht ht
  rw [h, h2] at h1
  simp only [Prod.mk.injEq, true_and, and_true] at h1
  exact h1.symm
theorem wput_free {s t x : List UInt8} (hs : s.length ≤ 999999) (ht : t.length ≤ 999999) (h : wputL t = wputL s ++ x) : s = t := by
  have h1 := got_put s x 999999 hs hs
  have h2 := got_put t [] 999999 ht ht
  rw [← h] at h1
  rw [List.append_nil, h1] at h2
  simp only [Prod.mk.injEq, true_and] at h2
  exact h2.1
theorem wput_len (s : List UInt8) : (wputL s).length = (Lib.decDigits s.length).length + s.length + 2 := by
  unfold wputL; simp; omega
theorem wput_len3 (s : List UInt8) : 3 ≤ (wputL s).length := by
  rw [wput_len]
  have : 0 < (Lib.decDigits s.length).length := List.length_pos_iff.2 (dec_ne s.length)
  omega

/-! ### The text at a place -/
def getE (s : List UInt8) (pl most : Int) : Int := if pl < 0 ∨ (s.length : Int) < pl then 1 else (gotL (s.drop pl.toNat) most.toNat).1
def getT (s : List UInt8) (pl most : Int) : List UInt8 := if pl < 0 ∨ (s.length : Int) < pl then [] else (gotL (s.drop pl.toNat) most.toNat).2.1
def getP (s : List UInt8) (pl most : Int) : Nat := if getE s pl most = 0 then s.length - (gotL (s.drop pl.toNat) most.toNat).2.2.length else 0

/-! ### All texts -/
def allG : Nat → List UInt8 → Int × List (List UInt8)
  | 0, _ => (0, [])
  | f + 1, t => if t = [] then (0, []) else if (gotL t 999999).1 ≠ 0 then ((gotL t 999999).1, []) else
      (if (allG f (gotL t 999999).2.2).1 = 0 then (0, (gotL t 999999).2.1 :: (allG f (gotL t 999999).2.2).2) else ((allG f (gotL t 999999).2.2).1, []))
def allL (t : List UInt8) : Int × List (List UInt8) := allG t.length t
theorem got_less {t u r : List UInt8} {m : Nat} (h : gotL t m = (0, u, r)) : r.length + 3 ≤ t.length := by
  rw [(got_is h).1, List.length_append]
  have := wput_len3 u
  omega
theorem allG_fuel : ∀ (f g : Nat) (t : List UInt8), t.length ≤ f → t.length ≤ g → allG f t = allG g t
  | 0, 0, _, _, _ => rfl
  | 0, g + 1, t, h, _ => by
    have : t = [] := List.eq_nil_of_length_eq_zero (by omega)
    rw [allG, allG, if_pos this]
  | f + 1, 0, t, _, h => by
    have : t = [] := List.eq_nil_of_length_eq_zero (by omega)
    rw [allG, allG, if_pos this]
  | f + 1, g + 1, t, h1, h2 => by
    rw [allG, allG]
    by_cases q : t = []
    · rw [if_pos q, if_pos q]
    rw [if_neg q, if_neg q]
    by_cases q2 : (gotL t 999999).1 = 0
    · have q3 : ¬ (gotL t 999999).1 ≠ 0 := fun h => h q2
      rw [if_neg q3, if_neg q3]
      have hl : (gotL t 999999).2.2.length + 3 ≤ t.length := got_less (u := (gotL t 999999).2.1) (m := 999999) (by rw [← q2])
      rw [allG_fuel f g _ (by omega) (by omega)]
    · rw [if_pos q2, if_pos q2]
theorem all_nil : allL [] = (0, []) := rfl
theorem all_bad {t : List UInt8} (h0 : t ≠ []) (h : (gotL t 999999).1 ≠ 0) : allL t = ((gotL t 999999).1, []) := by
  unfold allL
  obtain ⟨c, r, rfl⟩ := List.exists_cons_of_ne_nil h0
  rw [List.length_cons, allG, if_neg h0, if_pos h]
theorem all_step {t u r : List UInt8} (h : gotL t 999999 = (0, u, r)) : allL t = if (allL r).1 = 0 then (0, u :: (allL r).2) else ((allL r).1, []) := by
  have hl := got_less h
  have h0 : t ≠ [] := by rintro rfl; simp at hl
  unfold allL
  obtain ⟨c, r', rfl⟩ := List.exists_cons_of_ne_nil h0
  rw [List.length_cons, allG, if_neg h0, h]
  simp only [ne_eq, not_true_eq_false, if_false]
  rw [List.length_cons] at hl
  rw [allG_fuel r'.length r.length r (by omega) (Nat.le_refl _)]
theorem all_codes : ∀ (f : Nat) (t : List UInt8), t.length ≤ f → (allL t).1 = 0 ∨ ((allL t).1 = 3 ∨ (allL t).1 = 5 ∨ (allL t).1 = 6) ∧ (allL t).2 = []
  | 0, t, h => by
    have : t = [] := List.eq_nil_of_length_eq_zero (by omega)
    subst this; exact .inl rfl
  | f + 1, t, h => by
    by_cases h0 : t = []
    · subst h0; exact .inl rfl
    rcases got_codes t 999999 with q | ⟨q, _⟩
    · have e : gotL t 999999 = (0, (gotL t 999999).2.1, (gotL t 999999).2.2) := by rw [← q]
      have hl := got_less e
      rw [all_step e]
      split
      · exact .inl rfl
      · rename_i hz
        rcases all_codes f (gotL t 999999).2.2 (by omega) with k | ⟨k, _⟩
        · exact absurd k hz
        · exact .inr ⟨k, rfl⟩
    · have hne : (gotL t 999999).1 ≠ 0 := by rcases q with q | q | q <;> rw [q] <;> decide
      rw [all_bad h0 hne]
      exact .inr ⟨q, rfl⟩
def catL (ts : List (List UInt8)) : List UInt8 := ts.flatMap wputL
theorem catL_nil : catL [] = [] := rfl
theorem catL_cons (t : List UInt8) (ts : List (List UInt8)) : catL (t :: ts) = wputL t ++ catL ts := by simp [catL]
theorem catL_snoc (ts : List (List UInt8)) (t : List UInt8) : catL (ts ++ [t]) = catL ts ++ wputL t := by simp [catL]
theorem all_cat : ∀ (ts : List (List UInt8)), (∀ t ∈ ts, t.length ≤ 999999) → allL (catL ts) = (0, ts)
  | [], _ => all_nil
  | t :: ts, h => by
    have h1 := h t (List.mem_cons_self ..)
    rw [catL_cons, all_step (got_put t (catL ts) 999999 h1 h1), all_cat ts (fun u hu => h u (List.mem_cons_of_mem _ hu))]
    rfl
theorem all_is : ∀ (f : Nat) (t : List UInt8) (ts : List (List UInt8)), t.length ≤ f → allL t = (0, ts) → t = catL ts
  | 0, t, ts, h, e => by
    have : t = [] := List.eq_nil_of_length_eq_zero (by omega)
    subst this
    rw [all_nil] at e; simp only [Prod.mk.injEq, true_and] at e; rw [← e]; rfl
  | f + 1, t, ts, h, e => by
    by_cases h0 : t = []
    · subst h0
      rw [all_nil] at e; simp only [Prod.mk.injEq, true_and] at e; rw [← e]; rfl
    by_cases q : (gotL t 999999).1 = 0
    · have e1 : gotL t 999999 = (0, (gotL t 999999).2.1, (gotL t 999999).2.2) := by rw [← q]
      have hl := got_less e1
      have hi := (got_is e1).1
      rw [all_step e1] at e
      by_cases hz : (allL (gotL t 999999).2.2).1 = 0
      · rw [if_pos hz] at e
        simp only [Prod.mk.injEq, true_and] at e
        have := all_is f (gotL t 999999).2.2 (allL (gotL t 999999).2.2).2 (by omega) (by rw [← hz])
        rw [← e, catL_cons, ← this]
        exact hi
      · rw [if_neg hz] at e; simp only [Prod.mk.injEq] at e; exact absurd e.1 hz
    · rw [all_bad h0 q] at e; simp only [Prod.mk.injEq] at e; exact absurd e.1 q

/-! ### A map's bytes -/
def pairL : List (List UInt8) → List Fl
  | a :: b :: r => (a, b) :: pairL r
  | _ => []
def filesL (fs : List Fl) : List UInt8 := fs.flatMap fun f => wputL f.1 ++ wputL f.2
def flat2 : List Fl → List (List UInt8)
  | [] => []
  | f :: r => f.1 :: f.2 :: flat2 r
theorem filesL_cat : ∀ fs : List Fl, filesL fs = catL (flat2 fs)
  | [] => rfl
  | f :: r => by
    have := filesL_cat r
    simp only [filesL, List.flatMap_cons] at this ⊢
    rw [flat2, catL_cons, catL_cons, ← this, List.append_assoc]
theorem pair_flat : ∀ fs : List Fl, pairL (flat2 fs) = fs
  | [] => rfl
  | f :: r => by rw [flat2, pairL, pair_flat r]
theorem flat_len : ∀ fs : List Fl, (flat2 fs).length = 2 * fs.length
  | [] => rfl
  | f :: r => by rw [flat2, List.length_cons, List.length_cons, flat_len r, List.length_cons]; omega
theorem flat_pair : ∀ (n : Nat) (ts : List (List UInt8)), ts.length = 2 * n → flat2 (pairL ts) = ts
  | 0, ts, h => by
    have : ts = [] := List.eq_nil_of_length_eq_zero (by omega)
    subst this; rfl
  | n + 1, [], h => by simp at h
  | n + 1, [a], h => by simp at h; omega
  | n + 1, a :: b :: r, h => by rw [pairL, flat2, flat_pair n r (by simp at h; omega)]
theorem flat_mem {fs : List Fl} {t : List UInt8} (h : t ∈ flat2 fs) : ∃ f ∈ fs, t = f.1 ∨ t = f.2 := by
  induction fs with
  | nil => cases h
  | cons f r ih =>
    rw [flat2, List.mem_cons, List.mem_cons] at h
    rcases h with h | h | h
    · exact ⟨f, List.mem_cons_self .., .inl h⟩
    · exact ⟨f, List.mem_cons_self .., .inr h⟩
    · obtain ⟨g, hg, q⟩ := ih h
      exact ⟨g, List.mem_cons_of_mem _ hg, q⟩
def parseL (s : List UInt8) : Int × List Fl :=
  if (allL s).1 ≠ 0 then ((allL s).1, [])
  else if (allL s).2.length % 2 ≠ 0 then (5, [])
  else if rightB (pairL (allL s).2) = false then (5, [])
  else (0, pairL (allL s).2)
theorem parse_bad {s : List UInt8} (h : (allL s).1 ≠ 0) : parseL s = ((allL s).1, []) := by unfold parseL; rw [if_pos h]
theorem parse_odd {s : List UInt8} {ts : List (List UInt8)} (h : allL s = (0, ts)) (k : ts.length % 2 ≠ 0) : parseL s = (5, []) := by
  unfold parseL; rw [h]; simp only; rw [if_neg (by simp), if_pos k]
theorem parse_wrong {s : List UInt8} {ts : List (List UInt8)} (h : allL s = (0, ts)) (k : ts.length % 2 = 0) (r : rightB (pairL ts) = false) : parseL s = (5, []) := by
  unfold parseL; rw [h]; simp only; rw [if_neg (by simp), if_neg (by omega), if_pos r]
theorem parse_ok {s : List UInt8} {ts : List (List UInt8)} (h : allL s = (0, ts)) (k : ts.length % 2 = 0) (r : rightB (pairL ts) = true) : parseL s = (0, pairL ts) := by
  unfold parseL; rw [h]; simp only; rw [if_neg (by simp), if_neg (by omega), if_neg (by simp [r])]
theorem parse_ways (s : List UInt8) : ((allL s).1 ≠ 0 ∧ parseL s = ((allL s).1, [])) ∨ ∃ ts, allL s = (0, ts) ∧ ((ts.length % 2 ≠ 0 ∧ parseL s = (5, [])) ∨ (ts.length % 2 = 0 ∧ rightB (pairL ts) = false ∧ parseL s = (5, [])) ∨ (ts.length % 2 = 0 ∧ rightB (pairL ts) = true ∧ parseL s = (0, pairL ts))) := by
  by_cases h : (allL s).1 = 0
  · right
    have e : allL s = (0, (allL s).2) := by rw [← h]
    refine ⟨_, e, ?_⟩
    by_cases k : (allL s).2.length % 2 = 0
    · cases r : rightB (pairL (allL s).2)
      · exact .inr (.inl ⟨k, rfl, parse_wrong e k r⟩)
      · exact .inr (.inr ⟨k, rfl, parse_ok e k r⟩)
    · exact .inl ⟨k, parse_odd e k⟩
  · exact .inl ⟨h, parse_bad h⟩
/-- A map is parsed as it was. -/
theorem parse_files {fs : List Fl} (h : Good fs) : parseL (filesL fs) = (0, fs) := by
  have ha : allL (filesL fs) = (0, flat2 fs) := by
    rw [filesL_cat]
    refine all_cat _ fun t ht => ?_
    obtain ⟨f, hf, q⟩ := flat_mem ht
    obtain ⟨h1, h2⟩ := wrE_ok (h.2.2 f hf)
    unfold nmOk at h1
    rw [Bool.and_eq_true] at h1
    have := of_decide_eq_true h1.1
    rcases q with rfl | rfl <;> omega
  have := parse_ok ha (by rw [flat_len]; omega) (by rw [pair_flat]; exact rightB_good h)
  rwa [pair_flat] at this
/-- Bytes are of one map, or of none. -/
theorem files_parse {s : List UInt8} {fs : List Fl} (h : parseL s = (0, fs)) : filesL fs = s ∧ fs.length ≤ 32 := by
  rcases parse_ways s with ⟨k, e⟩ | ⟨ts, ha, ⟨_, e⟩ | ⟨_, _, e⟩ | ⟨k, r, e⟩⟩
  · rw [e] at h; simp only [Prod.mk.injEq] at h; exact absurd h.1 k
  · rw [e] at h; simp at h
  · rw [e] at h; simp at h
  · rw [e] at h
    simp only [Prod.mk.injEq, true_and] at h
    subst h
    refine ⟨?_, ?_⟩
    · rw [filesL_cat, flat_pair (ts.length / 2) ts (by omega), ← all_is s.length s ts (Nat.le_refl _) ha]
    · unfold rightB at r
      rw [Bool.and_eq_true] at r
      exact of_decide_eq_true r.1
end Go.Proofs.YtmggpockikcjjaaGreatDoor

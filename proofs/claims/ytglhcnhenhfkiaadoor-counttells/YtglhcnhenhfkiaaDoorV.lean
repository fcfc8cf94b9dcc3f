/-
  Plain facts on texts and values of counters: each counter is that of its text, in each style.
-/
import Derived.Test.YtglhcnhenhfkiaaDoorT6
import Derived.Test.YtglhcnhenhfkiaaDoorV0
namespace Go.Proofs.YtglhcnhenhfkiaaDoor

def plOk (f g : Int) (c : UInt8) : Prop := 0 ≤ (c.toNat : Int) - f ∧ (c.toNat : Int) - f < g
theorem plGo_append (f g l : Int) : ∀ (a b : List UInt8) (n : Int), (∀ c ∈ a, plOk f g c) → plGo f g l n (a ++ b) = plGo f g l (plGo f g l n a) b
  | [], b, n, _ => rfl
  | c :: a, b, n, h => by
    have hc := h c (by simp)
    unfold plOk at hc
    simp only [List.cons_append, plGo]
    rw [if_neg (by omega), if_neg (by omega)]
    exact plGo_append f g l a b _ (fun c hc => h c (by simp [hc]))
theorem plGo_one (f g l n : Int) (c : UInt8) (h : plOk f g c) : plGo f g l n [c] = cCut (n * g + ((c.toNat : Int) - f) + l) := by
  unfold plOk at h
  rw [plGo, if_neg (by omega), plGo]

theorem byte_toNat (k : Nat) (h : k < 256) : (UInt8.ofNat k).toNat = k := by
  simp [UInt8.toNat_ofNat', Nat.mod_eq_of_lt h]
theorem dec_small (u : Nat) (h : u < 10) : Lib.decDigits u = [UInt8.ofNat (48 + u)] := by rw [Lib.decDigits, dif_pos h]
theorem dec_big (u : Nat) (h : ¬ u < 10) : Lib.decDigits u = Lib.decDigits (u / 10) ++ [UInt8.ofNat (48 + u % 10)] := by rw [Lib.decDigits, dif_neg h]
/-- Every sign of a decimal numeral is a digit. -/
theorem dec_digits (u : Nat) : ∀ c ∈ Lib.decDigits u, 48 ≤ c.toNat ∧ c.toNat ≤ 57 := by
  induction u using Nat.strongRecOn with
  | _ u ih =>
    by_cases h : u < 10
    · rw [dec_small u h]
      intro c hc
      simp only [List.mem_singleton] at hc
      subst hc
      rw [byte_toNat _ (by omega)]; omega
    · rw [dec_big u h]
      intro c hc
      rcases List.mem_append.1 hc with hc | hc
      · exact ih (u / 10) (by omega) c hc
      · simp only [List.mem_singleton] at hc
        subst hc
        rw [byte_toNat _ (by omega)]; omega
theorem dec_ne (u : Nat) : Lib.decDigits u ≠ [] := by
  by_cases h : u < 10
  · rw [dec_small u h]; simp
  · rw [dec_big u h]; simp
theorem dec_value (u : Nat) (hu : u ≤ 999999) : plGo 48 10 0 0 (Lib.decDigits u) = u := by
  induction u using Nat.strongRecOn with
  | _ u ih =>
    by_cases h : u < 10
    · rw [dec_small u h, plGo_one _ _ _ _ _ (by unfold plOk; rw [byte_toNat _ (by omega)]; omega), byte_toNat _ (by omega), cCut_id _ (by omega) (by omega)]; omega
    · rw [dec_big u h, plGo_append _ _ _ _ _ _ (fun c hc => by have := dec_digits (u / 10) c hc; unfold plOk; omega), ih (u / 10) (by omega) (by omega),
        plGo_one _ _ _ _ _ (by unfold plOk; rw [byte_toNat _ (by omega)]; omega), byte_toNat _ (by omega), cCut_id _ (by omega) (by omega)]; omega
theorem let_letters (u : Nat) : ∀ c ∈ letL u, 97 ≤ c.toNat ∧ c.toNat ≤ 122 := by
  induction u using Nat.strongRecOn with
  | _ u ih =>
    by_cases h : u = 0
    · subst h; simp [letL_zero]
    · rw [letL_pos u (by omega)]
      intro c hc
      rcases List.mem_append.1 hc with hc | hc
      · exact ih ((u - 1) / 26) (by omega) c hc
      · simp only [List.mem_singleton] at hc
        subst hc
        rw [byte_toNat _ (by omega)]; omega
theorem let_value (u : Nat) (hu : u ≤ 999999) : plGo 97 26 1 0 (letL u) = u := by
  induction u using Nat.strongRecOn with
  | _ u ih =>
    by_cases h : u = 0
    · subst h; rw [letL_zero, plGo]; rfl
    · rw [letL_pos u (by omega), plGo_append _ _ _ _ _ _ (fun c hc => by have := let_letters ((u - 1) / 26) c hc; unfold plOk; omega), ih ((u - 1) / 26) (by omega) (by omega),
        plGo_one _ _ _ _ _ (by unfold plOk; rw [byte_toNat _ (by omega)]; omega), byte_toNat _ (by omega), cCut_id _ (by omega) (by omega)]; omega
/-- A text that begins with a digit is none of letters. -/
theorem let_none (u : Nat) : plGo 97 26 1 0 (Lib.decDigits u) = 0 := by
  cases h : Lib.decDigits u with
  | nil => exact absurd h (dec_ne u)
  | cons c r =>
    have hc := dec_digits u c (by rw [h]; simp)
    rw [plGo, if_pos (by omega)]
theorem num_no (k : Nat) (hk : k < 13) (c : UInt8) (r : List UInt8) (hc : c.toNat ≤ 57) : (numAt k).2.isPrefixOf (c :: r) = false := by
  have key : ∀ k : Fin 13, ∃ d t, (numAt k).2 = d :: t ∧ 57 < d.toNat := by
    have h2 : ∀ k : Fin 13, (match (numAt k).2 with | [] => false | d :: _ => decide (57 < d.toNat)) = true := by decide
    intro k
    have := h2 k
    cases h : (numAt k).2 with
    | nil => simp [h] at this
    | cons d t => exact ⟨d, t, rfl, by simpa [h] using this⟩
  obtain ⟨d, t, he, hd⟩ := key ⟨k, hk⟩
  rw [he]
  simp only [List.isPrefixOf, Bool.and_eq_false_iff]
  left
  rw [beq_eq_false_iff_ne]
  intro h
  subst h
  omega
theorem rv_none (c : UInt8) (r : List UInt8) (hc : c.toNat ≤ 57) : rvL (c :: r) = 0 := by
  have : ∀ k, k ≤ 13 → rvP (c :: r) k = (0, c :: r) := by
    intro k hk
    induction k with
    | zero => rfl
    | succ k ih =>
      rw [rvP_succ _ k (by omega), ih (by omega)]
      unfold rvStep
      simp only [List.length_cons]
      rw [rvW, if_neg (by rw [num_no k (by omega) c r hc]; simp)]
  unfold rvL
  rw [this 13 (by omega)]
theorem rv_dec (u : Nat) : rvL (Lib.decDigits u) = 0 := by
  cases h : Lib.decDigits u with
  | nil => exact absurd h (dec_ne u)
  | cons c r => exact rv_none c r (dec_digits u c (by rw [h]; simp)).2
theorem lower_dec (u : Nat) : Lib.toLowerD (Lib.decDigits u) = Lib.decDigits u := by
  rw [Lib.toLowerD_ascii _ (fun b hb => by have := dec_digits u b hb; omega)]
  unfold Lib.toLowerA
  conv => rhs; rw [← List.map_id (Lib.decDigits u)]
  apply List.map_congr_left
  intro b hb
  have h := dec_digits u b hb
  apply Lib.lowerB_of_not
  have : ∀ x : Fin 256, 48 ≤ x.val → x.val ≤ 57 → Lib.isUpperB (UInt8.ofNat x.val) = false := by decide +kernel
  have h3 := this ⟨b.toNat, by omega⟩ h.1 h.2
  simpa using h3
theorem rom_value (m : Nat) (h1 : 1 ≤ m) (h2 : m ≤ 3999) : rvL (romL m) = m := by
  have := List.all_eq_true.1 rom_all m (List.mem_range.2 (by omega))
  simp only [Bool.or_eq_true, beq_iff_eq] at this
  omega
/-- What a guess at a decimal numeral is, in every style. -/
theorem guess_dec (m : Nat) (style : Int) (h : m ≤ 999999) : cGuess (Lib.decDigits m) style = m := by
  unfold cGuess
  rw [lower_dec, rv_dec, let_none, dec_value m h]
  simp
theorem rom_letters (n k : Nat) (h : k ≤ 13) : ∀ b ∈ (romP n k).2, 97 ≤ b.toNat ∧ b.toNat ≤ 122 := by
  have key : ∀ k : Fin 13, ∀ b ∈ (numAt k).2, 97 ≤ b.toNat ∧ b.toNat ≤ 122 := by decide
  induction k with
  | zero => simp [romP]
  | succ k ih =>
    rw [romP_succ n k (by omega)]
    intro b hb
    simp only [romStep, List.mem_append, List.mem_flatten, List.mem_replicate] at hb
    rcases hb with hb | ⟨l, ⟨_, rfl⟩, hb⟩
    · exact ih (by omega) b hb
    · exact key ⟨k, by omega⟩ b hb
theorem up_low : ∀ x : Fin 256, 97 ≤ x.val → x.val ≤ 122 → (Lib.upperB (UInt8.ofNat x.val)).toNat = x.val - 32 ∧ Lib.lowerB (Lib.upperB (UInt8.ofNat x.val)) = UInt8.ofNat x.val := by decide +kernel
theorem up_byte (b : UInt8) (h1 : 97 ≤ b.toNat) (h2 : b.toNat ≤ 122) : (Lib.upperB b).toNat = b.toNat - 32 ∧ Lib.lowerB (Lib.upperB b) = b := by
  have := up_low ⟨b.toNat, by omega⟩ h1 h2
  simpa using this
theorem lower_rom (n : Nat) : Lib.toLowerD (romC true n) = romL n := by
  have hl := rom_letters n 13 (by omega)
  unfold romC Lib.toUpperA
  rw [if_pos rfl, Lib.toLowerD_ascii _ (fun b hb => by
    obtain ⟨c, hc, rfl⟩ := List.mem_map.1 hb
    have h := hl c hc
    have := (up_byte c h.1 h.2).1
    omega)]
  unfold Lib.toLowerA
  rw [List.map_map]
  conv => rhs; rw [← List.map_id (romL n)]
  apply List.map_congr_left
  intro b hb
  have h := hl b hb
  exact (up_byte b h.1 h.2).2
/-- EACH COUNTER IS THE GUESS AT ITS TEXT, in every style. -/
theorem guess_text (m : Nat) (style : Int) (h : m ≤ 999999) : cGuess (cTextN m style) style = m := by
  unfold cTextN
  by_cases h2 : style = 2
  · subst h2
    by_cases hr : 1 ≤ m ∧ m ≤ 3999
    · rw [if_pos ⟨rfl, hr⟩, cGuess, if_pos rfl, lower_rom, rom_value m hr.1 hr.2, if_pos (by omega)]
    · rw [if_neg (by omega), if_neg (by omega), if_neg (by omega)]; exact guess_dec m 2 h
  · rw [if_neg (by omega)]
    by_cases h1 : style = 1
    · subst h1
      by_cases hr : 1 ≤ m ∧ m ≤ 3999
      · rw [if_pos ⟨rfl, hr⟩, cGuess, if_neg h2, if_pos rfl, show romC false m = romL m from rfl, rom_value m hr.1 hr.2, if_pos (by omega)]
      · rw [if_neg (by omega), if_neg (by omega)]; exact guess_dec m 1 h
    · rw [if_neg (by omega)]
      by_cases h3 : style = 3
      · subst h3
        by_cases hr : 1 ≤ m
        · rw [if_pos ⟨rfl, hr⟩, cGuess, if_neg h2, if_neg h1, if_pos rfl, let_value m h, if_pos (by omega)]
        · rw [if_neg (by omega)]; exact guess_dec m 3 h
      · rw [if_neg (by omega)]; exact guess_dec m style h
theorem cText_nat (m : Nat) (style : Int) (h : m ≤ 999999) : cText m style = cTextN m style := by
  unfold cText
  rw [cCut_id _ (by omega) (by omega)]; rfl
theorem ok_text (m : Nat) (style : Int) (h : m ≤ 999999) : cOk (cTextN m style) style = true := by
  unfold cOk
  rw [guess_text m style h, cText_nat m style h, beq_iff_eq]
theorem text_inj (a b : Nat) (style : Int) (ha : a ≤ 999999) (hb : b ≤ 999999) (h : cTextN a style = cTextN b style) : a = b := by
  have h1 := guess_text a style ha
  rw [h, guess_text b style hb] at h1
  omega
def letB : Nat → Nat
  | 0 => 0
  | k + 1 => 26 * letB k + 26
theorem let_len : ∀ (k n : Nat), n ≤ letB k → (letL n).length ≤ k
  | 0, n, h => by
    obtain rfl : n = 0 := by simpa [letB] using h
    simp [letL_zero]
  | k + 1, n, h => by
    by_cases h0 : n = 0
    · subst h0; simp [letL_zero]
    · rw [letL_pos n (by omega)]
      have := let_len k ((n - 1) / 26) (by unfold letB at h; omega)
      simp only [List.length_append, List.length_singleton]
      omega
theorem rom_len (m : Nat) (h : m ≤ 3999) : (romL m).length ≤ 15 := by
  have := List.all_eq_true.1 rom_len_all m (List.mem_range.2 (by omega))
  simpa using this
theorem text_len (m : Nat) (style : Int) (h : m ≤ 999999) : (cTextN m style).length ≤ 15 := by
  have h1 : (Lib.decDigits m).length ≤ 6 := by
    rw [Lib.decDigits_length]
    have : Lib.nDigits m ≤ 6 := by
      by_cases h10 : m < 10
      · rw [Lib.nDigits_small h10]; omega
      by_cases h2 : m < 100
      · rw [Lib.nDigits_unique 1 m (by omega) (by omega)]; omega
      by_cases h3 : m < 1000
      · rw [Lib.nDigits_unique 2 m (by omega) (by omega)]; omega
      by_cases h4 : m < 10000
      · rw [Lib.nDigits_unique 3 m (by omega) (by omega)]; omega
      by_cases h5 : m < 100000
      · rw [Lib.nDigits_unique 4 m (by omega) (by omega)]; omega
      · rw [Lib.nDigits_unique 5 m (by omega) (by omega)]; omega
    omega
  unfold cTextN
  split
  · rename_i hr
    have := rom_len m hr.2.2
    simpa [romC, Lib.toUpperA] using this
  split
  · rename_i hr
    exact rom_len m hr.2.2
  split
  · have := let_len 5 m (by have : letB 5 = 12356630 := by decide
                            omega)
    omega
  · omega
/-- What the digits of m are in a style: m itself, just where they are its text. -/
theorem dig_ok (m : Nat) (style : Int) (h : m ≤ 999999) : cOk (Lib.decDigits m) style = (cTextN m style == Lib.decDigits m) := by
  unfold cOk
  rw [guess_dec m style h, cText_nat m style h]
theorem dig_rom (m : Nat) (h1 : 1 ≤ m) (h2 : m ≤ 3999) : cTextN m 1 ≠ Lib.decDigits m := by
  intro h
  have e : cTextN m 1 = romL m := by unfold cTextN; rw [if_neg (by omega), if_pos ⟨rfl, h1, h2⟩]; rfl
  rw [e] at h
  have := rom_value m h1 h2
  rw [h, rv_dec] at this
  omega
theorem dig_let (m : Nat) (h1 : 1 ≤ m) (h2 : m ≤ 999999) : cTextN m 3 ≠ Lib.decDigits m := by
  intro h
  have e : cTextN m 3 = letL m := by unfold cTextN; rw [if_neg (by omega), if_neg (by omega), if_pos ⟨rfl, h1⟩]
  rw [e] at h
  have := let_value m h2
  rw [h, let_none] at this
  omega
theorem text_dec (m : Nat) (style : Int) (h : m = 0 ∨ (3999 < m ∧ style ≠ 3) ∨ style = 0) : cTextN m style = Lib.decDigits m := by
  unfold cTextN
  rw [if_neg (by omega), if_neg (by omega), if_neg (by omega)]
end Go.Proofs.YtglhcnhenhfkiaaDoor

/-
  Plain functions on numbers and bytes: what the texts and values of counters are. No program is named here.
-/
namespace Go.Proofs.YtglhcnhenhfkiaaDoor

/-- The numerals' table: a value and its letters. -/
def numT : List (Nat × List UInt8) := [(1000, [109]), (900, [99, 109]), (500, [100]), (400, [99, 100]), (100, [99]), (90, [120, 99]), (50, [108]), (40, [120, 108]), (10, [120]), (9, [105, 120]), (5, [118]), (4, [105, 118]), (1, [105])]
def numAt (k : Nat) : Nat × List UInt8 := numT.getD k (1, [105])
def romStep (p : Nat × List UInt8) (x : Nat × List UInt8) : Nat × List UInt8 := (p.1 % x.1, p.2 ++ (List.replicate (p.1 / x.1) x.2).flatten)
/-- What is left of a number, and its letters, behind k rows of the table. -/
def romP (n k : Nat) : Nat × List UInt8 := (numT.take k).foldl romStep (n, [])
def romL (n : Nat) : List UInt8 := (romP n 13).2
theorem romP_succ (n k : Nat) (h : k < 13) : romP n (k + 1) = romStep (romP n k) (numAt k) := by
  unfold romP numAt
  have hl : k < numT.length := h
  rw [List.take_succ_eq_append_getElem hl, List.foldl_append]
  simp [List.getD, List.getElem?_eq_getElem hl]
theorem numAt_pos (k : Nat) (h : k < 13) : 1 ≤ (numAt k).1 ∧ (numAt k).1 ≤ 1000 := by
  have : ∀ k : Fin 13, 1 ≤ (numAt k).1 ∧ (numAt k).1 ≤ 1000 := by decide
  exact this ⟨k, h⟩
theorem romP_le (n k : Nat) (h : k ≤ 13) : (romP n k).1 ≤ n := by
  induction k with
  | zero => simp [romP]
  | succ k ih =>
    rw [romP_succ n k (by omega)]
    have := ih (by omega)
    have h2 : (romStep (romP n k) (numAt k)).1 ≤ (romP n k).1 := Nat.mod_le _ _
    omega
/-- Within one row of the table: m is left, s is written. -/
def RI (p x : Nat × List UInt8) (m : Nat) (s : List UInt8) : Prop := ∃ j, m + j * x.1 = p.1 ∧ s = p.2 ++ (List.replicate j x.2).flatten
theorem RI.start (p x : Nat × List UInt8) : RI p x p.1 p.2 := ⟨0, by simp, by simp⟩
theorem RI.step {p x : Nat × List UInt8} {m : Nat} {s : List UInt8} (h : RI p x m s) (hv : x.1 ≤ m) : RI p x (m - x.1) (s ++ x.2) := by
  obtain ⟨j, h1, rfl⟩ := h
  refine ⟨j + 1, ?_, ?_⟩
  · rw [Nat.add_mul, Nat.one_mul]; omega
  · rw [List.replicate_succ', List.flatten_append, List.append_assoc]; simp
theorem RI.le {p x : Nat × List UInt8} {m : Nat} {s : List UInt8} (h : RI p x m s) : m ≤ p.1 := by
  obtain ⟨j, h1, _⟩ := h; omega
theorem RI.done {p x : Nat × List UInt8} {m : Nat} {s : List UInt8} (h : RI p x m s) (hv : m < x.1) : romStep p x = (m, s) := by
  obtain ⟨j, h1, rfl⟩ := h
  have hd : p.1 / x.1 = j := by
    rw [← h1, Nat.add_mul_div_right _ _ (by omega), Nat.div_eq_of_lt hv]; omega
  have hm : p.1 % x.1 = m := by
    rw [← h1, Nat.add_mul_mod_self_right, Nat.mod_eq_of_lt hv]
  simp only [romStep, hd, hm]
theorem RI.len {p x : Nat × List UInt8} {m : Nat} {s : List UInt8} (h : RI p x m s) (hv : 1 ≤ x.1) (hx : x.2.length ≤ 2) : s.length + 2 * m ≤ p.2.length + 2 * p.1 := by
  obtain ⟨j, h1, rfl⟩ := h
  simp only [List.length_append, List.length_flatten, List.map_replicate, List.sum_replicate_nat]
  have h2 : j * x.2.length ≤ j * 2 := Nat.mul_le_mul_left _ hx
  have h3 : j * 1 ≤ j * x.1 := Nat.mul_le_mul_left _ hv
  omega
theorem numAt_len (k : Nat) (h : k < 13) : 1 ≤ (numAt k).2.length ∧ (numAt k).2.length ≤ 2 := by
  have : ∀ k : Fin 13, 1 ≤ (numAt k).2.length ∧ (numAt k).2.length ≤ 2 := by decide
  exact this ⟨k, h⟩
theorem romStep_RI (p x : Nat × List UInt8) (_hv : 1 ≤ x.1) : RI p x (romStep p x).1 (romStep p x).2 :=
  ⟨p.1 / x.1, by simp only [romStep]; rw [Nat.mul_comm]; exact Nat.mod_add_div _ _, rfl⟩
theorem romP_len (n k : Nat) (h : k ≤ 13) : (romP n k).2.length + 2 * (romP n k).1 ≤ 2 * n := by
  induction k with
  | zero => simp [romP]
  | succ k ih =>
    have := ih (by omega)
    have h2 := (romStep_RI (romP n k) (numAt k) (numAt_pos k (by omega)).1).len (numAt_pos k (by omega)).1 (numAt_len k (by omega)).2
    rw [romP_succ n k (by omega)]
    omega
theorem numAt_ascii (k : Nat) (h : k < 13) : ∀ b ∈ (numAt k).2, b.toNat < 128 := by
  have : ∀ k : Fin 13, ∀ b ∈ (numAt k).2, b.toNat < 128 := by decide
  exact this ⟨k, h⟩
theorem romP_ascii (n k : Nat) (h : k ≤ 13) : ∀ b ∈ (romP n k).2, b.toNat < 128 := by
  induction k with
  | zero => simp [romP]
  | succ k ih =>
    rw [romP_succ n k (by omega)]
    intro b hb
    simp only [romStep, List.mem_append, List.mem_flatten, List.mem_replicate] at hb
    rcases hb with hb | ⟨l, ⟨_, rfl⟩, hb⟩
    · exact ih (by omega) b hb
    · exact numAt_ascii k (by omega) b hb
end Go.Proofs.YtglhcnhenhfkiaaDoor

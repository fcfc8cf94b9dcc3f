/-
  Plain facts on numerals: a numeral is that of its thousands, hundreds, tens and ones, one behind the other.
-/
import Derived.Test.YtglhcnhenhfkiaaDoorM
namespace Go.Proofs.YtglhcnhenhfkiaaDoor

theorem fold_pre : ∀ (rows : List (Nat × List UInt8)) (n : Nat) (t : List UInt8), rows.foldl romStep (n, t) = ((rows.foldl romStep (n, [])).1, t ++ (rows.foldl romStep (n, [])).2)
  | [], n, t => by simp
  | x :: rows, n, t => by
    simp only [List.foldl_cons, romStep, List.nil_append]
    rw [fold_pre rows (n % x.1) (t ++ _), fold_pre rows (n % x.1) ((List.replicate (n / x.1) x.2).flatten)]
    simp
def rowsH : List (Nat × List UInt8) := [(900, [99, 109]), (500, [100]), (400, [99, 100]), (100, [99])]
def rowsT : List (Nat × List UInt8) := [(90, [120, 99]), (50, [108]), (40, [120, 108]), (10, [120])]
def rowsO : List (Nat × List UInt8) := [(9, [105, 120]), (5, [118]), (4, [105, 118]), (1, [105])]
def hunP (r : Nat) : Nat × List UInt8 := rowsH.foldl romStep (r, [])
def tenP (r : Nat) : Nat × List UInt8 := rowsT.foldl romStep (r, [])
def oneP (r : Nat) : Nat × List UInt8 := rowsO.foldl romStep (r, [])
theorem hun_all : ((List.range 1000).all fun r => (hunP r).1 == r % 100 && (hunP r).2 == (hunP (r / 100 * 100)).2) = true := by decide +kernel
theorem ten_all : ((List.range 100).all fun r => (tenP r).1 == r % 10 && (tenP r).2 == (tenP (r / 10 * 10)).2) = true := by decide +kernel
theorem hun_ok (r : Nat) (h : r < 1000) : (hunP r).1 = r % 100 ∧ (hunP r).2 = (hunP (r / 100 * 100)).2 := by
  have := List.all_eq_true.1 hun_all r (List.mem_range.2 h)
  simpa using this
theorem ten_ok (r : Nat) (h : r < 100) : (tenP r).1 = r % 10 ∧ (tenP r).2 = (tenP (r / 10 * 10)).2 := by
  have := List.all_eq_true.1 ten_all r (List.mem_range.2 h)
  simpa using this
theorem hun_zero : (hunP 0).2 = [] := by decide
theorem ten_zero : (tenP 0).2 = [] := by decide
theorem one_zero : (oneP 0).2 = [] := by decide
def thoL (k : Nat) : List UInt8 := (List.replicate k [109]).flatten
theorem rom_split (n : Nat) : romL n = thoL (n / 1000) ++ ((hunP (n % 1000)).2 ++ ((tenP (n % 1000 % 100)).2 ++ (oneP (n % 1000 % 100 % 10)).2)) := by
  have e : romP n 13 = rowsO.foldl romStep (rowsT.foldl romStep (rowsH.foldl romStep (n % 1000, thoL (n / 1000)))) := rfl
  unfold romL
  rw [e, fold_pre rowsH]
  have h1 := (hun_ok (n % 1000) (by omega)).1
  unfold hunP at h1
  rw [h1, fold_pre rowsT]
  have h2 := (ten_ok (n % 1000 % 100) (by omega)).1
  unfold tenP at h2
  rw [h2, fold_pre rowsO]
  simp only [hunP, tenP, oneP, List.append_assoc]
/-- The four parts of a number. -/
def partV (n : Nat) : Nat → Nat
  | 0 => n / 1000 * 1000
  | 1 => n / 100 % 10 * 100
  | 2 => n / 10 % 10 * 10
  | _ => n % 10
theorem part_le (n i : Nat) (h : n ≤ 3999) : partV n i ≤ 3999 := by
  match i with
  | 0 => simp only [partV]; omega
  | 1 => simp only [partV]; omega
  | 2 => simp only [partV]; omega
  | i + 3 => simp only [partV]; omega
theorem rom_part0 (n : Nat) : romL (partV n 0) = thoL (n / 1000) := by
  rw [rom_split]
  simp only [partV]
  rw [show n / 1000 * 1000 / 1000 = n / 1000 by omega, show n / 1000 * 1000 % 1000 = 0 by omega, hun_zero]
  simp [ten_zero, one_zero]
theorem rom_part1 (n : Nat) : romL (partV n 1) = (hunP (n % 1000)).2 := by
  rw [rom_split]
  simp only [partV]
  rw [show n / 100 % 10 * 100 / 1000 = 0 by omega, show n / 100 % 10 * 100 % 1000 = n % 1000 / 100 * 100 by omega, ← (hun_ok (n % 1000) (by omega)).2, show n % 1000 / 100 * 100 % 100 = 0 by omega]
  simp [ten_zero, one_zero, thoL]
theorem rom_part2 (n : Nat) : romL (partV n 2) = (tenP (n % 1000 % 100)).2 := by
  rw [rom_split]
  simp only [partV]
  rw [show n / 10 % 10 * 10 / 1000 = 0 by omega, show n / 10 % 10 * 10 % 1000 = n / 10 % 10 * 10 by omega, (hun_ok (n / 10 % 10 * 10) (by omega)).2, show n / 10 % 10 * 10 / 100 * 100 = 0 by omega, hun_zero,
    show n / 10 % 10 * 10 % 100 = n % 1000 % 100 / 10 * 10 by omega, ← (ten_ok (n % 1000 % 100) (by omega)).2, show n % 1000 % 100 / 10 * 10 % 10 = 0 by omega]
  simp [one_zero, thoL]
theorem rom_part3 (n : Nat) : romL (partV n 3) = (oneP (n % 1000 % 100 % 10)).2 := by
  rw [rom_split]
  simp only [partV]
  rw [show n % 10 / 1000 = 0 by omega, show n % 10 % 1000 = n % 10 by omega, (hun_ok (n % 10) (by omega)).2, show n % 10 / 100 * 100 = 0 by omega, hun_zero, show n % 10 % 100 = n % 10 by omega, (ten_ok (n % 10) (by omega)).2,
    show n % 10 / 10 * 10 = 0 by omega, ten_zero, show n % 10 % 10 = n % 1000 % 100 % 10 by omega]
  simp [thoL]
/-- The numeral's first i parts. -/
def romF (n : Nat) : Nat → List UInt8
  | 0 => []
  | i + 1 => romF n i ++ romL (partV n i)
theorem rom_parts (n : Nat) : romF n 4 = romL n := by
  simp only [romF]
  rw [rom_part0, rom_part1, rom_part2, rom_part3, rom_split n]
  simp
theorem rom_zero : romL 0 = [] := by decide
end Go.Proofs.YtglhcnhenhfkiaaDoor

/-
  Contract of count.lettersText over the translation: for every number up to 999999 it returns the plain function's letters; the world stays as it was.
-/
import Derived.Test.YtglhcnhenhfkiaaDoorA
import Derived.Test.YtglhcnhenhfkiaaDoorM
import Derived.Handy
import Derived.Lib.Hide
namespace Go.Proofs.YtglhcnhenhfkiaaDoor
open Go.RowKit
def letL (n : Nat) : List UInt8 := if _h : n = 0 then [] else letL ((n - 1) / 26) ++ [UInt8.ofNat (97 + (n - 1) % 26)]
  termination_by n
  decreasing_by omega
theorem letL_zero : letL 0 = [] := by unfold letL; simp
theorem letL_pos (n : Nat) (h : 1 ≤ n) : letL n = letL ((n - 1) / 26) ++ [UInt8.ofNat (97 + (n - 1) % 26)] := by
  rw [letL]; simp [show ¬ n = 0 by omega]
theorem letL_len (n : Nat) : (letL n).length ≤ n := by
  induction n using Nat.strongRecOn with
  | ind n ih =>
    by_cases h : n = 0
    · subst h; simp [letL_zero]
    · rw [letL_pos n (by omega)]
      have := ih ((n - 1) / 26) (by omega)
      simp; omega
/-- What is still to be written, and what is. -/
def LR (n m : Nat) (l : List UInt8) : Prop := letL n = letL m ++ l
theorem LR.start (n : Nat) : LR n n [] := by simp [LR]
theorem LR.step {n m : Nat} {l : List UInt8} (h : LR n m l) (hm : 1 ≤ m) : LR n ((m - 1) / 26) (UInt8.ofNat (97 + (m - 1) % 26) :: l) := by
  unfold LR at *; rw [h, letL_pos m hm]; simp
theorem LR.done {n : Nat} {l : List UInt8} (h : LR n 0 l) : letL n = l := by unfold LR at h; rw [h, letL_zero]; simp
theorem LR.len {n m : Nat} {l : List UInt8} (h : LR n m l) : l.length ≤ n := by
  have := congrArg List.length h; have := letL_len n; simp at *; omega

def abc : ByteArray := ⟨#[97, 98, 99, 100, 101, 102, 103, 104, 105, 106, 107, 108, 109, 110, 111, 112, 113, 114, 115, 116, 117, 118, 119, 120, 121, 122]⟩

theorem abc_at (i : Nat) (h : i < 26) : abc.extract i (i + 1) = ⟨[UInt8.ofNat (97 + i)].toArray⟩ := by
  have : ∀ i : Fin 26, abc.extract i (i + 1) = ⟨[UInt8.ofNat (97 + i)].toArray⟩ := by decide +kernel
  exact this ⟨i, h⟩
theorem abc_app (j : Nat) (l : List UInt8) : Value.string (abc.extract ((j - 1) % 26) ((j - 1) % 26 + 1) ++ { data := l.toArray }) = Value.string { data := (UInt8.ofNat (97 + (j - 1) % 26) :: l).toArray } := by
  rw [abc_at _ (Nat.mod_lt _ (by omega))]
  congr 1
theorem int_div26 (j : Nat) (h : 1 ≤ j) : Value.int .i64 (((j : Int) - 1) / 26) = .int .i64 (((j - 1) / 26 : Nat) : Int) := by
  congr 1; omega
theorem ret_str {a b : List UInt8} (h : a = b) : Ending.returned (.string ⟨a.toArray⟩) = .returned (.string ⟨b.toArray⟩) := by rw [h]

set_option maxHeartbeats 400000 in
theorem lettersText_any (n : Nat) (w : World) (hn : n ≤ 999999) :
    Calls Tryd.prog 19 #[.int .i64 n] w fun e w' => e = .returned (.string ⟨(letL n).toArray⟩) ∧ w = w' := by
  go_enter Tryd.func19, Tryd.ntmps19
  go_wp2
  go_loop [0, 3] (fun m s => ∃ (j : Nat) (l : List UInt8), LR n j l ∧ j ≤ n ∧ m = .int .i64 j ∧ s = .string ⟨l.toArray⟩) (fun m _ => (intOf m).toNat)
  case atStart => exact ⟨n, [], LR.start n, Nat.le_refl _, rfl, rfl⟩
  case round =>
    obtain ⟨j, l, hr, hj, rfl, rfl⟩ := hrel
    have hl := hr.len
    by_cases hpos : 1 ≤ j
    · have h0 : (0 : Int) < j := by omega
      go_wp2
      go_round
      case rel => exact ⟨(j - 1) / 26, _, hr.step hpos, by omega, int_div26 j hpos, abc_app j l⟩
      case measure => simp [intOf]; omega
    · obtain rfl : j = 0 := by omega
      go_wp2
      go_ret
      exact ⟨ret_str hr.done.symm, rfl⟩
end Go.Proofs.YtglhcnhenhfkiaaDoor

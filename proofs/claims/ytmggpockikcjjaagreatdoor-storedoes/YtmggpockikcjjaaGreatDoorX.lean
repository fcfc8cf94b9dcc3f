/-
  Contracts of files.nameByte and files.Name: plain functions of what they read.
-/
import Derived.Test.YtmggpockikcjjaaGreatDoorA
import Derived.BigQuiet
import Derived.Deep.QuietTactic
namespace Go.Proofs.YtmggpockikcjjaaGreatDoor
open Go.RowKit

theorem ret_two {a a' b b' : Value} (h : a = a') (k : b = b') : Ending.returned (.tuple #[a, b]) = .returned (.tuple #[a', b']) := by rw [h, k]
theorem ret_bool {a b : Bool} (h : a = b) : Ending.returned (.bool a) = .returned (.bool b) := by rw [h]
theorem ret_int {k : IntKind} {a b : Int} (h : a = b) : Ending.returned (.int k a) = .returned (.int k b) := by rw [h]
theorem str_eq {a b : List UInt8} (h : a = b) : Value.string ⟨a.toArray⟩ = .string ⟨b.toArray⟩ := by rw [h]
theorem at_take {fs : List Fl} {k : Nat} {f : Fl} (h : fs[k]? = some f) : fs.take (k + 1) = fs.take k ++ [f] := by
  rw [List.take_add_one, h]; rfl
def nmI (x : Int) : Bool := decide (97 ≤ x ∧ x ≤ 122 ∨ 48 ≤ x ∧ x ≤ 57 ∨ x = 45 ∨ x = 46)
theorem nmB_int (c : UInt8) : nmB c = nmI c.toNat := by
  unfold nmB nmI
  exact decide_eq_decide.2 (by omega)
theorem nm_ways (c : Int) : (97 ≤ c ∧ c ≤ 122) ∨ (122 < c) ∨ (57 < c ∧ c < 97) ∨ (48 ≤ c ∧ c ≤ 57) ∨ (c = 47) ∨ (c = 46) ∨ (c = 45) ∨ (c < 45) := by omega
set_option maxHeartbeats 1000000 in
theorem nameInt_any (x : Int) (w : World) :
    Calls Tryz.prog 65 #[.int .u8 x] w fun e w' => e = .returned (.bool (nmI x)) ∧ w = w' := by
  rcases nm_ways x with h | h | h | h | h | h | h | h
  all_goals
    try subst h
    go_enter Tryz.func65, Tryz.ntmps65
    go_wp2
    go_ret
    first | exact ⟨rfl, rfl⟩ | exact ⟨ret_bool (by rw [Bool.eq_iff_iff]; simp [nmI]; omega), rfl⟩
theorem nameByte_any (c : UInt8) (w : World) :
    Calls Tryz.prog 65 #[.int .u8 c.toNat] w fun e w' => e = .returned (.bool (nmB c)) ∧ w = w' := by
  rw [nmB_int]; exact nameInt_any _ w
theorem nmOk_stop {s : List UInt8} {k : Nat} {c : UInt8} (h : s[k]? = some c) (hb : nmB c = false) : nmOk s = false := by
  unfold nmOk
  rw [Bool.and_eq_false_iff]
  right
  rw [List.all_eq_false]
  exact ⟨c, List.mem_of_getElem? h, by simp [hb]⟩
theorem nmOk_all {s : List UInt8} (h : ∀ c ∈ s, nmB c = true) : nmOk s = decide (1 ≤ s.length ∧ s.length ≤ 24) := by
  unfold nmOk
  rw [List.all_eq_true.2 h, Bool.and_true]
theorem nmOk_len {s : List UInt8} (h : ¬ (1 ≤ s.length ∧ s.length ≤ 24)) : nmOk s = false := by
  unfold nmOk
  rw [decide_eq_false h, Bool.false_and]
theorem step_all {s : List UInt8} {k : Nat} {c : UInt8} (h : s[k]? = some c) (hb : nmB c = true) (hall : ∀ d ∈ s.take k, nmB d = true) : ∀ d ∈ s.take (k + 1), nmB d = true := fun d hd => by
  rw [List.take_add_one, h] at hd
  rcases List.mem_append.1 hd with hd | hd
  · exact hall d hd
  · simp at hd; subst hd; exact hb

set_option maxHeartbeats 1000000 in
theorem name_any (s : List UInt8) (w : World) (hs : s.length ≤ 9223372036854775807) :
    Calls Tryz.prog 55 #[.string ⟨s.toArray⟩] w fun e w' => e = .returned (.bool (nmOk s)) ∧ w = w' := by
  by_cases h0 : s.length = 0
  · have hn := Lib.hid (nmOk_len (s := s) (by omega))
    obtain rfl : s = [] := List.length_eq_zero_iff.1 h0
    clear h0
    go_enter Tryz.func55, Tryz.ntmps55
    go_wp2
    go_ret
    exact ⟨ret_bool hn.out.symm, rfl⟩
  by_cases h24 : 24 < s.length
  · have hn := Lib.hid (nmOk_len (s := s) (by omega))
    have q0 : ((s.length : Int) == 0) = false := by simpa using h0
    go_enter Tryz.func55, Tryz.ntmps55
    go_wp2
    go_ret
    exact ⟨ret_bool hn.out.symm, rfl⟩
  have q0 : ((s.length : Int) == 0) = false := by simpa using h0
  have h1 : 0 < s.length := by omega
  clear h0
  go_enter Tryz.func55, Tryz.ntmps55
  go_wp2
  go_loop [14] (fun i => ∃ k : Nat, k ≤ s.length ∧ i = .int .i64 k ∧ ∀ d ∈ s.take k, nmB d = true) (fun i => s.length - (intOf i).toNat)
  case atStart => exact ⟨0, Nat.zero_le _, rfl, by simp⟩
  case round =>
    obtain ⟨k, hk, rfl, hall⟩ := hrel
    have Hall := Lib.hid hall
    clear hall
    by_cases hlt : k < s.length
    · have hlt' : k < (ByteArray.mk s.toArray).size := hlt
      obtain ⟨c, hc⟩ : ∃ c, c = (ByteArray.mk s.toArray)[k] := ⟨_, rfl⟩
      have hget : s[k]? = some c := by rw [hc]; exact List.getElem?_eq_getElem hlt
      have Hg := Lib.hid hget
      have Hc := Lib.hid hc
      clear hget hc
      cases hb : nmB c
      · have Hb := Lib.hid hb
        clear hb
        go_wp2_with fail
        rw [← Hc.out]
        refine (nameByte_any c _).mono ?_
        rintro e w' ⟨rfl, rfl⟩
        rw [Hb.out]
        go_wp2
        go_ret
        exact ⟨ret_bool (nmOk_stop Hg.out Hb.out).symm, rfl⟩
      · have Hb := Lib.hid hb
        clear hb
        go_wp2_with fail
        rw [← Hc.out]
        refine (nameByte_any c _).mono ?_
        rintro e w' ⟨rfl, rfl⟩
        rw [Hb.out]
        go_wp2
        go_round
        case rel => exact ⟨k + 1, by omega, by go_num, step_all Hg.out Hb.out Hall.out⟩
        case measure => simp [intOf]; omega
    · go_wp2
      go_ret
      refine ⟨ret_bool ?_, rfl⟩
      rw [nmOk_all fun d hd => Hall.out d (by rw [List.take_of_length_le (by omega)]; exact hd)]
      exact (decide_eq_true (by omega)).symm
end Go.Proofs.YtmggpockikcjjaaGreatDoor

/-
  Contracts of what a text begins with, by the program and by the document's answer; how many letters; a byte in a text.
-/
import Derived.Test.YtjneeikkakekjaaDoorB
namespace Go.Proofs.YtjneeikkakekjaaDoor
open Go.RowKit

theorem drop_at (s : ByteArray) (k : Nat) (h : k < s.size) : s.data.toList.drop k = s[k] :: s.data.toList.drop (k + 1) := by
  rw [List.drop_eq_getElem_cons (by simpa using h)]; rfl
theorem drop_end (s : ByteArray) (k : Nat) (h : ¬ k < s.size) : s.data.toList.drop k = [] := List.drop_of_length_le (by simp; omega)
def kdI (x : Int) (n d : Bool) : Int := if blkI x = true ∨ x = 37 then 2 else if x = 92 ∧ n = true then 4 else if x = 123 then 5 else if x = 125 then 6 else if x = 35 ∧ d = true then 7 else 1
theorem byte_iff (c : UInt8) (n : Nat) (hn : n < 256) : c = UInt8.ofNat n ↔ (c.toNat : Int) = (n : Int) := by
  constructor
  · rintro rfl; rw [UInt8.toNat_ofNat', Nat.mod_eq_of_lt hn]
  · exact byte_lit
theorem kd_int (c : UInt8) (r : By) : kd c r = kdI (c.toNat : Int) (hdB ltr r) (hdB dgt r) := by
  unfold kd kdI
  rw [blk_int]
  have e37 := byte_iff c 37 (by omega)
  have e92 := byte_iff c 92 (by omega)
  have e123 := byte_iff c 123 (by omega)
  have e125 := byte_iff c 125 (by omega)
  have e35 := byte_iff c 35 (by omega)
  have p1 : ((blkI (c.toNat : Int) || c == 37) = true) ↔ (blkI (c.toNat : Int) = true ∨ (c.toNat : Int) = 37) := by
    rw [Bool.or_eq_true, beq_iff_eq]; exact or_congr Iff.rfl e37
  have p2 : ((c == 92 && hdB ltr r) = true) ↔ ((c.toNat : Int) = 92 ∧ hdB ltr r = true) := by
    rw [Bool.and_eq_true, beq_iff_eq]; exact and_congr e92 Iff.rfl
  have p3 : ((c == 35 && hdB dgt r) = true) ↔ ((c.toNat : Int) = 35 ∧ hdB dgt r = true) := by
    rw [Bool.and_eq_true, beq_iff_eq]; exact and_congr e35 Iff.rfl
  have p4 : (c = 123) ↔ ((c.toNat : Int) = 123) := e123
  have p5 : (c = 125) ↔ ((c.toNat : Int) = 125) := e125
  simp only [p1, p2, p3, p4, p5]
theorem hk_drop (t : ByteArray) (k : Nat) (h : k < t.size) : hk (t.data.toList.drop k) = kdI (t[k].toNat : Int) (hdB ltr (t.data.toList.drop (k + 1))) (hdB dgt (t.data.toList.drop (k + 1))) := by
  rw [drop_at t k h]; exact kd_int _ _
theorem hd_yes (p : UInt8 → Bool) (t : ByteArray) (k : Nat) (h : k < t.size) : hdB p (t.data.toList.drop k) = p t[k] := by rw [drop_at t k h]; rfl
theorem hd_no (p : UInt8 → Bool) (t : ByteArray) (k : Nat) (h : ¬ k < t.size) : hdB p (t.data.toList.drop k) = false := by rw [drop_end t k h]; rfl
theorem kd_cases (x : Int) : x = 32 ∨ x = 9 ∨ x = 10 ∨ x = 37 ∨ x = 123 ∨ x = 125 ∨ x = 92 ∨ x = 35 ∨ (x ≠ 32 ∧ x ≠ 9 ∧ x ≠ 10 ∧ x ≠ 37 ∧ x ≠ 123 ∧ x ≠ 125 ∧ x ≠ 92 ∧ x ≠ 35) := by omega
theorem kdI_other {x : Int} (h : x ≠ 32 ∧ x ≠ 9 ∧ x ≠ 10 ∧ x ≠ 37 ∧ x ≠ 123 ∧ x ≠ 125 ∧ x ≠ 92 ∧ x ≠ 35) (n d : Bool) : kdI x n d = 1 := by
  obtain ⟨h1, h2, h3, h4, h5, h6, h7, h8⟩ := h
  unfold kdI blkI
  simp [h1, h2, h3, h4, h5, h6, h7, h8]
theorem ret_int {a b : Int} (h : a = b) : Ending.returned (.int .i64 a) = .returned (.int .i64 b) := by rw [h]
theorem size_list (t : ByteArray) : t.data.toList.length = t.size := Array.length_toList
theorem str_some {t : ByteArray} (h : 0 < t.size) : t.toList.isEmpty = false := by
  rw [ByteArray.toList_eq]
  have := size_list t
  cases hl : t.data.toList with
  | nil => rw [hl] at this; simp only [List.length_nil] at this; omega
  | cons a r => rfl
theorem str_none {t : ByteArray} (h : ¬ 0 < t.size) : t.data.toList = [] := List.eq_nil_of_length_eq_zero (by rw [size_list]; omega)
set_option maxHeartbeats 1000000 in
theorem begins_any (t : ByteArray) (w : World) (hs : t.size ≤ 4611686018427387904) :
    Calls Tryd.prog 50 #[.string t] w fun e w' => e = .returned (.int .i64 (hk t.data.toList)) ∧ w = w' := by
  by_cases h0 : 0 < t.size
  · have hv := hk_drop t 0 h0
    rw [List.drop_zero] at hv
    have q0 := str_some h0
    obtain ⟨x, hx⟩ : ∃ x : Int, (t[0].toNat : Int) = x := ⟨_, rfl⟩
    rw [hx] at hv
    rcases kd_cases x with rfl | rfl | rfl | rfl | rfl | rfl | rfl | rfl | h
    iterate 6
      · have HV := Lib.hid hv.symm
        generalize hk t.data.toList = V at *
        clear hv
        go_enter Tryd.func50, Tryd.ntmps50
        go_wp2
        go_ret
        exact ⟨ret_int HV.out, rfl⟩
    · by_cases h1 : 1 < t.size
      · rw [hd_yes ltr t 1 h1, ltr_int] at hv
        have HV := Lib.hid hv.symm
        generalize hk t.data.toList = V at *
        clear hv
        obtain ⟨y, hy⟩ : ∃ y : Int, (t[1].toNat : Int) = y := ⟨_, rfl⟩
        rw [hy] at HV
        have C := Lib.hid (letter_any y w)
        generalize ltrI y = v at *
        cases v <;> (
          go_enter Tryd.func50, Tryd.ntmps50
          go_wp2_with fail
          refine C.out.mono ?_
          rintro e w' ⟨rfl, rfl⟩
          go_wp2
          go_ret
          exact ⟨ret_int HV.out, rfl⟩)
      · rw [hd_no ltr t 1 h1] at hv
        have HV := Lib.hid hv.symm
        generalize hk t.data.toList = V at *
        clear hv
        go_enter Tryd.func50, Tryd.ntmps50
        go_wp2
        go_ret
        exact ⟨ret_int HV.out, rfl⟩
    · by_cases h1 : 1 < t.size
      · rw [hd_yes dgt t 1 h1, dgt_int] at hv
        have HV := Lib.hid hv.symm
        generalize hk t.data.toList = V at *
        clear hv
        obtain ⟨y, hy⟩ : ∃ y : Int, (t[1].toNat : Int) = y := ⟨_, rfl⟩
        rw [hy] at HV
        have C := Lib.hid (digit_any y w)
        generalize dgtI y = v at *
        cases v <;> (
          go_enter Tryd.func50, Tryd.ntmps50
          go_wp2_with fail
          refine C.out.mono ?_
          rintro e w' ⟨rfl, rfl⟩
          go_wp2
          go_ret
          exact ⟨ret_int HV.out, rfl⟩)
      · rw [hd_no dgt t 1 h1] at hv
        have HV := Lib.hid hv.symm
        generalize hk t.data.toList = V at *
        clear hv
        go_enter Tryd.func50, Tryd.ntmps50
        go_wp2
        go_ret
        exact ⟨ret_int HV.out, rfl⟩
    · rw [kdI_other h] at hv
      have HV := Lib.hid hv.symm
      generalize hk t.data.toList = V at *
      clear hv
      obtain ⟨h1, h2, h3, h4, h5, h6, h7, h8⟩ := h
      have d1 : (x == 32) = false := by simpa using h1
      have d2 : (x == 9) = false := by simpa using h2
      have d3 : (x == 10) = false := by simpa using h3
      have d4 : (x == 37) = false := by simpa using h4
      have d5 : (x == 123) = false := by simpa using h5
      have d6 : (x == 125) = false := by simpa using h6
      have d7 : (x == 92) = false := by simpa using h7
      have d8 : (x == 35) = false := by simpa using h8
      clear h1 h2 h3 h4 h5 h6 h7 h8
      go_enter Tryd.func50, Tryd.ntmps50
      go_wp2
      go_ret
      exact ⟨ret_int HV.out, rfl⟩
  · have HV := Lib.hid (show (0 : Int) = hk t.data.toList by rw [str_none h0]; rfl)
    generalize hk t.data.toList = V at *
    obtain rfl : t = ByteArray.empty := ByteArray.ext (Array.eq_empty_of_size_eq_zero (by show t.size = 0; omega))
    clear h0
    go_enter Tryd.func50, Tryd.ntmps50
    go_wp2
    go_ret
    exact ⟨ret_int HV.out, rfl⟩
def kdN (t : ByteArray) (k : Nat) : Int := hk (t.data.toList.drop k)
theorem take_step (s : ByteArray) (n : Nat) (h : n < s.size) : s.data.toList.take (n + 1) = s.data.toList.take n ++ [s[n]] := by
  rw [List.take_add_one, List.getElem?_eq_getElem (by rw [size_list]; exact h)]; rfl
/-- How many letters a text begins with, by what was seen so far. -/
theorem lead_stop (s : ByteArray) (n : Nat) (ha : (s.data.toList.take n).all ltr = true) (hn : n ≤ s.size) (hs : hdB ltr (s.data.toList.drop n) = false) : (s.data.toList.takeWhile ltr).length = n := by
  have h := take_ltr ha hs
  rw [List.take_append_drop] at h
  rw [h.1, List.length_take, size_list]; omega
set_option maxHeartbeats 400000 in
theorem letters_any (s : ByteArray) (w : World) (hs : s.size ≤ 4611686018427387904) :
    Calls Tryd.prog 65 #[.string s] w fun e w' => e = .returned (.int .i64 ((s.data.toList.takeWhile ltr).length : Nat)) ∧ w = w' := by
  go_enter Tryd.func65, Tryd.ntmps65
  go_wp2
  go_loop [3] (fun i => ∃ k : Nat, k ≤ s.size ∧ i = .int .i64 k ∧ Hid ((s.data.toList.take k).all ltr = true)) (fun i => s.size - (intOf i).toNat)
  case atStart => exact ⟨0, Nat.zero_le _, rfl, Lib.hid rfl⟩
  case round =>
    obtain ⟨k, hk, rfl, HA⟩ := hrel
    by_cases hlt : k < s.size
    · have HS := Lib.hid (take_step s k hlt)
      have HD := Lib.hid (hd_yes ltr s k hlt)
      rw [ltr_int] at HD
      obtain ⟨x, hx⟩ : ∃ x : Int, (s[k].toNat : Int) = x := ⟨_, rfl⟩
      have HL := Lib.hid (ltr_int s[k])
      rw [hx] at HL HD
      have C := Lib.hid (letter_any x w)
      generalize ltrI x = v at *
      cases v
      · go_wp2_with fail
        refine C.out.mono ?_
        rintro e w' ⟨rfl, rfl⟩
        go_wp2
        go_ret
        exact ⟨ret_int (by rw [lead_stop s k HA.out hk HD.out]), rfl⟩
      · go_wp2_with fail
        refine C.out.mono ?_
        rintro e w' ⟨rfl, rfl⟩
        go_wp2
        go_round
        case rel => exact ⟨k + 1, by omega, by go_num, Lib.hid (by rw [HS.out, List.all_append, HA.out]; simp [HL.out])⟩
        case measure => simp [intOf]; omega
    · have HD := Lib.hid (hd_no ltr s k hlt)
      go_wp2
      go_ret
      exact ⟨ret_int (by rw [lead_stop s k HA.out hk HD.out]), rfl⟩
def inI (x : Int) : Bool := decide (x = 92 ∨ x = 123 ∨ x = 125 ∨ x = 37 ∨ x = 35)
end Go.Proofs.YtjneeikkakekjaaDoor

/-
  Contracts of what a text begins with, by the program and by the document's answer; how many letters; a byte in a text.
  Words for memory: a slice of tokens that reads as a list; a row of one's own; what is kept behind calls; results that lie in a cell.
  Contracts of strings.Cut at a line's end, of lex.gap, lex.command: a token, and what stands behind it.
-/
import Derived.Test.YtmnbepapgghdaaaGreatK01
import Derived.Laws.Rows
import Derived.Lib.Bytealg
import Derived.BigRegion
namespace Go.Proofs.YtmnbepapgghdaaaGreat
open Go.RowKit

theorem drop_at (s : ByteArray) (k : Nat) (h : k < s.size) : s.data.toList.drop k = s[k] :: s.data.toList.drop (k + 1) := by
  rw [List.drop_eq_getElem_cons (by simpa using h)]; rfl
theorem drop_end (s : ByteArray) (k : Nat) (h : ¬ k < s.size) : s.data.toList.drop k = [] := List.drop_of_length_le (by simp; omega)
def kdI (x : Int) (n d : Bool) : Int := if blkI x = true ∨ x = 37 then 2 else if x = 92 ∧ n = true then 4 else if x = 123 then 5 else if x = 125 then 6 else if x = 35 ∧ d = true then 7 else 1
theorem byte_iff (c : UInt8) (n : Nat) (hn : n < 256) : c = UInt8.ofNat n ↔ (c.toNat : Int) = (n : Int) := by
  constructor
  · rintro rfl; rw [UInt8.toNat_ofNat', Nat.mod_eq_of_lt hn]
  · exact byte_lit
theorem kd_int (c : UInt8) (r : By) : kd c r = kdI (c.toNat : Int) (hdB ltr r) (hdB dgt r) := by
  unfold kd kdI
  rw [blk_int]
  have e37 := byte_iff c 37 (by omega)
  have e92 := byte_iff c 92 (by omega)
  have e123 := byte_iff c 123 (by omega)
  have e125 := byte_iff c 125 (by omega)
  have e35 := byte_iff c 35 (by omega)
  have p1 : ((blkI (c.toNat : Int) || c == 37) = true) ↔ (blkI (c.toNat : Int) = true ∨ (c.toNat : Int) = 37) := by
    rw [Bool.or_eq_true, beq_iff_eq]; exact or_congr Iff.rfl e37
  have p2 : ((c == 92 && hdB ltr r) = true) ↔ ((c.toNat : Int) = 92 ∧ hdB ltr r = true) := by
    rw [Bool.and_eq_true, beq_iff_eq]; exact and_congr e92 Iff.rfl
  have p3 : ((c == 35 && hdB dgt r) = true) ↔ ((c.toNat : Int) = 35 ∧ hdB dgt r = true) := by
    rw [Bool.and_eq_true, beq_iff_eq]; exact and_congr e35 Iff.rfl
  have p4 : (c = 123) ↔ ((c.toNat : Int) = 123) := e123
  have p5 : (c = 125) ↔ ((c.toNat : Int) = 125) := e125
  simp only [p1, p2, p3, p4, p5]
theorem hk_drop (t : ByteArray) (k : Nat) (h : k < t.size) : hk (t.data.toList.drop k) = kdI (t[k].toNat : Int) (hdB ltr (t.data.toList.drop (k + 1))) (hdB dgt (t.data.toList.drop (k + 1))) := by
  rw [drop_at t k h]; exact kd_int _ _
theorem hd_yes (p : UInt8 → Bool) (t : ByteArray) (k : Nat) (h : k < t.size) : hdB p (t.data.toList.drop k) = p t[k] := by rw [drop_at t k h]; rfl
theorem hd_no (p : UInt8 → Bool) (t : ByteArray) (k : Nat) (h : ¬ k < t.size) : hdB p (t.data.toList.drop k) = false := by rw [drop_end t k h]; rfl
theorem kd_cases (x : Int) : x = 32 ∨ x = 9 ∨ x = 10 ∨ x = 37 ∨ x = 123 ∨ x = 125 ∨ x = 92 ∨ x = 35 ∨ (x ≠ 32 ∧ x ≠ 9 ∧ x ≠ 10 ∧ x ≠ 37 ∧ x ≠ 123 ∧ x ≠ 125 ∧ x ≠ 92 ∧ x ≠ 35) := by omega
theorem kdI_other {x : Int} (h : x ≠ 32 ∧ x ≠ 9 ∧ x ≠ 10 ∧ x ≠ 37 ∧ x ≠ 123 ∧ x ≠ 125 ∧ x ≠ 92 ∧ x ≠ 35) (n d : Bool) : kdI x n d = 1 := by
  obtain ⟨h1, h2, h3, h4, h5, h6, h7, h8⟩ := h
  unfold kdI blkI
  simp [h1, h2, h3, h4, h5, h6, h7, h8]
theorem ret_int {a b : Int} (h : a = b) : Ending.returned (.int .i64 a) = .returned (.int .i64 b) := by rw [h]
theorem size_list (t : ByteArray) : t.data.toList.length = t.size := Array.length_toList
theorem str_some {t : ByteArray} (h : 0 < t.size) : t.toList.isEmpty = false := by
  rw [ByteArray.toList_eq]
  have := size_list t
  cases hl : t.data.toList with
  | nil => rw [hl] at this; simp only [List.length_nil] at this; omega
  | cons a r => rfl
theorem str_none {t : ByteArray} (h : ¬ 0 < t.size) : t.data.toList = [] := List.eq_nil_of_length_eq_zero (by rw [size_list]; omega)
set_option maxHeartbeats 1000000 in
theorem begins_any (t : ByteArray) (w : World) (hs : t.size ≤ 4611686018427387904) :
    Calls Tryz.prog 35 #[.string t] w fun e w' => e = .returned (.int .i64 (hk t.data.toList)) ∧ w = w' := by
  by_cases h0 : 0 < t.size
  · have hv := hk_drop t 0 h0
    rw [List.drop_zero] at hv
    have q0 := str_some h0
    obtain ⟨x, hx⟩ : ∃ x : Int, (t[0].toNat : Int) = x := ⟨_, rfl⟩
    rw [hx] at hv
    rcases kd_cases x with rfl | rfl | rfl | rfl | rfl | rfl | rfl | rfl | h
    iterate 6
      · have HV := Lib.hid hv.symm
        generalize hk t.data.toList = V at *
        clear hv
        go_enter Tryz.func35, Tryz.ntmps35
        go_wp2
        go_ret
        exact ⟨ret_int HV.out, rfl⟩
    · by_cases h1 : 1 < t.size
      · rw [hd_yes ltr t 1 h1, ltr_int] at hv
        have HV := Lib.hid hv.symm
        generalize hk t.data.toList = V at *
        clear hv
        obtain ⟨y, hy⟩ : ∃ y : Int, (t[1].toNat : Int) = y := ⟨_, rfl⟩
        rw [hy] at HV
        have C := Lib.hid (letter_any y w)
        generalize ltrI y = v at *
        cases v <;> (
          go_enter Tryz.func35, Tryz.ntmps35
          go_wp2_with fail
          refine C.out.mono ?_
          rintro e w' ⟨rfl, rfl⟩
          go_wp2
          go_ret
          exact ⟨ret_int HV.out, rfl⟩)
      · rw [hd_no ltr t 1 h1] at hv
        have HV := Lib.hid hv.symm
        generalize hk t.data.toList = V at *
        clear hv
        go_enter Tryz.func35, Tryz.ntmps35
        go_wp2
        go_ret
        exact ⟨ret_int HV.out, rfl⟩
    · by_cases h1 : 1 < t.size
      · rw [hd_yes dgt t 1 h1, dgt_int] at hv
        have HV := Lib.hid hv.symm
        generalize hk t.data.toList = V at *
        clear hv
        obtain ⟨y, hy⟩ : ∃ y : Int, (t[1].toNat : Int) = y := ⟨_, rfl⟩
        rw [hy] at HV
        have C := Lib.hid (digit_any y w)
        generalize dgtI y = v at *
        cases v <;> (
          go_enter Tryz.func35, Tryz.ntmps35
          go_wp2_with fail
          refine C.out.mono ?_
          rintro e w' ⟨rfl, rfl⟩
          go_wp2
          go_ret
          exact ⟨ret_int HV.out, rfl⟩)
      · rw [hd_no dgt t 1 h1] at hv
        have HV := Lib.hid hv.symm
        generalize hk t.data.toList = V at *
        clear hv
        go_enter Tryz.func35, Tryz.ntmps35
        go_wp2
        go_ret
        exact ⟨ret_int HV.out, rfl⟩
    · rw [kdI_other h] at hv
      have HV := Lib.hid hv.symm
      generalize hk t.data.toList = V at *
      clear hv
      obtain ⟨h1, h2, h3, h4, h5, h6, h7, h8⟩ := h
      have d1 : (x == 32) = false := by simpa using h1
      have d2 : (x == 9) = false := by simpa using h2
      have d3 : (x == 10) = false := by simpa using h3
      have d4 : (x == 37) = false := by simpa using h4
      have d5 : (x == 123) = false := by simpa using h5
      have d6 : (x == 125) = false := by simpa using h6
      have d7 : (x == 92) = false := by simpa using h7
      have d8 : (x == 35) = false := by simpa using h8
      clear h1 h2 h3 h4 h5 h6 h7 h8
      go_enter Tryz.func35, Tryz.ntmps35
      go_wp2
      go_ret
      exact ⟨ret_int HV.out, rfl⟩
  · have HV := Lib.hid (show (0 : Int) = hk t.data.toList by rw [str_none h0]; rfl)
    generalize hk t.data.toList = V at *
    obtain rfl : t = ByteArray.empty := ByteArray.ext (Array.eq_empty_of_size_eq_zero (by show t.size = 0; omega))
    clear h0
    go_enter Tryz.func35, Tryz.ntmps35
    go_wp2
    go_ret
    exact ⟨ret_int HV.out, rfl⟩
def kdN (t : ByteArray) (k : Nat) : Int := hk (t.data.toList.drop k)
set_option maxHeartbeats 1000000 in
/-- The document's answer: what begins at a place. -/
theorem rkind_any (t : ByteArray) (k : Nat) (w : World) (hs : t.size ≤ 4611686018427387904) (hk0 : k < t.size) :
    Calls Tryz.prog 40 #[.string t, .int .i64 k] w fun e w' => e = .returned (.int .i64 (kdN t k)) ∧ w = w' := by
  have hv := hk_drop t k hk0
  rw [show hk (t.data.toList.drop k) = kdN t k from rfl] at hv
  obtain ⟨x, hx⟩ : ∃ x : Int, (t[k].toNat : Int) = x := ⟨_, rfl⟩
  rw [hx] at hv
  obtain ⟨n, d, y, hn, hd, hv', hy⟩ : ∃ (n d : Bool) (y : Int), n = ltrI y ∧ d = dgtI y ∧ kdN t k = kdI x n d ∧ (∀ h : k + 1 < t.size, (t[k + 1].toNat : Int) = y) ∧ (¬ k + 1 < t.size → y = 0) := by
    by_cases h1 : k + 1 < t.size
    · exact ⟨_, _, (t[k + 1].toNat : Int), rfl, rfl, by rw [hv, hd_yes ltr t _ h1, hd_yes dgt t _ h1, ltr_int, dgt_int], fun _ => rfl, fun h => absurd h1 h⟩
    · exact ⟨_, _, 0, rfl, rfl, by rw [hv, hd_no ltr t _ h1, hd_no dgt t _ h1]; rfl, fun h => absurd h h1, fun _ => rfl⟩
  have CB := Lib.hid (rblank_any x w)
  have CL := Lib.hid (rletter_any y w)
  have CD := Lib.hid (rdigit_any y w)
  rw [← hn] at CL
  rw [← hd] at CD
  have HV := Lib.hid hv'.symm
  generalize kdN t k = V at *
  clear hv hv' hn hd
  obtain ⟨hy1, hy0⟩ := hy
  by_cases h1 : k + 1 < t.size
  · have hy := hy1 h1
    have i1 : ((k : Int) + 1) < (t.size : Int) := by omega
    clear hy1 hy0
    rcases kd_cases x with rfl | rfl | rfl | rfl | rfl | rfl | rfl | rfl | h
    · rw [show blkI 32 = true from rfl] at CB
      go_enter Tryz.func40, Tryz.ntmps40
      go_wp2_with fail
      refine CB.out.mono ?_
      rintro e w' ⟨rfl, rfl⟩
      go_wp2
      go_ret
      exact ⟨ret_int HV.out, rfl⟩
    · rw [show blkI 9 = true from rfl] at CB
      go_enter Tryz.func40, Tryz.ntmps40
      go_wp2_with fail
      refine CB.out.mono ?_
      rintro e w' ⟨rfl, rfl⟩
      go_wp2
      go_ret
      exact ⟨ret_int HV.out, rfl⟩
    · rw [show blkI 10 = true from rfl] at CB
      go_enter Tryz.func40, Tryz.ntmps40
      go_wp2_with fail
      refine CB.out.mono ?_
      rintro e w' ⟨rfl, rfl⟩
      go_wp2
      go_ret
      exact ⟨ret_int HV.out, rfl⟩
    · rw [show blkI 37 = false from rfl] at CB
      go_enter Tryz.func40, Tryz.ntmps40
      go_wp2_with fail
      refine CB.out.mono ?_
      rintro e w' ⟨rfl, rfl⟩
      go_wp2
      go_ret
      exact ⟨ret_int HV.out, rfl⟩
    · rw [show blkI 123 = false from rfl] at CB
      go_enter Tryz.func40, Tryz.ntmps40
      go_wp2_with fail
      refine CB.out.mono ?_
      rintro e w' ⟨rfl, rfl⟩
      go_wp2
      go_ret
      exact ⟨ret_int HV.out, rfl⟩
    · rw [show blkI 125 = false from rfl] at CB
      go_enter Tryz.func40, Tryz.ntmps40
      go_wp2_with fail
      refine CB.out.mono ?_
      rintro e w' ⟨rfl, rfl⟩
      go_wp2
      go_ret
      exact ⟨ret_int HV.out, rfl⟩
    · rw [show blkI 92 = false from rfl] at CB
      cases n <;> (
        go_enter Tryz.func40, Tryz.ntmps40
        go_wp2_with fail
        refine CB.out.mono ?_
        rintro e w' ⟨rfl, rfl⟩
        go_wp2_with fail
        refine CL.out.mono ?_
        rintro e w' ⟨rfl, rfl⟩
        go_wp2
        go_ret
        exact ⟨ret_int HV.out, rfl⟩)
    · rw [show blkI 35 = false from rfl] at CB
      cases d <;> (
        go_enter Tryz.func40, Tryz.ntmps40
        go_wp2_with fail
        refine CB.out.mono ?_
        rintro e w' ⟨rfl, rfl⟩
        go_wp2_with fail
        refine CD.out.mono ?_
        rintro e w' ⟨rfl, rfl⟩
        go_wp2
        go_ret
        exact ⟨ret_int HV.out, rfl⟩)
    · rw [kdI_other h] at HV
      obtain ⟨h1, h2, h3, h4, h5, h6, h7, h8⟩ := h
      rw [show blkI x = false by unfold blkI; simp [h1, h2, h3]] at CB
      have d4 : (x == 37) = false := by simpa using h4
      have d5 : (x == 123) = false := by simpa using h5
      have d6 : (x == 125) = false := by simpa using h6
      have d7 : (x == 92) = false := by simpa using h7
      have d8 : (x == 35) = false := by simpa using h8
      clear h1 h2 h3 h4 h5 h6 h7 h8
      go_enter Tryz.func40, Tryz.ntmps40
      go_wp2_with fail
      refine CB.out.mono ?_
      rintro e w' ⟨rfl, rfl⟩
      go_wp2
      go_ret
      exact ⟨ret_int HV.out, rfl⟩
  · obtain rfl := hy0 h1
    have i1 : ¬ ((k : Int) + 1) < (t.size : Int) := by omega
    clear hy1 hy0
    rcases kd_cases x with rfl | rfl | rfl | rfl | rfl | rfl | rfl | rfl | h
    · rw [show blkI 32 = true from rfl] at CB
      go_enter Tryz.func40, Tryz.ntmps40
      go_wp2_with fail
      refine CB.out.mono ?_
      rintro e w' ⟨rfl, rfl⟩
      go_wp2
      go_ret
      exact ⟨ret_int HV.out, rfl⟩
    · rw [show blkI 9 = true from rfl] at CB
      go_enter Tryz.func40, Tryz.ntmps40
      go_wp2_with fail
      refine CB.out.mono ?_
      rintro e w' ⟨rfl, rfl⟩
      go_wp2
      go_ret
      exact ⟨ret_int HV.out, rfl⟩
    · rw [show blkI 10 = true from rfl] at CB
      go_enter Tryz.func40, Tryz.ntmps40
      go_wp2_with fail
      refine CB.out.mono ?_
      rintro e w' ⟨rfl, rfl⟩
      go_wp2
      go_ret
      exact ⟨ret_int HV.out, rfl⟩
    · rw [show blkI 37 = false from rfl] at CB
      go_enter Tryz.func40, Tryz.ntmps40
      go_wp2_with fail
      refine CB.out.mono ?_
      rintro e w' ⟨rfl, rfl⟩
      go_wp2
      go_ret
      exact ⟨ret_int HV.out, rfl⟩
    · rw [show blkI 123 = false from rfl] at CB
      go_enter Tryz.func40, Tryz.ntmps40
      go_wp2_with fail
      refine CB.out.mono ?_
      rintro e w' ⟨rfl, rfl⟩
      go_wp2
      go_ret
      exact ⟨ret_int HV.out, rfl⟩
    · rw [show blkI 125 = false from rfl] at CB
      go_enter Tryz.func40, Tryz.ntmps40
      go_wp2_with fail
      refine CB.out.mono ?_
      rintro e w' ⟨rfl, rfl⟩
      go_wp2
      go_ret
      exact ⟨ret_int HV.out, rfl⟩
    · rw [show blkI 92 = false from rfl] at CB
      cases n <;> (
        go_enter Tryz.func40, Tryz.ntmps40
        go_wp2_with fail
        refine CB.out.mono ?_
        rintro e w' ⟨rfl, rfl⟩
        go_wp2_with fail
        refine CL.out.mono ?_
        rintro e w' ⟨rfl, rfl⟩
        go_wp2
        go_ret
        exact ⟨ret_int HV.out, rfl⟩)
    · rw [show blkI 35 = false from rfl] at CB
      cases d <;> (
        go_enter Tryz.func40, Tryz.ntmps40
        go_wp2_with fail
        refine CB.out.mono ?_
        rintro e w' ⟨rfl, rfl⟩
        go_wp2_with fail
        refine CD.out.mono ?_
        rintro e w' ⟨rfl, rfl⟩
        go_wp2
        go_ret
        exact ⟨ret_int HV.out, rfl⟩)
    · rw [kdI_other h] at HV
      obtain ⟨h1, h2, h3, h4, h5, h6, h7, h8⟩ := h
      rw [show blkI x = false by unfold blkI; simp [h1, h2, h3]] at CB
      have d4 : (x == 37) = false := by simpa using h4
      have d5 : (x == 123) = false := by simpa using h5
      have d6 : (x == 125) = false := by simpa using h6
      have d7 : (x == 92) = false := by simpa using h7
      have d8 : (x == 35) = false := by simpa using h8
      clear h1 h2 h3 h4 h5 h6 h7 h8
      go_enter Tryz.func40, Tryz.ntmps40
      go_wp2_with fail
      refine CB.out.mono ?_
      rintro e w' ⟨rfl, rfl⟩
      go_wp2
      go_ret
      exact ⟨ret_int HV.out, rfl⟩
theorem take_step (s : ByteArray) (n : Nat) (h : n < s.size) : s.data.toList.take (n + 1) = s.data.toList.take n ++ [s[n]] := by
  rw [List.take_add_one, List.getElem?_eq_getElem (by rw [size_list]; exact h)]; rfl
/-- How many letters a text begins with, by what was seen so far. -/
theorem lead_stop (s : ByteArray) (n : Nat) (ha : (s.data.toList.take n).all ltr = true) (hn : n ≤ s.size) (hs : hdB ltr (s.data.toList.drop n) = false) : (s.data.toList.takeWhile ltr).length = n := by
  have h := take_ltr ha hs
  rw [List.take_append_drop] at h
  rw [h.1, List.length_take, size_list]; omega
set_option maxHeartbeats 400000 in
theorem letters_any (s : ByteArray) (w : World) (hs : s.size ≤ 4611686018427387904) :
    Calls Tryz.prog 69 #[.string s] w fun e w' => e = .returned (.int .i64 ((s.data.toList.takeWhile ltr).length : Nat)) ∧ w = w' := by
  go_enter Tryz.func69, Tryz.ntmps69
  go_wp2
  go_loop [3] (fun i => ∃ k : Nat, k ≤ s.size ∧ i = .int .i64 k ∧ Hid ((s.data.toList.take k).all ltr = true)) (fun i => s.size - (intOf i).toNat)
  case atStart => exact ⟨0, Nat.zero_le _, rfl, Lib.hid rfl⟩
  case round =>
    obtain ⟨k, hk, rfl, HA⟩ := hrel
    by_cases hlt : k < s.size
    · have HS := Lib.hid (take_step s k hlt)
      have HD := Lib.hid (hd_yes ltr s k hlt)
      rw [ltr_int] at HD
      obtain ⟨x, hx⟩ : ∃ x : Int, (s[k].toNat : Int) = x := ⟨_, rfl⟩
      have HL := Lib.hid (ltr_int s[k])
      rw [hx] at HL HD
      have C := Lib.hid (letter_any x w)
      generalize ltrI x = v at *
      cases v
      · go_wp2_with fail
        refine C.out.mono ?_
        rintro e w' ⟨rfl, rfl⟩
        go_wp2
        go_ret
        exact ⟨ret_int (by rw [lead_stop s k HA.out hk HD.out]), rfl⟩
      · go_wp2_with fail
        refine C.out.mono ?_
        rintro e w' ⟨rfl, rfl⟩
        go_wp2
        go_round
        case rel => exact ⟨k + 1, by omega, by go_num, Lib.hid (by rw [HS.out, List.all_append, HA.out]; simp [HL.out])⟩
        case measure => simp [intOf]; omega
    · have HD := Lib.hid (hd_no ltr s k hlt)
      go_wp2
      go_ret
      exact ⟨ret_int (by rw [lead_stop s k HA.out hk HD.out]), rfl⟩
def inI (x : Int) : Bool := decide (x = 92 ∨ x = 123 ∨ x = 125 ∨ x = 37 ∨ x = 35)
end Go.Proofs.YtmnbepapgghdaaaGreat

namespace Go.Proofs.YtmnbepapgghdaaaGreat
open Go.RowKit

def fcells : List Tok → List Value
  | [] => []
  | f :: r => .int .i64 f.1 :: .string ⟨f.2.toArray⟩ :: fcells r
theorem fcells_len : ∀ fs : List Tok, (fcells fs).length = fs.length * 2
  | [] => rfl
  | f :: r => by simp only [fcells, List.length_cons, fcells_len r]; omega
theorem fcells_app : ∀ a b : List Tok, fcells (a ++ b) = fcells a ++ fcells b
  | [], _ => rfl
  | f :: r, b => by simp only [List.cons_append, fcells, fcells_app r b]
theorem fcells_at : ∀ (fs : List Tok) (i : Nat) (f : Tok), fs[i]? = some f → (fcells fs)[i * 2]? = some (.int .i64 f.1) ∧ (fcells fs)[i * 2 + 1]? = some (.string ⟨f.2.toArray⟩)
  | [], _, _, h => by simp at h
  | g :: r, 0, f, h => by simp at h; subst h; exact ⟨rfl, rfl⟩
  | g :: r, i + 1, f, h => by
    have := fcells_at r i f (by simpa using h)
    rw [show (i + 1) * 2 = i * 2 + 1 + 1 by omega]
    simpa [fcells] using this
theorem fcells_one : ∀ (fs : List Tok), ∀ u ∈ fcells fs, u.oneCell' = true
  | [], u, h => by cases h
  | f :: r, u, h => by
    simp only [fcells, List.mem_cons] at h
    rcases h with rfl | rfl | h
    · rfl
    · rfl
    · exact fcells_one r u h

/-- The slice at A reads as these files. -/
def Rd (w : World) (A : Option Addr) (fs : List Tok) : Prop :=
  0 < fs.length → ∃ b o, A = some ⟨b, o, none⟩ ∧ ∀ i f, fs[i]? = some f → w.cell? ⟨b, o + i * 2, none⟩ = some (.int .i64 f.1) ∧ w.cell? ⟨b, o + i * 2 + 1, none⟩ = some (.string ⟨f.2.toArray⟩)
theorem Rd.keep {w w' : World} {A : Option Addr} {fs : List Tok} (h : Rd w A fs) (hk : ∀ (p : Addr) (v : Value), w.cell? p = some v → w'.cell? p = some v) : Rd w' A fs := fun h0 => by
  obtain ⟨b, o, e, hc⟩ := h h0
  exact ⟨b, o, e, fun i f hi => ⟨hk _ _ (hc i f hi).1, hk _ _ (hc i f hi).2⟩⟩
theorem cell_below {w w' : World} (hb : Below w.heap.size w w') {p : Addr} {v : Value} (h : w.cell? p = some v) : w'.cell? p = some v :=
  (hb.cell (World.block_lt_of_cell? w p h)).trans h
theorem Rd.below {w w' : World} {A : Option Addr} {fs : List Tok} (h : Rd w A fs) (hb : Below w.heap.size w w') : Rd w' A fs := h.keep fun _ _ hc => cell_below hb hc
theorem Rd.alloc {w : World} {A : Option Addr} {fs : List Tok} (h : Rd w A fs) (o : Obj) : Rd (w.alloc o) A fs := h.below ((Below.refl _ _).alloc (Nat.le_refl _) _)
theorem Rd.drewN {w : World} {A : Option Addr} {fs : List Tok} (h : Rd w A fs) (n : Nat) : Rd (w.drewN n) A fs := h
theorem Rd.drew {w : World} {A : Option Addr} {fs : List Tok} (h : Rd w A fs) : Rd w.drew A fs := h
theorem Rd.empty (w : World) (A : Option Addr) : Rd w A [] := fun h => absurd h (by simp)

/-- A slice of one's own that holds these files. -/
def Own (t : TypeId) (w : World) (base : Nat) (A : Option Addr) (c : Nat) (fs : List Tok) : Prop := w.ownsRow base t 2 (.slice A fs.length c) fs.length (fcells fs)
theorem Own.rd {t : TypeId} {w : World} {base : Nat} {A : Option Addr} {c : Nat} {fs : List Tok} (h : Own t w base A c fs) : Rd w A fs := fun h0 => by
  obtain ⟨g, cap, hv, _, _⟩ := World.ownsRow.form h h0
  simp only [Value.slice.injEq] at hv
  obtain ⟨rfl, _, _⟩ := hv
  refine ⟨g, 0, rfl, fun i f hi => ?_⟩
  have hlt : i < fs.length := by
    rcases Nat.lt_or_ge i fs.length with q | q
    · exact q
    · rw [List.getElem?_eq_none q] at hi; cases hi
  obtain ⟨h1, h2⟩ := fcells_at fs i f hi
  have c1 := World.ownsRow.cellAt h (i * 2) (by omega)
  have c2 := World.ownsRow.cellAt h (i * 2 + 1) (by omega)
  rw [Nat.zero_add]
  exact ⟨c1.trans h1, c2.trans h2⟩
theorem Own.cap {t : TypeId} {w : World} {base : Nat} {A : Option Addr} {c : Nat} {fs : List Tok} (h : Own t w base A c fs) : fs.length ≤ c ∧ c ≤ 9223372036854775807 ∧ (A = none → c = 0) := by
  rcases h.2 with ⟨hv, h0⟩ | ⟨g, cap, cur, hv, _, _, h1, h2, _⟩
  · simp only [Value.slice.injEq] at hv
    obtain ⟨rfl, _, rfl⟩ := hv
    exact ⟨by omega, by omega, fun _ => rfl⟩
  · simp only [Value.slice.injEq] at hv
    obtain ⟨rfl, _, rfl⟩ := hv
    unfold maxLen at h2
    exact ⟨h1, by omega, fun e => by cases e⟩
theorem Own.mono {t : TypeId} {w : World} {base base' : Nat} {A : Option Addr} {c : Nat} {fs : List Tok} (h : Own t w base A c fs) (hb : base' ≤ base) : Own t w base' A c fs := by
  refine ⟨h.1, ?_⟩
  rcases h.2 with q | ⟨g, cap, cur, h1, h2, r⟩
  · exact .inl q
  · exact .inr ⟨g, cap, cur, h1, Nat.le_trans hb h2, r⟩
theorem Own.below {t : TypeId} {w w' : World} {base : Nat} {A : Option Addr} {c : Nat} {fs : List Tok} (h : Own t w base A c fs) (hb : Below w.heap.size w w') : Own t w' base A c fs := by
  refine ⟨h.1, ?_⟩
  rcases h.2 with q | ⟨g, cap, cur, h1, h2, h3, r⟩
  · exact .inl q
  · have hlt : g < w.heap.size := by
      rcases Nat.lt_or_ge g w.heap.size with hlt | hge
      · exact hlt
      · rw [Array.getElem?_eq_none hge] at h3; cases h3
    exact .inr ⟨g, cap, cur, h1, h2, (hb.block g hlt).trans h3, r⟩
theorem one_below (w : World) (o : Obj) : Below w.heap.size w (w.alloc o) := (Below.refl _ _).alloc (Nat.le_refl _) _
theorem drewN_below (w : World) (n : Nat) : Below w.heap.size w (w.drewN n) := ⟨rfl, rfl, rfl, Nat.le_refl _, fun _ _ => rfl⟩
theorem bch {a b c : World} (h : Below a.heap.size a b) (k : Below b.heap.size b c) : Below a.heap.size a c := h.trans (k.mono h.size)
theorem new_fst (w : World) (a b : Value) (t : TypeId) : (w.alloc (.cells #[a, b] t)).cell? ⟨w.heap.size, 0, none⟩ = some a := by rw [World.cell?_alloc_new]; rfl
theorem new_snd (w : World) (a b : Value) (t : TypeId) : (w.alloc (.cells #[a, b] t)).cell? ⟨w.heap.size, 1, none⟩ = some b := by rw [World.cell?_alloc_new]; rfl
theorem lt_of_blk {w : World} {b : Nat} {o : Obj} (h : w.heap[b]? = some o) : b < w.heap.size := (Array.getElem?_eq_some_iff.1 h).1
theorem cell_of {w : World} {b : Nat} {cs : Array Value} {t : TypeId} {fr : Nat × Nat} (h : w.heap[b]? = some (.cells cs t fr)) (i : Nat) : w.cell? ⟨b, i, none⟩ = cs[i]? := by simp [World.cell?, h]
theorem frozen_of {w : World} {b : Nat} {cs : Array Value} {t : TypeId} (h : w.heap[b]? = some (.cells cs t (0, 0))) (i : Nat) : w.frozen? ⟨b, i, none⟩ = false := by simp [World.frozen?, h]
theorem blk_set {w : World} {b : Nat} {cs : Array Value} {t : TypeId} {fr : Nat × Nat} (h : w.heap[b]? = some (.cells cs t fr)) (i : Nat) (v : Value) : (w.setCell ⟨b, i, none⟩ v).heap[b]? = some (.cells (cs.setIfInBounds i v) t fr) := by
  simp [World.setCell, Array.getElem?_modify, h]
theorem blk_below {w w' : World} (hb : Below w.heap.size w w') {b : Nat} {o : Obj} (h : w.heap[b]? = some o) : w'.heap[b]? = some o := (hb.block b (lt_of_blk h)).trans h
theorem results_cell_tmp {P : Program} {fn : Func} {p q : Tmp} {ty : TypeId} (h : fn.results = #[.cell p ty, .tmp q]) (tmps : Array Value) (w : World) (g : Nat) (t : TypeId) (cs : Array Value) (fr : Nat × Nat) (d : TypeDesc) (v : Value)
    (hp : tmps.getD p undef = .pointer (some ⟨g, 0, none⟩)) (hq : tmps.getD q undef = v) (hg : w.heap[g]? = some (.cells cs t fr))
    (hu : P.underlying ty = some d) (hd : (match d with | .struct _ | .array _ _ => true | _ => false) = true) (hi : (P.info? ty).map (·.size) = some cs.size) :
    (results fn tmps).run P w = .ok (.tuple #[.agg cs, v]) w := by
  have hp' : tmps[p]?.getD undef = .pointer (some ⟨g, 0, none⟩) := by simpa using hp
  have hq' : tmps[q]?.getD undef = v := by simpa using hq
  simp [results, h, hp', hq', asAddr, run_loadVar_row w g t ty cs fr d hg hu hd hi]
theorem str_of {t : ByteArray} {l : By} (h : t.data.toList = l) : t = ⟨l.toArray⟩ := by
  subst h; rfl
/-- How long a text is. -/
def strSz : Value → Nat
  | .string t => t.size
  | _ => 0
theorem ext_list (t : ByteArray) (a b : Nat) : (t.extract a b).data.toList = (t.data.toList.take b).drop a := by
  rw [ByteArray.data_extract, Array.toList_extract, List.extract_eq_take_drop, List.drop_take]
theorem ext_from (t : ByteArray) (a b : Nat) (h : t.size ≤ b) : (t.extract a b).data.toList = t.data.toList.drop a := by
  rw [ext_list, List.take_of_length_le (by rw [size_list]; exact h)]
theorem ext_size (t : ByteArray) (a b : Nat) (h : t.size ≤ b) : (t.extract a b).size = t.size - a := by
  rw [← size_list, ext_from t a b h, List.length_drop, size_list]
end Go.Proofs.YtmnbepapgghdaaaGreat

namespace Go.Proofs.YtmnbepapgghdaaaGreat
open Go.RowKit

/-- What stands behind the first line's end. -/
def aftL : By → By
  | [] => []
  | c :: r => if c = 10 then r else aftL r
theorem ib_aft : ∀ (u : By), (Lib.indexByte u 10 = -1 ∧ aftL u = []) ∨ ∃ i : Nat, Lib.indexByte u 10 = (i : Int) ∧ i < u.length ∧ aftL u = u.drop (i + 1)
  | [] => .inl ⟨rfl, rfl⟩
  | c :: r => by
    by_cases h : c = 10
    · subst h
      exact .inr ⟨0, by simp [Lib.indexByte], by simp, by simp [aftL]⟩
    · have e : (c == 10) = false := by simpa using h
      rcases ib_aft r with ⟨h1, h2⟩ | ⟨i, h1, h2, h3⟩
      · exact .inl ⟨by simp [Lib.indexByte, e, h1], by simp [aftL, h, h2]⟩
      · refine .inr ⟨i + 1, ?_, by simp; omega, by simp [aftL, h, h3]⟩
        have q : ((i : Int) == -1) = false := by rw [beq_eq_false_iff_ne]; omega
        simp [Lib.indexByte, e, h1, q]
theorem gap_rem : ∀ (u : By) (n : Nat), gapG true n u = gapG false n (aftL u)
  | [], n => rfl
  | c :: r, n => by
    by_cases h : c = 10
    · simp [gapG, aftL, h]
    · simp only [gapG, aftL, h, if_false]; exact gap_rem r n
theorem aft_len : ∀ (u : By), (aftL u).length ≤ u.length
  | [] => Nat.le_refl _
  | c :: r => by
    unfold aftL
    split
    · simp
    · have := aft_len r; simp; omega
set_option maxRecDepth 100000 in
theorem indexByte_any (t : ByteArray) (w : World) : Calls Tryz.prog 123 #[.string t, .int .u8 10] w fun e w' => e = .returned (.int .i64 (Lib.indexByte t.data.toList 10)) ∧ w = w' := by
  go_enter Tryz.func123, Tryz.ntmps123
  go_wp2
  rw [run_callFunc_extern Tryz.func130 (by kernel_rfl) (by kernel_rfl) (by kernel_rfl) (e := Extern.BytealgIndexByte.indexByte) (by kernel_rfl), Lib.run_indexByteString]
  simp only [Result.andThen]
  rw [Oper.upon_value]
  go_wp2
  go_ret
  exact ⟨rfl, rfl⟩
set_option maxHeartbeats 1000000 in
theorem index_any (t : ByteArray) (w : World) (hne : (([10] : List UInt8) == t.toList) = false) :
    Calls Tryz.prog 111 #[.string t, .string ⟨#[10]⟩] w fun e w' => e = .returned (.int .i64 (Lib.indexByte t.data.toList 10)) ∧ w = w' := by
  have C := Lib.hid (indexByte_any t w)
  generalize Lib.indexByte t.data.toList 10 = v at *
  go_enter Tryz.func111, Tryz.ntmps111
  go_wp2_with fail
  refine C.out.mono ?_
  rintro e w' ⟨rfl, rfl⟩
  go_wp2
  go_ret
  exact ⟨rfl, rfl⟩
/-- What Cut answers: the text behind, and more. -/
def CutPost (w : World) (l : By) (e : Ending) (w' : World) : Prop := ∃ (b a : ByteArray) (f : Bool) (n : Nat), e = .returned (.tuple #[.string b, .string a, .bool f]) ∧ a.data.toList = l ∧ w' = w.drewN n
set_option maxHeartbeats 1000000 in
theorem scut_any (t : ByteArray) (w : World) (hs : t.size ≤ 4611686018427387904) (hne : (([10] : List UInt8) == t.toList) = false) :
    Calls Tryz.prog 92 #[.string t, .string ⟨#[10]⟩] w (CutPost w (aftL t.data.toList)) := by
  have C := Lib.hid (index_any t w hne)
  rcases ib_aft t.data.toList with ⟨h1, h2⟩ | ⟨i, h1, h2, h3⟩
  · rw [h1] at C
    have HA := Lib.hid h2
    clear h1 h2
    go_enter Tryz.func92, Tryz.ntmps92
    go_wp2_with fail
    refine C.out.mono ?_
    rintro e w' ⟨rfl, rfl⟩
    go_wp2
    go_ret3
    exact ⟨_, _, _, 0, rfl, HA.out.symm, rfl⟩
  · rw [h1] at C
    have HA := Lib.hid h3
    rw [size_list] at h2
    clear h1 h3
    have c1 : (0 : Int) ≤ (i : Int) := by omega
    have c2 : (i : Int) ≤ (t.size : Int) := by omega
    have c3 : (0 : Int) ≤ (i : Int) + 1 := by omega
    have c4 : (i : Int) + 1 ≤ (t.size : Int) := by omega
    go_enter Tryz.func92, Tryz.ntmps92
    go_wp2_with fail
    refine C.out.mono ?_
    rintro e w' ⟨rfl, rfl⟩
    go_wp2_with fail
    go_region
    go_wp2
    go_ret3
    exact ⟨_, _, _, 1, rfl, (by rw [HA.out]; exact ext_from _ _ _ (Nat.le_refl _)), rfl⟩
theorem cut_any (t : ByteArray) (w : World) (hs : t.size ≤ 4611686018427387904) (hne : (([10] : List UInt8) == t.toList) = false) :
    Calls Tryz.prog 68 #[.string t, .string ⟨#[10]⟩] w (CutPost w (aftL t.data.toList)) := by
  have C := Lib.hid (scut_any t w hs hne)
  generalize aftL t.data.toList = l at *
  go_enter Tryz.func68, Tryz.ntmps68
  go_wp2_with fail
  refine C.out.mono ?_
  rintro e w' ⟨b, a, f, n, rfl, ha, rfl⟩
  have HA := Lib.hid ha
  clear ha
  go_wp2
  go_ret3
  exact ⟨b, a, f, n, rfl, HA.out, rfl⟩
theorem gap_way {t : ByteArray} {n : Nat} {R : Nat × By} (h : gapG false n t.data.toList = R) (h2 : hk t.data.toList = 2) :
    ∃ h0 : 0 < t.size, (t[0].toNat : Int) = 37 ∧ gapG false n (aftL t.data.toList) = R ∧ (([10] : List UInt8) == t.toList) = false ∧ (aftL t.data.toList).length < t.size ∨ (t[0].toNat : Int) = 10 ∧ gapG false (n + 1) (t.data.toList.drop 1) = R ∨ ((t[0].toNat : Int) == 37) = false ∧ ((t[0].toNat : Int) == 10) = false ∧ gapG false n (t.data.toList.drop 1) = R := by
  have h0 : 0 < t.size := by
    rcases Nat.lt_or_ge 0 t.size with q | q
    · exact q
    · rw [str_none (by omega)] at h2; cases h2
  refine ⟨h0, ?_⟩
  have hd := drop_at t 0 h0
  rw [List.drop_zero] at hd
  rw [hd] at h h2
  have hk2 : kd t[0] (t.data.toList.drop (0 + 1)) = 2 := h2
  rcases kd_blank hk2 with e | e | ⟨e1, e2, e3⟩
  · left
    refine ⟨by rw [e]; rfl, ?_, ?_, ?_⟩
    · rw [hd, ← h]
      simp only [gapG, aftL, e]
      rw [gap_rem]; rfl
    · rw [ByteArray.toList_eq, hd, e, beq_eq_false_iff_ne]; intro q; simp at q
    · rw [hd, e]
      have := aft_len (t.data.toList.drop (0 + 1))
      rw [List.length_drop, size_list] at this
      simp only [aftL]
      rw [if_neg (by decide)]
      omega
  · right; left
    refine ⟨by rw [e]; rfl, ?_⟩
    rw [← h, e]
    simp [gapG]
  · right; right
    refine ⟨?_, ?_, ?_⟩
    · rw [beq_eq_false_iff_ne]; intro q; exact e1 (byte_lit (n := 37) q)
    · rw [beq_eq_false_iff_ne]; intro q; exact e2 (byte_lit (n := 10) q)
    · rw [← h]
      simp [gapG, e1, e2, e3]
def gapK (n : Nat) : Int := if 2 ≤ n then 3 else 2
theorem ret_tok {k : Int} {s u : By} {t : ByteArray} (h : t.data.toList = u) {k' : Int} (hk : k = k') : Ending.returned (.tuple #[.agg #[.int .i64 k, .string ⟨s.toArray⟩], .string t]) = .returned (.tuple #[.agg #[.int .i64 k', .string ⟨s.toArray⟩], .string ⟨u.toArray⟩]) := by
  rw [str_of h, hk]
/-- A token, and what stands behind it; old memory stays. -/
def TokPost (w : World) (k : Int) (s u : By) (e : Ending) (w' : World) : Prop := e = .returned (.tuple #[.agg #[.int .i64 k, .string ⟨s.toArray⟩], .string ⟨u.toArray⟩]) ∧ Below w.heap.size w w'
theorem tok_new (w : World) : (w.alloc (.cells #[.int .i64 0, .string ⟨#[]⟩] 89)).heap[w.heap.size]? = some (.cells #[.int .i64 0, .string ⟨#[]⟩] 89) := heap_alloc_new w _
set_option maxRecDepth 100000 in
set_option maxHeartbeats 1000000 in
theorem gap_any (s : ByteArray) (w : World) (hs : s.size ≤ 4611686018427387904) :
    Calls Tryz.prog 37 #[.string s] w (TokPost w (gapK (gapG false 0 s.data.toList).1) [] (gapG false 0 s.data.toList).2) := by
  generalize hg : gapG false 0 s.data.toList = R
  have HR := Lib.hid hg
  clear hg
  have hb0 := one_below w (.cells #[.int .i64 0, .string ⟨#[]⟩] 89)
  have hn0 := tok_new w
  go_enter Tryz.func37, Tryz.ntmps37
  go_wp2_with fail
  go_loopw [0, 4] (fun v0 v4 wr => ∃ (t : ByteArray) (n : Nat), v0 = .string t ∧ v4 = .int .i64 n ∧ n + t.size ≤ s.size ∧ Hid (gapG false n t.data.toList = R) ∧ Below w.heap.size w wr ∧ wr.heap[w.heap.size]? = some (.cells #[.int .i64 0, .string ⟨#[]⟩] 89)) (fun v0 _ _ => strSz v0)
  case atStart => exact ⟨s, 0, rfl, rfl, by omega, HR, hb0, hn0⟩
  case round =>
    clear hb0 hn0 HR
    obtain ⟨t, n, rfl, rfl, hn, HG, hb, hbk⟩ := hrel
    have C := begins_any t wr (by omega)
    by_cases h2 : hk t.data.toList = 2
    · rw [h2] at C
      obtain ⟨h0, hw⟩ := gap_way HG.out h2
      have CC := Lib.hid C
      have HBK := Lib.hid hbk
      clear C h2 HG hbk
      rcases hw with ⟨hx, h3, hne, hl⟩ | ⟨hx, h3⟩ | ⟨hx, hx2, h3⟩
      · have H3 := Lib.hid h3
        have CT := Lib.hid (cut_any t wr (by omega) hne)
        generalize aftL t.data.toList = u at *
        clear h3 hne
        go_wp2_with fail
        refine CC.out.mono ?_
        rintro e w' ⟨rfl, rfl⟩
        go_wp2_with fail
        refine CT.out.mono ?_
        rintro e w' ⟨b, a, f, m, rfl, ha, rfl⟩
        have hsz : a.size = u.length := by rw [← size_list, ha]
        have HA := Lib.hid ha
        have hb2 : Below w.heap.size w (wr.drewN m) := hb.trans ⟨rfl, rfl, rfl, Nat.le_refl _, fun _ _ => rfl⟩
        have hbk2 : Hid ((wr.drewN m).heap[w.heap.size]? = some (.cells #[.int .i64 0, .string ⟨#[]⟩] 89)) := HBK
        clear ha
        go_wp2
        go_roundw
        case rel => exact ⟨a, n, rfl, rfl, by omega, Lib.hid (by rw [HA.out]; exact H3.out), hb2, hbk2.out⟩
        case measure => simp only [strSz]; omega
      · have H3 := Lib.hid h3
        clear h3
        obtain ⟨a, ha⟩ : ∃ a, t.extract 1 t.size = a := ⟨_, rfl⟩
        have HL := Lib.hid (show a.data.toList = t.data.toList.drop 1 by rw [← ha]; exact ext_from _ _ _ (Nat.le_refl _))
        have hsz : a.size = t.size - 1 := by rw [← ha]; exact ext_size _ _ _ (Nat.le_refl _)
        go_wp2_with fail
        refine CC.out.mono ?_
        rintro e w' ⟨rfl, rfl⟩
        go_wp2
        go_roundw
        case rel => exact ⟨a, n + 1, rfl, by go_num, by omega, Lib.hid (by rw [HL.out]; exact H3.out), hb, HBK.out⟩
        case measure => simp only [strSz]; omega
      · have H3 := Lib.hid h3
        clear h3
        obtain ⟨a, ha⟩ : ∃ a, t.extract 1 t.size = a := ⟨_, rfl⟩
        have HL := Lib.hid (show a.data.toList = t.data.toList.drop 1 by rw [← ha]; exact ext_from _ _ _ (Nat.le_refl _))
        have hsz : a.size = t.size - 1 := by rw [← ha]; exact ext_size _ _ _ (Nat.le_refl _)
        go_wp2_with fail
        refine CC.out.mono ?_
        rintro e w' ⟨rfl, rfl⟩
        go_wp2
        go_roundw
        case rel => exact ⟨a, n, rfl, rfl, by omega, Lib.hid (by rw [HL.out]; exact H3.out), hb, HBK.out⟩
        case measure => simp only [strSz]; omega
    · have q2 : (hk t.data.toList == 2) = false := by simpa using h2
      have HE := Lib.hid (show R = (n, t.data.toList) by rw [← HG.out]; exact gap_none h2 n)
      clear h2 HG
      generalize hk t.data.toList = V at *
      have CC := Lib.hid C
      have c0 : wr.cell? ⟨w.heap.size, 0, none⟩ = some (.int .i64 0) := cell_of hbk 0
      have c1 : wr.cell? ⟨w.heap.size, 1, none⟩ = some (.string ⟨#[]⟩) := cell_of hbk 1
      have f0 := frozen_of hbk 0
      have f1 := frozen_of hbk 1
      have BK2 : Hid (((wr.setCell ⟨w.heap.size, 0, none⟩ (.int .i64 2)).setCell ⟨w.heap.size, 1, none⟩ (.string ⟨#[]⟩)).heap[w.heap.size]? = some (.cells #[.int .i64 2, .string ⟨#[]⟩] 89)) := blk_set (blk_set hbk 0 _) 1 _
      have BK3 : Hid (((wr.setCell ⟨w.heap.size, 0, none⟩ (.int .i64 3)).setCell ⟨w.heap.size, 1, none⟩ (.string ⟨#[]⟩)).heap[w.heap.size]? = some (.cells #[.int .i64 3, .string ⟨#[]⟩] 89)) := blk_set (blk_set hbk 0 _) 1 _
      have HB := Lib.hid hb
      clear C hbk hb
      by_cases hn2 : n < 2
      · go_wp2_with fail
        refine CC.out.mono ?_
        rintro e w' ⟨rfl, rfl⟩
        go_wp2
        refine bodyPost_ret (results_cell_tmp (P := Tryz.prog) rfl _ _ w.heap.size 89 #[.int .i64 2, .string ⟨#[]⟩] (0, 0) _ _ (by rfl) (by rfl) BK2.out Tryz.underlying89 rfl (by kernel_rfl)) rfl ?_
        rw [HE.out]
        exact ⟨ret_tok (s := []) rfl (by unfold gapK; rw [if_neg (by omega)]), (HB.out.setCell (Nat.le_refl _) _).setCell (Nat.le_refl _) _⟩
      · go_wp2_with fail
        refine CC.out.mono ?_
        rintro e w' ⟨rfl, rfl⟩
        go_wp2
        refine bodyPost_ret (results_cell_tmp (P := Tryz.prog) rfl _ _ w.heap.size 89 #[.int .i64 3, .string ⟨#[]⟩] (0, 0) _ _ (by rfl) (by rfl) BK3.out Tryz.underlying89 rfl (by kernel_rfl)) rfl ?_
        rw [HE.out]
        exact ⟨ret_tok (s := []) rfl (by unfold gapK; rw [if_pos (by omega)]), (HB.out.setCell (Nat.le_refl _) _).setCell (Nat.le_refl _) _⟩
end Go.Proofs.YtmnbepapgghdaaaGreat

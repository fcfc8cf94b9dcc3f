/-
  Contracts of lex.escaped and lex.Text: a text that has these tokens; old memory stays.
-/
import Derived.Test.YtcfhjnidcmenkaaG
namespace Go.Proofs.Ytcfhjnidcmenkaa
open Go.RowKit

theorem esc_int {c : UInt8} {x : Int} (hx : (c.toNat : Int) = x) (h : x = 32 ∨ x = 9 ∨ x = 10 ∨ x = 37 ∨ x = 123 ∨ x = 125 ∨ x = 92 ∨ x = 35) : escB c = true := by
  subst hx
  unfold escB
  rcases h with h | h | h | h | h | h | h | h
  · rw [byte_lit (n := 32) h]; rfl
  · rw [byte_lit (n := 9) h]; rfl
  · rw [byte_lit (n := 10) h]; rfl
  · rw [byte_lit (n := 37) h]; rfl
  · rw [byte_lit (n := 123) h]; rfl
  · rw [byte_lit (n := 125) h]; rfl
  · rw [byte_lit (n := 92) h]; rfl
  · rw [byte_lit (n := 35) h]; rfl
theorem esc_not {c : UInt8} {x : Int} (hx : (c.toNat : Int) = x) (h : x ≠ 32 ∧ x ≠ 9 ∧ x ≠ 10 ∧ x ≠ 37 ∧ x ≠ 123 ∧ x ≠ 125 ∧ x ≠ 92 ∧ x ≠ 35) : escB c = false := by
  subst hx
  obtain ⟨h1, h2, h3, h4, h5, h6, h7, h8⟩ := h
  unfold escB blk
  simp only [Bool.or_eq_false_iff, beq_eq_false_iff_ne]
  exact ⟨⟨⟨⟨⟨⟨⟨byte_ne (n := 32) h1 (by omega), byte_ne (n := 9) h2 (by omega)⟩, byte_ne (n := 10) h3 (by omega)⟩, byte_ne (n := 92) h7 (by omega)⟩, byte_ne (n := 123) h5 (by omega)⟩, byte_ne (n := 125) h6 (by omega)⟩, byte_ne (n := 37) h4 (by omega)⟩, byte_ne (n := 35) h8 (by omega)⟩
theorem safe_app (a b : By) : safeL (a ++ b) = safeL a ++ safeL b := by simp [safeL]
theorem safe_yes {c : UInt8} (h : escB c = true) : safeL [c] = [92, c] := by simp [safeL, h]
theorem safe_no {c : UInt8} (h : escB c = false) : safeL [c] = [c] := by simp [safeL, h]
theorem safe_len : ∀ (w : By), (safeL w).length ≤ 2 * w.length
  | [] => by simp [safeL]
  | c :: w => by
    have := safe_len w
    rw [safe_cons, List.length_append]
    have : (if escB c = true then [92, c] else [c]).length ≤ 2 := by split <;> simp
    simp only [List.length_cons]
    omega
theorem str_eq {a b : By} (h : a = b) : Value.string ⟨a.toArray⟩ = .string ⟨b.toArray⟩ := by rw [h]
theorem ret_eq {a b : Value} (h : a = b) : Ending.returned a = .returned b := by rw [h]
set_option maxRecDepth 100000 in
set_option maxHeartbeats 2000000 in
theorem escaped_any (s : ByteArray) (w : World) (hs : s.size ≤ 2000) :
    Calls Try.prog 29 #[.string s] w fun e w' => e = .returned (.string ⟨(safeL s.data.toList).toArray⟩) ∧ Below w.heap.size w w' := by
  have hb0 := Lib.IsBuilderF.of (Lib.fresh_isBuilder 52 5 w)
  go_enter Try.func29, Try.ntmps29
  go_wp2_with fail
  go_loopw [7] (fun i wr => ∃ (k : Nat) (l : By), k ≤ s.size ∧ i = .int .i64 k ∧ Hid (safeL (s.data.toList.take k) = l) ∧ l.length ≤ 2 * k ∧ Lib.IsBuilderF 52 5 w.heap.size w.heap.size (Lib.byteCells l) wr ∧ Below w.heap.size w wr) (fun i _ => s.size - (intOf i).toNat)
  case atStart => exact ⟨0, [], Nat.zero_le _, rfl, Lib.hid rfl, by simp, hb0, one_below _ _⟩
  case round =>
    clear hb0
    obtain ⟨k, l, hk, rfl, HL, hll, hbu, hb⟩ := hrel
    by_cases hlt : k < s.size
    · have hst := take_step s k hlt
      obtain ⟨x, hx⟩ : ∃ x : Int, (s[k].toNat : Int) = x := ⟨_, rfl⟩
      obtain ⟨l1, hl1⟩ : ∃ l1, l ++ [(92 : UInt8)] = l1 := ⟨_, rfl⟩
      obtain ⟨l2, hl2⟩ : ∃ l2, l1 ++ [s[k]] = l2 := ⟨_, rfl⟩
      obtain ⟨m, hm⟩ : ∃ m, l ++ [s[k]] = m := ⟨_, rfl⟩
      have hl1l : l1.length = l.length + 1 := by rw [← hl1]; simp
      have hl2l : l2.length = l.length + 2 := by rw [← hl2]; simp [hl1l]
      have hml : m.length = l.length + 1 := by rw [← hm]; simp
      have HX := Lib.hid hx
      rcases kd_cases x with h | h | h | h | h | h | h | h | h
      case inr.inr.inr.inr.inr.inr.inr.inr =>
        have HN := Lib.hid (show safeL (s.data.toList.take (k + 1)) = m by rw [hst, safe_app, safe_no (esc_not hx h), HL.out, hm])
        have C := Lib.hid (byte_any w.heap.size l m s[k] x wr hbu hx (by omega) hm hb.size)
        obtain ⟨h1, h2, h3, h4, h5, h6, h7, h8⟩ := h
        have d1 : (x == 32) = false := by simpa using h1
        have d2 : (x == 9) = false := by simpa using h2
        have d3 : (x == 10) = false := by simpa using h3
        have d4 : (x == 37) = false := by simpa using h4
        have d5 : (x == 123) = false := by simpa using h5
        have d6 : (x == 125) = false := by simpa using h6
        have d7 : (x == 92) = false := by simpa using h7
        have d8 : (x == 35) = false := by simpa using h8
        clear h1 h2 h3 h4 h5 h6 h7 h8 hst hl1 hl2 hm hbu HL hl1l hl2l
        go_wp2_with fail
        refine C.out.mono ?_
        rintro e w1 ⟨rfl, hbu1, hb1, _⟩
        have hb2 := hb.trans hb1
        clear C hb hb1
        go_wp2_with fail
        go_roundw
        case rel => exact ⟨k + 1, m, by omega, by go_num, HN, by omega, hbu1, hb2⟩
        case measure => simp [intOf]; omega
      all_goals
        have HN := Lib.hid (show safeL (s.data.toList.take (k + 1)) = l2 by rw [hst, safe_app, safe_yes (esc_int hx (by subst h; simp)), HL.out, ← hl2, ← hl1]; simp)
        have C1 := Lib.hid (byte_any w.heap.size l l1 92 92 wr hbu (by rfl) (by omega) hl1 hb.size)
        have HL2 := Lib.hid hl2
        subst h
        clear hst hl1 hl2 hm hbu HL hml
        go_wp2_with fail
        refine C1.out.mono ?_
        rintro e w1 ⟨rfl, hbu1, hb1, _⟩
        have hb2 := hb.trans hb1
        have C2 := Lib.hid (byte_any w.heap.size l1 l2 s[k] _ w1 hbu1 HX.out (by omega) HL2.out hb2.size)
        clear C1 hb hb1 hbu1
        go_wp2_with fail
        refine C2.out.mono ?_
        rintro e w3 ⟨rfl, hbu3, hb3, _⟩
        have hb4 := hb2.trans hb3
        clear C2 hb2 hb3
        go_wp2_with fail
        go_roundw
        case rel => exact ⟨k + 1, l2, by omega, by go_num, HN, by omega, hbu3, hb4⟩
        case measure => simp [intOf]; omega
    · have hfin := HL.out
      rw [List.take_of_length_le (by rw [size_list]; omega)] at hfin
      have HF := Lib.hid hfin
      have C := Lib.hid (Try.Builder_String_anyF w.heap.size w.heap.size l wr hbu hb.size)
      clear hfin HL hbu
      go_wp2_with fail
      refine C.out.mono ?_
      rintro e w' ⟨rfl, _, hb2, _⟩
      go_wp2
      go_ret
      exact ⟨ret_eq (str_eq HF.out.symm), hb.trans hb2⟩
end Go.Proofs.Ytcfhjnidcmenkaa

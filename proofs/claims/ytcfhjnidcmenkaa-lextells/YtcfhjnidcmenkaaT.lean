/-
  Contracts of the document's own answers: in, safe, Text.
-/
import Derived.Test.YtcfhjnidcmenkaaQ
namespace Go.Proofs.Ytcfhjnidcmenkaa
open Go.RowKit

theorem in_ways (x : Int) : x = 92 ∨ x = 123 ∨ x = 125 ∨ x = 37 ∨ x = 35 ∨ (x ≠ 92 ∧ x ≠ 123 ∧ x ≠ 125 ∧ x ≠ 37 ∧ x ≠ 35) := by omega
/-- The byte at a place of the five that ask for a backslash. -/
def sg (k : Nat) : Int := match k with | 0 => 92 | 1 => 123 | 2 => 125 | 3 => 37 | _ => 35
theorem in_list (x : Int) : inI x = ((List.range 5).any fun k => decide (x = sg k)) := by
  unfold inI
  rw [Bool.eq_iff_iff]
  simp [List.range_succ, sg]
def sgB : ByteArray := ⟨#[92, 123, 125, 37, 35]⟩
theorem sg_at (k : Nat) (h : k < sgB.size) : (sgB[k].toNat : Int) = sg k := by
  have h' : k < 5 := h
  match k, h' with
  | 0, _ => rfl
  | 1, _ => rfl
  | 2, _ => rfl
  | 3, _ => rfl
  | 4, _ => rfl
set_option maxHeartbeats 1000000 in
theorem rin_any (x : Int) (w : World) : Calls Try.prog 44 #[.int .u8 x, .string ⟨#[92, 123, 125, 37, 35]⟩] w fun e w' => e = .returned (.bool (inI x)) ∧ w = w' := by
  have HV := Lib.hid (show ∀ k, (∀ i, i < k → ¬ x = sg i) → k = 5 → false = inI x by
    intro k h hk
    subst hk
    rw [in_list, Bool.eq_iff_iff]
    simp
    exact fun i hi => h i hi)
  have HY := Lib.hid (show ∀ k, k < 5 → x = sg k → true = inI x by
    intro k hk h
    rw [in_list]
    symm
    simp
    exact ⟨k, hk, h⟩)
  have HS := Lib.hid sg_at
  rw [show (⟨#[92, 123, 125, 37, 35]⟩ : ByteArray) = sgB from rfl]
  have hz : sgB.size = 5 := rfl
  generalize inI x = V at *
  generalize sgB = t at *
  go_enter Try.func44, Try.ntmps44
  go_wp2
  go_loop [5] (fun i => ∃ k : Nat, k ≤ t.size ∧ i = .int .i64 k ∧ Hid (∀ i, i < k → ¬ x = sg i)) (fun i => t.size - (intOf i).toNat)
  case atStart => exact ⟨0, Nat.zero_le _, rfl, Lib.hid fun i hi => absurd hi (Nat.not_lt_zero _)⟩
  case round =>
    obtain ⟨k, hk, rfl, HA⟩ := hrel
    by_cases hlt : k < t.size
    · have hx := HS.out k hlt
      by_cases he : x = sg k
      · have q : (sg k == x) = true := by rw [he]; simp
        have HE := Lib.hid (HY.out k (by omega) he)
        clear he
        generalize sg k = y at *
        go_wp2
        go_ret
        exact ⟨ret_bool HE.out, rfl⟩
      · have q : (sg k == x) = false := by rw [beq_eq_false_iff_ne]; exact fun e => he e.symm
        have HN := Lib.hid (show ∀ i, i < k + 1 → ¬ x = sg i from fun i hi => by
          rcases Nat.lt_or_ge i k with h | h
          · exact HA.out i h
          · rw [show i = k by omega]; exact he)
        clear he
        generalize sg k = y at *
        go_wp2
        go_round
        case rel => exact ⟨k + 1, by omega, by go_num, HN⟩
        case measure => simp [intOf]; omega
    · have HE := Lib.hid (HV.out k HA.out (by omega))
      go_wp2
      go_ret
      exact ⟨ret_bool HE.out, rfl⟩
theorem esc_or {c : UInt8} {x : Int} (hx : (c.toNat : Int) = x) : escB c = (blkI x || inI x) := by
  subst hx
  rw [← blk_int]
  unfold escB inI
  rw [Bool.eq_iff_iff]
  simp only [Bool.or_eq_true, beq_iff_eq, decide_eq_true_eq]
  have e92 := byte_iff c 92 (by omega)
  have e123 := byte_iff c 123 (by omega)
  have e125 := byte_iff c 125 (by omega)
  have e37 := byte_iff c 37 (by omega)
  have e35 := byte_iff c 35 (by omega)
  have p1 : (c = 92) ↔ ((c.toNat : Int) = 92) := e92
  have p2 : (c = 123) ↔ ((c.toNat : Int) = 123) := e123
  have p3 : (c = 125) ↔ ((c.toNat : Int) = 125) := e125
  have p4 : (c = 37) ↔ ((c.toNat : Int) = 37) := e37
  have p5 : (c = 35) ↔ ((c.toNat : Int) = 35) := e35
  rw [p1, p2, p3, p4, p5]
  simp only [or_assoc]
set_option maxRecDepth 100000 in
set_option maxHeartbeats 2000000 in
theorem rsafe_any (s : ByteArray) (w : World) (hs : s.size ≤ 2000) :
    Calls Try.prog 32 #[.string s] w fun e w' => e = .returned (.string ⟨(safeL s.data.toList).toArray⟩) ∧ w = w' := by
  go_enter Try.func32, Try.ntmps32
  go_wp2
  go_loop [3, 4] (fun v i => ∃ (k : Nat) (l : By), k ≤ s.size ∧ i = .int .i64 k ∧ v = .string ⟨l.toArray⟩ ∧ Hid (safeL (s.data.toList.take k) = l) ∧ l.length ≤ 2 * k) (fun _ i => s.size - (intOf i).toNat)
  case atStart => exact ⟨0, [], Nat.zero_le _, rfl, rfl, Lib.hid rfl, by simp⟩
  case round =>
    obtain ⟨k, l, hk, rfl, rfl, HL, hll⟩ := hrel
    by_cases hlt : k < s.size
    · have hst := take_step s k hlt
      have hone := one_byte s k hlt
      obtain ⟨c, hc⟩ : ∃ c, s[k] = c := ⟨_, rfl⟩
      rw [hc] at hone hst
      obtain ⟨x, hx⟩ : ∃ x : Int, (s[k].toNat : Int) = x := ⟨_, rfl⟩
      have hes := esc_or (show (c.toNat : Int) = x by rw [← hc]; exact hx)
      have CB := Lib.hid (fun w => rblank_any x w)
      have CI := Lib.hid (fun w => rin_any x w)
      obtain ⟨l1, hl1⟩ : ∃ l1, l ++ [(92 : UInt8)] = l1 := ⟨_, rfl⟩
      obtain ⟨l2, hl2⟩ : ∃ l2, l1 ++ [c] = l2 := ⟨_, rfl⟩
      obtain ⟨m, hm⟩ : ∃ m, l ++ [c] = m := ⟨_, rfl⟩
      have hl1l : l1.length = l.length + 1 := by rw [← hl1]; simp
      have hl2l : l2.length = l.length + 2 := by rw [← hl2]; simp [hl1l]
      have hml : m.length = l.length + 1 := by rw [← hm]; simp
      have HS1 := Lib.hid (str_app hl1)
      have HS2 := Lib.hid (str_app hl2)
      have HSM := Lib.hid (str_app hm)
      have HS3 := Lib.hid (show Value.string ((({ data := l.toArray } : ByteArray) ++ { data := ([92] : By).toArray }) ++ { data := ([c] : By).toArray }) = Value.string { data := l2.toArray } from str_app (a := l ++ [92]) (b := [c]) (by rw [hl1, hl2]))
      have HN1 := Lib.hid (show escB c = true → safeL (s.data.toList.take (k + 1)) = l2 from fun h => by rw [hst, safe_app, safe_yes h, HL.out, ← hl2, ← hl1]; simp)
      have HN2 := Lib.hid (show escB c = false → safeL (s.data.toList.take (k + 1)) = m from fun h => by rw [hst, safe_app, safe_no h, HL.out, ← hm])
      rw [hes] at HN1 HN2
      clear hst hc hes hl1 hl2 hm HL
      cases hbk : blkI x
      · rw [hbk] at CB HN1 HN2
        cases hix : inI x
        · rw [hix] at CI HN1 HN2
          have HN := Lib.hid (HN2.out rfl)
          clear HN1 HN2 hbk hix
          go_wp2_with fail
          refine (CB.out _).mono ?_
          rintro e w' ⟨rfl, rfl⟩
          go_wp2_with fail
          refine (CI.out _).mono ?_
          rintro e w' ⟨rfl, rfl⟩
          go_wp2
          go_round
          case rel => exact ⟨k + 1, m, by omega, by go_num, HSM.out, HN, by omega⟩
          case measure => simp [intOf]; omega
        · rw [hix] at CI HN1 HN2
          have HN := Lib.hid (HN1.out rfl)
          clear HN1 HN2 hbk hix
          go_wp2_with fail
          refine (CB.out _).mono ?_
          rintro e w' ⟨rfl, rfl⟩
          go_wp2_with fail
          refine (CI.out _).mono ?_
          rintro e w' ⟨rfl, rfl⟩
          go_wp2
          go_round
          case rel => exact ⟨k + 1, l2, by omega, by go_num, HS3.out, HN, by omega⟩
          case measure => simp [intOf]; omega
      · rw [hbk] at CB HN1 HN2
        have HN := Lib.hid (HN1.out (Bool.true_or _))
        clear HN1 HN2 hbk
        go_wp2_with fail
        refine (CB.out _).mono ?_
        rintro e w' ⟨rfl, rfl⟩
        go_wp2
        go_round
        case rel => exact ⟨k + 1, l2, by omega, by go_num, HS3.out, HN, by omega⟩
        case measure => simp [intOf]; omega
    · have hfin := HL.out
      rw [List.take_of_length_le (by rw [size_list]; omega)] at hfin
      have HF := Lib.hid hfin
      clear hfin HL
      go_wp2
      go_ret
      exact ⟨ret_eq (str_eq HF.out.symm), rfl⟩
end Go.Proofs.Ytcfhjnidcmenkaa

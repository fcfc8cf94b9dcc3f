/-
  Contracts of the document's own answers of layer 7: Squeezed, Flat, Named.
-/
import Derived.Test.YtjneeikkakekjaaDoorMA
namespace Go.Proofs.YtjneeikkakekjaaDoor
open Go.RowKit

theorem last_take (s : ByteArray) (k : Nat) (h : k < s.size) : (s.data.toList.take (k + 1)).getLast? = some s[k] := by
  rw [take_step s k h]; simp
theorem sq_at0 (s : ByteArray) (h : 0 < s.size) : sqG true (s.data.toList.take (0 + 1)) = if s[0] = 32 then [] else [s[0]] := by
  rw [take_step s 0 h, List.take_zero, List.nil_append]
  by_cases h2 : s[0] = 32 <;> simp [sqG, h2]
theorem sq_at (s : ByteArray) (k : Nat) (h : k + 1 < s.size) : sqG true (s.data.toList.take (k + 1 + 1)) = sqG true (s.data.toList.take (k + 1)) ++ (if s[k + 1] = 32 then (if s[k] = 32 then [] else [32]) else [s[k + 1]]) := by
  rw [take_step s (k + 1) h, sq_step, last_take s k (by omega)]
  simp only [beq_iff_eq]
theorem trim_yes {l : By} {m : Nat} {x : UInt8} (hl : l.length = m + 1) (hx : l[m]? = some x) (h : x = 32) : trimB l = l.take m := by
  unfold trimB
  rw [List.getLast?_eq_getElem?, show l.length - 1 = m by omega, hx, if_pos (by rw [h]), List.dropLast_eq_take, show l.length - 1 = m by omega]
theorem trim_no {l : By} {m : Nat} {x : UInt8} (hl : l.length = m + 1) (hx : l[m]? = some x) (h : x ≠ 32) : trimB l = l := by
  unfold trimB
  rw [List.getLast?_eq_getElem?, show l.length - 1 = m by omega, hx, if_neg (by simpa using h)]
theorem int_ne {c : UInt8} {x : Int} (hx : (c.toNat : Int) = x) : (c = 32) ↔ x = 32 := by
  subst hx; exact byte_iff c 32 (by omega)
set_option maxRecDepth 100000 in
set_option maxHeartbeats 4000000 in
theorem rsq_any (s : ByteArray) (w : World) (hs : s.size ≤ 100000000) :
    Calls Tryd.prog 45 #[.string s] w fun e w' => e = .returned (.string ⟨(sqL s.data.toList).toArray⟩) ∧ w = w' := by
  go_enter Tryd.func45, Tryd.ntmps45
  go_wp2
  go_loop [3, 4] (fun v3 v4 => ∃ (k : Nat) (l : By), k ≤ s.size ∧ v4 = .int .i64 k ∧ v3 = .string ⟨l.toArray⟩ ∧ l.length ≤ k ∧ Hid (sqG true (s.data.toList.take k) = l)) (fun _ v4 => s.size - (intOf v4).toNat)
  case atStart => exact ⟨0, [], Nat.zero_le _, rfl, rfl, by simp, Lib.hid rfl⟩
  case round =>
    obtain ⟨k, l, hk, rfl, rfl, hll, HL⟩ := hrel
    by_cases hlt : k < s.size
    · have hone := one_byte s k hlt
      obtain ⟨c, hc⟩ : ∃ c, s[k] = c := ⟨_, rfl⟩
      obtain ⟨x, hx⟩ : ∃ x : Int, (s[k].toNat : Int) = x := ⟨_, rfl⟩
      have hcx := int_ne (show (c.toNat : Int) = x by rw [← hc]; exact hx)
      obtain ⟨m, hm⟩ : ∃ m, l ++ [c] = m := ⟨_, rfl⟩
      have hml : m.length = l.length + 1 := by rw [← hm]; simp
      have HS := Lib.hid (str_app hm)
      have i1 : (k : Int) < (s.size : Int) := by omega
      rw [hc] at hone
      by_cases h32 : x = 32
      · have c32 : c = 32 := hcx.2 h32
        rcases (show k = 0 ∨ ∃ j, k = j + 1 by cases k; exact .inl rfl; exact .inr ⟨_, rfl⟩) with h0 | ⟨j, hj⟩
        · have HN := Lib.hid (show sqG true (s.data.toList.take (k + 1)) = l by
            subst h0
            have := sq_at0 s hlt
            rw [hc, if_pos c32] at this
            rw [this]; exact HL.out)
          have q0 : ¬ (0 : Int) < (k : Int) := by omega
          have HK := Lib.hid h0
          subst h32
          clear h0 HL hc c32 hcx hm
          go_wp2
          go_round
          case rel => exact ⟨k + 1, l, by omega, by go_num, rfl, by omega, HN⟩
          case measure => simp [intOf]; omega
        · have hst : sqG true (s.data.toList.take (k + 1)) = l ++ (if s[j]'(by omega) = 32 then [] else [32]) := by
            subst hj
            rw [sq_at s j hlt, hc, if_pos c32, HL.out]
          have hjl : j < s.size := by omega
          obtain ⟨y, hy⟩ : ∃ y : Int, (s[j].toNat : Int) = y := ⟨_, rfl⟩
          have hdy := int_ne (c := s[j]) hy
          have q0 : (0 : Int) < (k : Int) := by omega
          have f0 : IntKind.i64.wrap ((k : Int) - 1) = (j : Int) := by rw [IntWalk.i64_in _ (by omega)]; omega
          have f1 : (k : Int) - 1 = (j : Int) := by omega
          have f2 : IntKind.i64.wrap (j : Int) = (j : Int) := IntWalk.i64_in _ (by omega)
          have i2 : (j : Int) < (s.size : Int) := by omega
          have HK := Lib.hid hj
          by_cases hy32 : y = 32
          · rw [if_pos (hdy.2 hy32), List.append_nil] at hst
            have HN := Lib.hid hst
            subst h32 hy32
            clear hj HL hc c32 hcx hm hst hdy
            go_wp2
            go_round
            case rel => exact ⟨k + 1, l, by omega, by go_num, rfl, by omega, HN⟩
            case measure => simp [intOf]; omega
          · rw [if_neg (fun e => hy32 (hdy.1 e)), ← c32, hm] at hst
            have HN := Lib.hid hst
            have q1 : (y != 32) = true := by simpa using hy32
            have q2 : (y == 32) = false := by simpa using hy32
            subst h32
            clear hj HL hc c32 hcx hm hst hdy hy32
            go_wp2
            go_round
            case rel => exact ⟨k + 1, m, by omega, by go_num, HS.out, by omega, HN⟩
            case measure => simp [intOf]; omega
      · have c32 : c ≠ 32 := fun e => h32 (hcx.1 e)
        have HN := Lib.hid (show sqG true (s.data.toList.take (k + 1)) = m by
          rcases (show k = 0 ∨ ∃ j, k = j + 1 by cases k; exact .inl rfl; exact .inr ⟨_, rfl⟩) with h0 | ⟨j, hj⟩
          · subst h0
            have := sq_at0 s hlt
            rw [hc, if_neg c32] at this
            rw [this, ← hm, ← HL.out]; rfl
          · subst hj
            rw [sq_at s j hlt, hc, if_neg c32, HL.out, hm])
        have q1 : (x != 32) = true := by simpa using h32
        have q2 : (x == 32) = false := by simpa using h32
        clear HL hc c32 hcx hm h32
        go_wp2
        go_round
        case rel => exact ⟨k + 1, m, by omega, by go_num, HS.out, by omega, HN⟩
        case measure => simp [intOf]; omega
    · have hfin := HL.out
      rw [List.take_of_length_le (by rw [size_list]; omega)] at hfin
      have i1 : ¬ (k : Int) < (s.size : Int) := by omega
      clear HL
      by_cases h0 : l.length = 0
      · have HF := Lib.hid (show sqL s.data.toList = [] by unfold sqL; rw [hfin, List.eq_nil_of_length_eq_zero h0]; rfl)
        have hl0 := List.eq_nil_of_length_eq_zero h0
        subst hl0
        clear hfin h0
        go_wp2
        go_ret
        exact ⟨ret_eq (str_eq HF.out.symm), rfl⟩
      · obtain ⟨m, hm⟩ : ∃ m, l.length = m + 1 := ⟨l.length - 1, by omega⟩
        obtain ⟨x, hx⟩ : ∃ x, l[m]? = some x := ⟨_, List.getElem?_eq_getElem (by omega)⟩
        have hml : m < (ByteArray.mk l.toArray).size := by show m < l.length; omega
        obtain ⟨y, hy⟩ : ∃ y : Int, ((ByteArray.mk l.toArray)[m].toNat : Int) = y := ⟨_, rfl⟩
        have hyx : (x.toNat : Int) = y := by
          rw [← hy]
          have : (ByteArray.mk l.toArray)[m] = x := List.getElem_eq_iff (h := by show m < l.length; omega) |>.2 hx
          rw [this]
        have hxy := int_ne hyx
        have q0 : (0 : Int) < (l.length : Int) := by omega
        have q0' : decide (0 < l.length) = true := by simp; omega
        have f0 : IntKind.i64.wrap ((l.length : Int) - 1) = (m : Int) := by rw [IntWalk.i64_in _ (by omega)]; omega
        have f1 : (l.length : Int) - 1 = (m : Int) := by omega
        have f2 : IntKind.i64.wrap (m : Int) = (m : Int) := IntWalk.i64_in _ (by omega)
        have i2 : (m : Int) < (l.length : Int) := by omega
        by_cases h32 : y = 32
        · have HF := Lib.hid (show sqL s.data.toList = l.take m by unfold sqL; rw [hfin]; exact trim_yes hm hx (hxy.2 h32))
          have hcut := cut_str l (l.take m) m (by omega) rfl
          have HM := Lib.hid hm
          generalize l.take m = v at *
          subst h32
          clear hfin h0 hm hx hyx hxy
          go_wp2
          go_ret
          exact ⟨ret_eq (str_eq HF.out.symm), rfl⟩
        · have HF := Lib.hid (show sqL s.data.toList = l by unfold sqL; rw [hfin]; exact trim_no hm hx (fun e => h32 (hxy.1 e)))
          have q2 : (y == 32) = false := by simpa using h32
          have HM := Lib.hid hm
          clear hfin h0 hm hx hyx hxy h32
          go_wp2
          go_ret
          exact ⟨ret_eq (str_eq HF.out.symm), rfl⟩
theorem raw_step {ts : List Tok} {k : Nat} {f : Tok} (h : ts[k]? = some f) : rawL (ts.take (k + 1)) = rawL (ts.take k) ++ rawT f := by
  rw [at_take h, raw_app]; simp [rawL]
theorem raw_one (f : Tok) (h : f.2.length ≤ 2000) : (rawT f).length ≤ 2000 := by
  unfold rawT
  split
  · exact h
  · split <;> simp
set_option maxRecDepth 100000 in
set_option maxHeartbeats 4000000 in
theorem rflat_any (A : Option Addr) (c : Nat) (ts : List Tok) (w : World) (hr : Rd w A ts) (hm : Hid (Mild ts)) (hl : ts.length ≤ 20000) :
    Calls Tryd.prog 24 #[.slice A ts.length c] w fun e w' => e = .returned (.string ⟨(flatL ts).toArray⟩) ∧ w = w' := by
  go_enter Tryd.func24, Tryd.ntmps24
  go_wp2
  go_loop [3, 4] (fun v i => ∃ (k : Nat) (l : By), k ≤ ts.length ∧ i = .int .i64 k ∧ v = .string ⟨l.toArray⟩ ∧ Hid (rawL (ts.take k) = l) ∧ l.length ≤ 2000 * k) (fun _ i => ts.length - (intOf i).toNat)
  case atStart => exact ⟨0, [], Nat.zero_le _, rfl, rfl, Lib.hid rfl, by simp⟩
  case round =>
    obtain ⟨k, l, hk, rfl, rfl, HL, hll⟩ := hrel
    by_cases hlt : k < ts.length
    · obtain ⟨b, o, rfl, hcell⟩ := hr (by omega)
      obtain ⟨f, hf⟩ : ∃ f, ts[k]? = some f := ⟨_, List.getElem?_eq_getElem hlt⟩
      obtain ⟨c1, c2⟩ := hcell k f hf
      have hz := hm.out f (List.mem_of_getElem? hf)
      have hst := raw_step hf
      have htl := raw_one f hz
      rw [HL.out] at hst
      obtain ⟨κ, z⟩ := f
      simp only at c1 c2 hz
      obtain ⟨m, hmm⟩ : ∃ m, l ++ rawT (κ, z) = m := ⟨_, rfl⟩
      rw [hmm] at hst
      have HN := Lib.hid hst
      have hml : m.length ≤ 2000 * (k + 1) := by rw [← hmm, List.length_append]; omega
      have i1 : (k : Int) < (ts.length : Int) := by omega
      have hll2 : l.length ≤ 90000000 := by omega
      clear hf hcell hst htl HL hll hr
      rcases (show κ = 1 ∨ κ = 2 ∨ κ = 3 ∨ (κ ≠ 1 ∧ κ ≠ 2 ∧ κ ≠ 3) by omega) with rfl | rfl | rfl | ⟨h1, h2, h3⟩
      · have HM := Lib.hid (str_app (show l ++ z = m by rw [← hmm]; rfl))
        clear hmm
        go_wp2
        go_round
        case rel => exact ⟨k + 1, m, by omega, by go_num, HM.out, HN, hml⟩
        case measure => simp [intOf]; omega
      · have HM := Lib.hid (str_app (show l ++ [32] = m by rw [← hmm]; rfl))
        clear hmm
        go_wp2
        go_round
        case rel => exact ⟨k + 1, m, by omega, by go_num, HM.out, HN, hml⟩
        case measure => simp [intOf]; omega
      · have HM := Lib.hid (str_app (show l ++ [32] = m by rw [← hmm]; rfl))
        clear hmm
        go_wp2
        go_round
        case rel => exact ⟨k + 1, m, by omega, by go_num, HM.out, HN, hml⟩
        case measure => simp [intOf]; omega
      · have HM := Lib.hid (show Value.string { data := l.toArray } = Value.string { data := m.toArray } by
          rw [← hmm]; unfold rawT; simp [h1, h2, h3])
        have d1 : (κ == 1) = false := by simpa using h1
        have d2 : (κ == 2) = false := by simpa using h2
        have d3 : (κ == 3) = false := by simpa using h3
        clear h1 h2 h3 hmm
        go_wp2
        go_round
        case rel => exact ⟨k + 1, m, by omega, by go_num, HM.out, HN, hml⟩
        case measure => simp [intOf]; omega
    · have hfin := HL.out
      rw [List.take_of_length_le (by omega)] at hfin
      have C := Lib.hid (fun w => rsq_any ⟨l.toArray⟩ w (by show l.length ≤ _; omega))
      rw [show (⟨l.toArray⟩ : ByteArray).data.toList = l from rfl] at C
      have HF := Lib.hid (show sqL l = flatL ts by unfold flatL; rw [hfin])
      generalize sqL l = v at *
      clear hfin HL
      go_wp2_with fail
      refine (C.out _).mono ?_
      rintro e w' ⟨rfl, rfl⟩
      go_wp2
      go_ret
      exact ⟨ret_eq (str_eq HF.out), rfl⟩
end Go.Proofs.YtjneeikkakekjaaDoor

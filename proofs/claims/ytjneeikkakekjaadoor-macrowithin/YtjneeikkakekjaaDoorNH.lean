/-
  strings.Trim of blanks; package macro: single, Flat.
-/
import Derived.Test.YtjneeikkakekjaaDoorNG
namespace Go.Proofs.YtjneeikkakekjaaDoor
open Go.RowKit

def trl (s : By) : By := s.dropWhile fun c => c == 32
def trr (s : By) : By := (trl s.reverse).reverse
theorem trl_rep : ∀ (m : Nat) (t : By), t.head? ≠ some 32 → trl (List.replicate m 32 ++ t) = t
  | 0, [], _ => rfl
  | 0, c :: t, h => by
    have : c ≠ 32 := fun e => h (by rw [e]; rfl)
    simp [trl, this]
  | m + 1, t, h => by
    have := trl_rep m t h
    unfold trl at this ⊢
    rw [List.replicate_succ, List.cons_append, List.dropWhile_cons]
    simpa using this
theorem trr_rep (m : Nat) (t : By) (h : t.getLast? ≠ some 32) : trr (t ++ List.replicate m 32) = t := by
  unfold trr
  rw [List.reverse_append, List.reverse_replicate, trl_rep m t.reverse (by rw [List.head?_reverse]; exact h), List.reverse_reverse]
theorem trl_ex : ∀ (s : By), (∃ m, s = List.replicate m 32 ++ trl s) ∧ (trl s).head? ≠ some 32
  | [] => ⟨⟨0, rfl⟩, by simp [trl]⟩
  | c :: s => by
    by_cases h : c = 32
    · obtain ⟨⟨m, hm⟩, h2⟩ := trl_ex s
      have e : trl (c :: s) = trl s := by unfold trl; rw [List.dropWhile_cons]; simp [h]
      rw [e]
      refine ⟨⟨m + 1, ?_⟩, h2⟩
      rw [h, List.replicate_succ, List.cons_append, ← hm]
    · have e : trl (c :: s) = c :: s := by unfold trl; rw [List.dropWhile_cons]; simp [h]
      rw [e]
      exact ⟨⟨0, rfl⟩, fun k => h (by simpa using k)⟩
theorem trr_ex (s : By) : (∃ m, s = trr s ++ List.replicate m 32) ∧ (trr s).getLast? ≠ some 32 := by
  obtain ⟨⟨m, hm⟩, h2⟩ := trl_ex s.reverse
  unfold trr
  refine ⟨⟨m, ?_⟩, by rw [List.getLast?_reverse]; exact h2⟩
  have := congrArg List.reverse hm
  rw [List.reverse_reverse, List.reverse_append, List.reverse_replicate] at this
  exact this
theorem trl_len (s : By) : (trl s).length ≤ s.length := List.dropWhile_suffix _ |>.length_le
theorem trr_len (s : By) : (trr s).length ≤ s.length := by
  unfold trr; rw [List.length_reverse]; have := trl_len s.reverse; rwa [List.length_reverse] at this
theorem sq_trims (s : By) : sqL s = sqG true (trl (trr s)) := by
  obtain ⟨h1, h2⟩ := trr_ex s
  exact sq_trim h1 h2 (trl_ex (trr s)).1
theorem trimLv_any (s : ByteArray) (w : World) (hs : s.size ≤ 100000000) :
    Calls Tryd.prog 68 #[.string s, .int .u8 32] w fun e w' => e = .returned (.string ⟨(trl s.data.toList).toArray⟩) ∧ w = w' :=
  (trimL_any s w hs).mono fun e w' ⟨t, he, ⟨m, hm⟩, h2, h3⟩ => ⟨by rw [he, hm, trl_rep m _ h2], h3⟩
theorem trimRv_any (s : ByteArray) (w : World) (hs : s.size ≤ 100000000) :
    Calls Tryd.prog 69 #[.string s, .int .u8 32] w fun e w' => e = .returned (.string ⟨(trr s.data.toList).toArray⟩) ∧ w = w' :=
  (trimR_any s w hs).mono fun e w' ⟨t, he, ⟨m, hm⟩, h2, h3⟩ => ⟨by rw [he, hm, trr_rep m _ h2], h3⟩
theorem quiet_same {P : Program} {f : FuncId} {args : Array Value} {w : World} {n : Nat} {v : Value}
    (h : Calls P f args (w.drewN n) fun e w' => e = .returned v ∧ w.drewN n = w') : Calls P f args (w.drewN n) fun e w'' => e = .returned v ∧ ∃ m, w'' = w.drewN m :=
  h.mono fun _ _ ⟨he, hm⟩ => ⟨he, n, hm.symm⟩
set_option maxRecDepth 100000 in
set_option maxHeartbeats 2000000 in
theorem trim_any (s : ByteArray) (w : World) (hs : s.size ≤ 100000000) :
    Calls Tryd.prog 56 #[.string s, .string ⟨#[32]⟩] w fun e w' => e = .returned (.string ⟨(trl (trr s.data.toList)).toArray⟩) ∧ ∃ n, w' = w.drewN n := by
  by_cases h0 : 0 < s.size
  · have C1 := Lib.hid (fun n => trimRv_any s (w.drewN n) hs)
    have hl : (⟨(trr s.data.toList).toArray⟩ : ByteArray).size ≤ 100000000 := by
      show (trr s.data.toList).length ≤ _
      have := trr_len s.data.toList
      rw [size_list] at this; omega
    have C2 := Lib.hid (fun n => trimLv_any ⟨(trr s.data.toList).toArray⟩ (w.drewN n) hl)
    rw [show (⟨(trr s.data.toList).toArray⟩ : ByteArray).data.toList = trr s.data.toList from rfl] at C2
    have q0 := str_some h0
    generalize trl (trr s.data.toList) = v at *
    generalize trr s.data.toList = u at *
    clear hl h0
    go_enter Tryd.func56, Tryd.ntmps56
    go_wp2_with fail
    go_quiet ((first | (go_at_call 69; exact quiet_same (C1.out _)) | (go_at_call 68; exact quiet_same (C2.out _))))
    go_wp2
    go_ret
    exact ⟨rfl, _, rfl⟩
  · obtain rfl : s = ByteArray.empty := ByteArray.ext (Array.eq_empty_of_size_eq_zero (by show s.size = 0; omega))
    clear h0
    go_enter Tryd.func56, Tryd.ntmps56
    go_wp2
    go_ret
    exact ⟨rfl, 0, rfl⟩
theorem list_str (t : By) (k : Nat) (h : k < (ByteArray.mk t.toArray).size) : (ByteArray.mk t.toArray)[k] = t[k]'h := rfl
set_option maxRecDepth 100000 in
set_option maxHeartbeats 4000000 in
theorem single_any (s : ByteArray) (w : World) (hs : s.size ≤ 100000000) :
    Calls Tryd.prog 43 #[.string s] w fun e w' => e = .returned (.string ⟨(sqL s.data.toList).toArray⟩) ∧ Below w.heap.size w w' := by
  have C := Lib.hid (trim_any s w hs)
  rw [sq_trims]
  have hhd := (trl_ex (trr s.data.toList)).2
  have htl : (trl (trr s.data.toList)).length ≤ 100000000 := by
    have h1 := trl_len (trr s.data.toList)
    have h2 := trr_len s.data.toList
    rw [size_list] at h2; omega
  obtain ⟨v, hv⟩ : ∃ v, trl (trr s.data.toList) = v := ⟨_, rfl⟩
  rw [hv] at C hhd htl ⊢
  clear hv
  obtain ⟨t, ht⟩ : ∃ t : ByteArray, (⟨v.toArray⟩ : ByteArray) = t := ⟨_, rfl⟩
  have htv : t.data.toList = v := by rw [← ht]
  have htz : t.size ≤ 100000000 := by rw [← ht]; exact htl
  rw [ht] at C
  rw [← htv] at hhd ⊢
  clear ht htv htl
  have HH := Lib.hid hhd
  clear hhd
  go_enter Tryd.func43, Tryd.ntmps43
  go_wp2_with fail
  refine C.out.mono ?_
  rintro e w0 ⟨rfl, n0, rfl⟩
  have hbw : Below w.heap.size w (w.drewN n0) := drewN_below w n0
  generalize w.drewN n0 = w1 at *
  have hb0 := Lib.IsBuilderF.of (Lib.fresh_isBuilder 89 5 w1)
  have hb1 := one_below w1 (.cells #[.pointer none, .slice none 0 0] 89)
  clear C
  go_wp2_with fail
  go_loopw [9] (fun i wr => ∃ (k : Nat) (l : By), k ≤ t.size ∧ i = .int .i64 k ∧ Hid (sqG true (t.data.toList.take k) = l) ∧ l.length ≤ k ∧ Lib.IsBuilderF 89 5 w1.heap.size w1.heap.size (Lib.byteCells l) wr ∧ Below w1.heap.size w1 wr) (fun i _ => t.size - (intOf i).toNat)
  case atStart => exact ⟨0, [], Nat.zero_le _, rfl, Lib.hid rfl, by simp, hb0, hb1⟩
  case round =>
    clear hb0 hb1
    obtain ⟨k, l, hk, rfl, HL, hll, hbu, hb⟩ := hrel
    by_cases hlt : k < t.size
    · obtain ⟨x, hx⟩ : ∃ x : Int, (t[k].toNat : Int) = x := ⟨_, rfl⟩
      have hcx := int_ne (c := t[k]) hx
      obtain ⟨m, hm⟩ : ∃ m, l ++ [t[k]] = m := ⟨_, rfl⟩
      have hml : m.length = l.length + 1 := by rw [← hm]; simp
      have i1 : (k : Int) < (t.size : Int) := by omega
      have hk0 : x = 32 → 0 < k := fun e => by
        rcases Nat.eq_zero_or_pos k with h | h
        · subst h
          refine absurd ?_ HH.out
          rw [head_list t hlt, hcx.2 e]; rfl
        · exact h
      have CB := Lib.hid (byte_any w1.heap.size l m t[k] x wr hbu hx (by omega) hm hb.size)
      by_cases h32 : x = 32
      · obtain ⟨j, hj⟩ : ∃ j, k = j + 1 := ⟨k - 1, by have := hk0 h32; omega⟩
        have c32 : t[k] = 32 := hcx.2 h32
        have hjl : j < t.size := by omega
        have hst : sqG true (t.data.toList.take (k + 1)) = l ++ (if t[j] = 32 then [] else [32]) := by
          subst hj
          rw [sq_at t j hlt, if_pos c32, HL.out]
        obtain ⟨y, hy⟩ : ∃ y : Int, (t[j].toNat : Int) = y := ⟨_, rfl⟩
        have hdy := int_ne (c := t[j]) hy
        have f0 : IntKind.i64.wrap ((k : Int) - 1) = (j : Int) := by rw [IntWalk.i64_in _ (by omega)]; omega
        have f1 : (k : Int) - 1 = (j : Int) := by omega
        have f2 : IntKind.i64.wrap (j : Int) = (j : Int) := IntWalk.i64_in _ (by omega)
        have i2 : (j : Int) < (t.size : Int) := by omega
        have HJ := Lib.hid hj
        have HBU := Lib.hid hbu
        by_cases hy32 : y = 32
        · rw [if_pos (hdy.2 hy32), List.append_nil] at hst
          have HN := Lib.hid hst
          subst h32 hy32
          clear hj hcx hm hst hdy c32 hk0 CB hbu HL
          go_wp2
          go_roundw
          case rel => exact ⟨k + 1, l, by omega, by go_num, HN, by omega, HBU.out, hb⟩
          case measure => simp [intOf]; omega
        · rw [if_neg (fun e => hy32 (hdy.1 e)), ← c32, hm] at hst
          have HN := Lib.hid hst
          have q2 : (y == 32) = false := by simpa using hy32
          subst h32
          clear hj hcx hm hst hdy c32 hk0 hy32 hbu HL HBU
          go_wp2_with fail
          refine CB.out.mono ?_
          rintro e w2 ⟨rfl, hbu2, hb2, _⟩
          have hb3 := hb.trans hb2
          clear CB hb hb2
          go_wp2
          go_roundw
          case rel => exact ⟨k + 1, m, by omega, by go_num, HN, by omega, hbu2, hb3⟩
          case measure => simp [intOf]; omega
      · have c32 : t[k] ≠ 32 := fun e => h32 (hcx.1 e)
        have HN := Lib.hid (show sqG true (t.data.toList.take (k + 1)) = m by
          rcases (show k = 0 ∨ ∃ j, k = j + 1 by cases k; exact .inl rfl; exact .inr ⟨_, rfl⟩) with h0 | ⟨j, hj⟩
          · subst h0
            have := sq_at0 t hlt
            rw [if_neg c32] at this
            rw [this, ← hm, ← HL.out]; rfl
          · subst hj
            rw [sq_at t j hlt, if_neg c32, HL.out, hm])
        have q2 : (x == 32) = false := by simpa using h32
        clear HL hcx hm h32 hk0 c32 hbu
        go_wp2_with fail
        refine CB.out.mono ?_
        rintro e w2 ⟨rfl, hbu2, hb2, _⟩
        have hb3 := hb.trans hb2
        clear CB hb hb2
        go_wp2
        go_roundw
        case rel => exact ⟨k + 1, m, by omega, by go_num, HN, by omega, hbu2, hb3⟩
        case measure => simp [intOf]; omega
    · have hfin := HL.out
      rw [List.take_of_length_le (by rw [size_list]; omega)] at hfin
      have HF := Lib.hid hfin
      have i1 : ¬ (k : Int) < (t.size : Int) := by omega
      have CS := Lib.hid (Tryd.Builder_String_anyF w1.heap.size w1.heap.size l wr hbu hb.size)
      clear hfin HL hbu
      go_wp2_with fail
      refine CS.out.mono ?_
      rintro e w' ⟨rfl, _, hb2, _⟩
      go_wp2
      go_ret
      exact ⟨ret_eq (str_eq HF.out.symm), bch hbw (hb.trans hb2)⟩
set_option maxRecDepth 100000 in
set_option maxHeartbeats 4000000 in
theorem flat_any (A : Option Addr) (c : Nat) (ts : List Tok) (w : World) (hr : Rd w A ts) (hm : Hid (Mild ts)) (hl : ts.length ≤ 20000) :
    Calls Tryd.prog 23 #[.slice A ts.length c] w fun e w' => e = .returned (.string ⟨(flatL ts).toArray⟩) ∧ Below w.heap.size w w' := by
  have hb0 := Lib.IsBuilderF.of (Lib.fresh_isBuilder 89 5 w)
  go_enter Tryd.func23, Tryd.ntmps23
  go_wp2_with fail
  go_loopw [8] (fun i wr => ∃ (k : Nat) (l : By), k ≤ ts.length ∧ i = .int .i64 k ∧ Hid (rawL (ts.take k) = l) ∧ l.length ≤ 2000 * k ∧ Lib.IsBuilderF 89 5 w.heap.size w.heap.size (Lib.byteCells l) wr ∧ Below w.heap.size w wr) (fun i _ => ts.length - (intOf i).toNat)
  case atStart => exact ⟨0, [], Nat.zero_le _, rfl, Lib.hid rfl, by simp, hb0, one_below _ _⟩
  case round =>
    clear hb0
    obtain ⟨k, l, hk, rfl, HL, hll, hbu, hb⟩ := hrel
    by_cases hlt : k < ts.length
    · obtain ⟨b, o, rfl, hcell⟩ := (hr.below hb) (by omega)
      obtain ⟨f, hf⟩ : ∃ f, ts[k]? = some f := ⟨_, List.getElem?_eq_getElem hlt⟩
      obtain ⟨c1, c2⟩ := hcell k f hf
      have hz := hm.out f (List.mem_of_getElem? hf)
      have hst := raw_step hf
      have htl := raw_one f hz
      rw [HL.out] at hst
      obtain ⟨κ, z⟩ := f
      simp only at c1 c2 hz
      obtain ⟨m, hmm⟩ : ∃ m, l ++ rawT (κ, z) = m := ⟨_, rfl⟩
      rw [hmm] at hst
      have HN := Lib.hid hst
      have hml : m.length ≤ 2000 * (k + 1) := by rw [← hmm, List.length_append]; omega
      have i1 : (k : Int) < (ts.length : Int) := by omega
      have o1 := one_below wr (.cells #[.int .i64 κ, .string ⟨z.toArray⟩] 41)
      have HS1 := Lib.hid (new_snd wr (.int .i64 κ) (.string ⟨z.toArray⟩) 41)
      have HS0 := Lib.hid (new_fst wr (.int .i64 κ) (.string ⟨z.toArray⟩) 41)
      have hsz : (wr.alloc (.cells #[.int .i64 κ, .string ⟨z.toArray⟩] 41)).heap.size = wr.heap.size + 1 := by simp
      have HSZ := Lib.hid hsz
      have HB1 := Lib.hid (bch hb o1)
      have HBU := Lib.hid (IsBuilderF_below hbu o1)
      have hll2 : l.length ≤ 90000000 := by omega
      have HMM := Lib.hid hmm
      clear hf hcell hst htl hbu HL hll hmm hb o1
      by_cases h1 : κ = 1
      · have C1 := is1_any κ ⟨z.toArray⟩ 1 3 true (decide_eq_true h1) (wr.alloc (.cells #[.int .i64 κ, .string ⟨z.toArray⟩] 41))
        rw [hsz] at C1
        have CC := Lib.hid C1
        have HM := Lib.hid (show l ++ z = m by rw [← HMM.out]; simp [rawT, h1])
        clear C1 hsz h1 HMM
        go_wp2_with fail
        refine CC.out.mono ?_
        rintro e w1 ⟨rfl, hb1⟩
        rw [← HSZ.out] at hb1
        have s1 := cell_below hb1 HS1.out
        have HB2 := Lib.hid (bch HB1.out hb1)
        have C2 := Lib.hid (write_any w.heap.size l z m w1 (IsBuilderF_below HBU.out hb1) (by omega) (by omega) HM.out HB2.out.size)
        clear hb1 HB1 HBU CC HS1 HS0 c1 c2
        go_wp2_with fail
        refine C2.out.mono ?_
        rintro e w2 ⟨rfl, hbu2, hb2, _⟩
        have hb3 := HB2.out.trans hb2
        clear C2 HB2 hb2
        go_wp2
        go_roundw
        case rel => exact ⟨k + 1, m, by omega, by go_num, HN, hml, hbu2, hb3⟩
        case measure => simp [intOf]; omega
      · have C1 := is1_any κ ⟨z.toArray⟩ 1 3 false (decide_eq_false h1) (wr.alloc (.cells #[.int .i64 κ, .string ⟨z.toArray⟩] 41))
        rw [hsz] at C1
        have CC := Lib.hid C1
        by_cases h23 : κ = 2 ∨ κ = 3
        · have HM := Lib.hid (show l ++ [32] = m by rw [← HMM.out]; simp [rawT, h1, h23])
          have HD := Lib.hid (decide_eq_true h23)
          clear C1 hsz h1 HMM h23
          go_wp2_with fail
          refine CC.out.mono ?_
          rintro e w1 ⟨rfl, hb1⟩
          rw [← HSZ.out] at hb1
          have s1 := cell_below hb1 HS1.out
          have s0 := cell_below hb1 HS0.out
          have HB2 := Lib.hid (bch HB1.out hb1)
          have HBU2 := Lib.hid (IsBuilderF_below HBU.out hb1)
          have C2 := Lib.hid (is2_any κ ⟨z.toArray⟩ 2 3 3 true HD.out w1)
          clear hb1 HB1 HBU CC HS1 HS0 c1 c2
          go_wp2_with fail
          refine C2.out.mono ?_
          rintro e w2 ⟨rfl, hb2⟩
          have HB3 := Lib.hid (bch HB2.out hb2)
          have C3 := Lib.hid (byte_any w.heap.size l m 32 32 w2 (IsBuilderF_below HBU2.out hb2) (by rfl) (by omega) HM.out HB3.out.size)
          clear HB2 HBU2 hb2 C2 s0 s1
          go_wp2_with fail
          refine C3.out.mono ?_
          rintro e w3 ⟨rfl, hbu3, hb3, _⟩
          have hb4 := HB3.out.trans hb3
          clear C3 HB3 hb3
          go_wp2
          go_roundw
          case rel => exact ⟨k + 1, m, by omega, by go_num, HN, hml, hbu3, hb4⟩
          case measure => simp [intOf]; omega
        · have HM := Lib.hid (show m = l by rw [← HMM.out]; simp [rawT, h1, h23])
          have HD := Lib.hid (decide_eq_false h23)
          clear C1 hsz h1 HMM h23
          go_wp2_with fail
          refine CC.out.mono ?_
          rintro e w1 ⟨rfl, hb1⟩
          rw [← HSZ.out] at hb1
          have s1 := cell_below hb1 HS1.out
          have s0 := cell_below hb1 HS0.out
          have HB2 := Lib.hid (bch HB1.out hb1)
          have HBU2 := Lib.hid (IsBuilderF_below HBU.out hb1)
          have C2 := Lib.hid (is2_any κ ⟨z.toArray⟩ 2 3 3 false HD.out w1)
          clear hb1 HB1 HBU CC HS1 HS0 c1 c2
          go_wp2_with fail
          refine C2.out.mono ?_
          rintro e w2 ⟨rfl, hb2⟩
          have hb3 := bch HB2.out hb2
          have hbu3 := IsBuilderF_below HBU2.out hb2
          clear HB2 HBU2 hb2 C2 s0 s1
          go_wp2
          go_roundw
          case rel => exact ⟨k + 1, m, by omega, by go_num, HN, hml, by rw [HM.out]; exact hbu3, hb3⟩
          case measure => simp [intOf]; omega
    · have hfin := HL.out
      rw [List.take_of_length_le (by omega)] at hfin
      have HF := Lib.hid (show sqL l = flatL ts by unfold flatL; rw [hfin])
      have i1 : ¬ (k : Int) < (ts.length : Int) := by omega
      have CS := Lib.hid (Tryd.Builder_String_anyF w.heap.size w.heap.size l wr hbu hb.size)
      have C := Lib.hid (fun w => single_any ⟨l.toArray⟩ w (by show l.length ≤ _; omega))
      rw [show (⟨l.toArray⟩ : ByteArray).data.toList = l from rfl] at C
      generalize sqL l = v at *
      clear hfin HL hbu
      go_wp2_with fail
      refine CS.out.mono ?_
      rintro e w1 ⟨rfl, _, hb2, _⟩
      have hb3 := hb.trans hb2
      clear CS hb hb2
      go_wp2_with fail
      refine (C.out _).mono ?_
      rintro e w2 ⟨rfl, hb4⟩
      go_wp2
      go_ret
      exact ⟨ret_eq (str_eq HF.out), bch hb3 hb4⟩
end Go.Proofs.YtjneeikkakekjaaDoor

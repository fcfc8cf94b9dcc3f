/-
  strings.Trim of blanks; package macro: single, Flat.
  strings.Trim of blanks; package macro: single, Flat.
  Package items: meant.
  The contract of lex.Lex: a text's tokens, in a row of the call's own.
-/
import Derived.Test.YtckldeabbkdbjaaDoorK06
import Derived.Test.YtckldeabbkdbjaaDoorK10
import Derived.Test.YtckldeabbkdbjaaDoorK13
import Derived.Test.YtckldeabbkdbjaaDoorK04
import Derived.WalkMore
namespace Go.Proofs.YtckldeabbkdbjaaDoor
open Go.RowKit

theorem sq_left : ∀ (m : Nat) (t : By), sqG true (List.replicate m 32 ++ t) = sqG true t
  | 0, t => by simp
  | m + 1, t => by rw [List.replicate_succ, List.cons_append, sqG, if_pos rfl, if_pos rfl]; exact sq_left m t
theorem sq_right : ∀ (n : Nat) (t : By), sqL (t ++ List.replicate n 32) = sqL t
  | 0, t => by simp
  | n + 1, t => by
    rw [List.replicate_succ', ← List.append_assoc, sq_join, wd_app, show wdG [] ([] : By) = [] from rfl, List.append_nil, ← sq_join]
    exact sq_right n t
theorem sq_last {t : By} (h : t.getLast? ≠ some 32) : trimB (sqG true t) = sqG true t := by
  rcases List.eq_nil_or_concat t with rfl | ⟨u, c, rfl⟩
  · rfl
  · have hc : c ≠ 32 := fun e => h (by rw [e]; simp)
    rw [List.concat_eq_append, sq_step, if_neg hc]
    unfold trimB
    rw [List.getLast?_append]
    simp [hc]
theorem sq_trim {s t u : By} (h1 : ∃ n, s = u ++ List.replicate n 32) (h2 : u.getLast? ≠ some 32) (h3 : ∃ m, u = List.replicate m 32 ++ t) : sqL s = sqG true t := by
  obtain ⟨n, rfl⟩ := h1
  obtain ⟨m, rfl⟩ := h3
  rw [sq_right]
  unfold sqL
  rw [sq_last h2, sq_left]
/-- A text without blanks at one end. -/
def TrimL (w : World) (s : By) (e : Ending) (w' : World) : Prop := ∃ t : ByteArray, e = .returned (.string t) ∧ (∃ m, s = List.replicate m 32 ++ t.data.toList) ∧ t.data.toList.head? ≠ some 32 ∧ w = w'
def TrimR (w : World) (s : By) (e : Ending) (w' : World) : Prop := ∃ t : ByteArray, e = .returned (.string t) ∧ (∃ m, s = t.data.toList ++ List.replicate m 32) ∧ t.data.toList.getLast? ≠ some 32 ∧ w = w'
theorem head_list (t : ByteArray) (h : 0 < t.size) : t.data.toList = t[0] :: t.data.toList.drop 1 := by
  have e : t.data.toList[0]? = some t[0] := List.getElem?_eq_getElem (by rw [size_list]; exact h)
  have := drop_one e
  simpa using this
set_option maxRecDepth 100000 in
set_option maxHeartbeats 2000000 in
theorem trimL_any (s : ByteArray) (w : World) (hs : s.size ≤ 100000000) :
    Calls Tryd.prog 74 #[.string s, .int .u8 32] w (TrimL w s.data.toList) := by
  go_enter Tryd.func74, Tryd.ntmps74
  go_wp2
  go_loop [0] (fun v => ∃ (m : Nat) (t : ByteArray), v = .string t ∧ t.size ≤ 100000000 ∧ Hid (s.data.toList = List.replicate m 32 ++ t.data.toList)) (fun v => strSz v)
  case atStart => exact ⟨0, s, rfl, hs, Lib.hid (by simp)⟩
  case round =>
    obtain ⟨m, t, rfl, ht, HT⟩ := hrel
    by_cases h0 : 0 < t.size
    · have hh := head_list t h0
      obtain ⟨x, hx⟩ : ∃ x : Int, (t[0].toNat : Int) = x := ⟨_, rfl⟩
      have i1 : (0 : Int) < (t.size : Int) := by omega
      by_cases h32 : x = 32
      · have e32 : t[0] = 32 := (int_ne hx).2 h32
        have hex := ext_from t 1 t.size (Nat.le_refl _)
        have hez := ext_size t 1 t.size (Nat.le_refl _)
        have HN := Lib.hid (show s.data.toList = List.replicate (m + 1) 32 ++ (t.extract 1 t.size).data.toList by rw [hex, HT.out, List.replicate_succ', List.append_assoc]; congr 1; rw [hh, e32]; rfl)
        have HEZ := Lib.hid hez
        subst h32
        clear hh e32 hex HT hez
        go_wp2
        go_round
        case rel => exact ⟨m + 1, _, rfl, by rw [HEZ.out]; omega, HN⟩
        case measure => simp only [strSz]; rw [HEZ.out]; omega
      · have q : (x == 32) = false := by simpa using h32
        have HH := Lib.hid (show t.data.toList.head? ≠ some 32 by rw [hh]; intro e; exact h32 ((int_ne hx).1 (Option.some.inj e)))
        clear hh h32
        go_wp2
        go_ret
        exact ⟨t, rfl, ⟨m, HT.out⟩, HH.out, rfl⟩
    · have i1 : ¬ (0 : Int) < (t.size : Int) := by omega
      have HH := Lib.hid (show t.data.toList.head? ≠ some 32 by
        have : t.data.toList = [] := List.eq_nil_of_length_eq_zero (by rw [size_list]; omega)
        rw [this]; simp)
      have z0 : t.size = 0 := by omega
      go_wp2
      go_ret
      exact ⟨t, rfl, ⟨m, HT.out⟩, HH.out, rfl⟩
theorem last_list (t : ByteArray) (m : Nat) (h : t.size = m + 1) : t.data.toList = t.data.toList.take m ++ [t[m]'(by omega)] := by
  have := take_step t m (by omega)
  rwa [List.take_of_length_le (by rw [size_list]; omega)] at this
set_option maxRecDepth 100000 in
set_option maxHeartbeats 2000000 in
theorem trimR_any (s : ByteArray) (w : World) (hs : s.size ≤ 100000000) :
    Calls Tryd.prog 75 #[.string s, .int .u8 32] w (TrimR w s.data.toList) := by
  go_enter Tryd.func75, Tryd.ntmps75
  go_wp2
  go_loop [0] (fun v => ∃ (m : Nat) (t : ByteArray), v = .string t ∧ t.size ≤ 100000000 ∧ Hid (s.data.toList = t.data.toList ++ List.replicate m 32)) (fun v => strSz v)
  case atStart => exact ⟨0, s, rfl, hs, Lib.hid (by simp)⟩
  case round =>
    obtain ⟨m, t, rfl, ht, HT⟩ := hrel
    by_cases h0 : 0 < t.size
    · obtain ⟨p, hp⟩ : ∃ p, t.size = p + 1 := ⟨t.size - 1, by omega⟩
      have hpl : p < t.size := by omega
      have hh := last_list t p hp
      obtain ⟨x, hx⟩ : ∃ x : Int, (t[p].toNat : Int) = x := ⟨_, rfl⟩
      have i1 : (0 : Int) < (t.size : Int) := by omega
      have f0 : IntKind.i64.wrap ((t.size : Int) - 1) = (p : Int) := by rw [IntWalk.i64_in _ (by omega)]; omega
      have f1 : (t.size : Int) - 1 = (p : Int) := by omega
      have f2 : IntKind.i64.wrap (p : Int) = (p : Int) := IntWalk.i64_in _ (by omega)
      have i2 : (p : Int) < (t.size : Int) := by omega
      have i3 : (p : Int) ≤ (t.size : Int) := by omega
      have HP := Lib.hid hp
      by_cases h32 : x = 32
      · have e32 : t[p] = 32 := (int_ne hx).2 h32
        have hex := ext_list t 0 p
        rw [List.drop_zero] at hex
        have hez : (t.extract 0 p).size = p := by rw [← size_list, hex, List.length_take, size_list]; omega
        have HN := Lib.hid (show s.data.toList = (t.extract 0 p).data.toList ++ List.replicate (m + 1) 32 by
          rw [hex, HT.out, List.replicate_succ, List.append_cons]
          congr 1
          rw [← e32]; exact hh)
        have HEZ := Lib.hid hez
        subst h32
        clear hh e32 hex HT hez hp
        go_wp2
        go_round
        case rel => exact ⟨m + 1, _, rfl, by rw [HEZ.out]; omega, HN⟩
        case measure => simp only [strSz]; rw [HEZ.out]; omega
      · have q : (x == 32) = false := by simpa using h32
        have HH := Lib.hid (show t.data.toList.getLast? ≠ some 32 by rw [hh, List.getLast?_concat]; intro e; exact h32 ((int_ne hx).1 (Option.some.inj e)))
        clear hh h32 hp
        go_wp2
        go_ret
        exact ⟨t, rfl, ⟨m, HT.out⟩, HH.out, rfl⟩
    · have i1 : ¬ (0 : Int) < (t.size : Int) := by omega
      have HH := Lib.hid (show t.data.toList.getLast? ≠ some 32 by
        have : t.data.toList = [] := List.eq_nil_of_length_eq_zero (by rw [size_list]; omega)
        rw [this]; simp)
      have z0 : t.size = 0 := by omega
      go_wp2
      go_ret
      exact ⟨t, rfl, ⟨m, HT.out⟩, HH.out, rfl⟩
end Go.Proofs.YtckldeabbkdbjaaDoor

namespace Go.Proofs.YtckldeabbkdbjaaDoor
open Go.RowKit

def trl (s : By) : By := s.dropWhile fun c => c == 32
def trr (s : By) : By := (trl s.reverse).reverse
theorem trl_rep : ∀ (m : Nat) (t : By), t.head? ≠ some 32 → trl (List.replicate m 32 ++ t) = t
  | 0, [], _ => rfl
  | 0, c :: t, h => by
    have : c ≠ 32 := fun e => h (by rw [e]; rfl)
    simp [trl, this]
  | m + 1, t, h => by
    have := trl_rep m t h
    unfold trl at this ⊢
    rw [List.replicate_succ, List.cons_append, List.dropWhile_cons]
    simpa using this
theorem trr_rep (m : Nat) (t : By) (h : t.getLast? ≠ some 32) : trr (t ++ List.replicate m 32) = t := by
  unfold trr
  rw [List.reverse_append, List.reverse_replicate, trl_rep m t.reverse (by rw [List.head?_reverse]; exact h), List.reverse_reverse]
theorem trl_ex : ∀ (s : By), (∃ m, s = List.replicate m 32 ++ trl s) ∧ (trl s).head? ≠ some 32
  | [] => ⟨⟨0, rfl⟩, by simp [trl]⟩
  | c :: s => by
    by_cases h : c = 32
    · obtain ⟨⟨m, hm⟩, h2⟩ := trl_ex s
      have e : trl (c :: s) = trl s := by unfold trl; rw [List.dropWhile_cons]; simp [h]
      rw [e]
      refine ⟨⟨m + 1, ?_⟩, h2⟩
      rw [h, List.replicate_succ, List.cons_append, ← hm]
    · have e : trl (c :: s) = c :: s := by unfold trl; rw [List.dropWhile_cons]; simp [h]
      rw [e]
      exact ⟨⟨0, rfl⟩, fun k => h (by simpa using k)⟩
theorem trr_ex (s : By) : (∃ m, s = trr s ++ List.replicate m 32) ∧ (trr s).getLast? ≠ some 32 := by
  obtain ⟨⟨m, hm⟩, h2⟩ := trl_ex s.reverse
  unfold trr
  refine ⟨⟨m, ?_⟩, by rw [List.getLast?_reverse]; exact h2⟩
  have := congrArg List.reverse hm
  rw [List.reverse_reverse, List.reverse_append, List.reverse_replicate] at this
  exact this
theorem trl_len (s : By) : (trl s).length ≤ s.length := List.dropWhile_suffix _ |>.length_le
theorem trr_len (s : By) : (trr s).length ≤ s.length := by
  unfold trr; rw [List.length_reverse]; have := trl_len s.reverse; rwa [List.length_reverse] at this
theorem sq_trims (s : By) : sqL s = sqG true (trl (trr s)) := by
  obtain ⟨h1, h2⟩ := trr_ex s
  exact sq_trim h1 h2 (trl_ex (trr s)).1
theorem trimLv_any (s : ByteArray) (w : World) (hs : s.size ≤ 100000000) :
    Calls Tryd.prog 74 #[.string s, .int .u8 32] w fun e w' => e = .returned (.string ⟨(trl s.data.toList).toArray⟩) ∧ w = w' :=
  (trimL_any s w hs).mono fun e w' ⟨t, he, ⟨m, hm⟩, h2, h3⟩ => ⟨by rw [he, hm, trl_rep m _ h2], h3⟩
theorem trimRv_any (s : ByteArray) (w : World) (hs : s.size ≤ 100000000) :
    Calls Tryd.prog 75 #[.string s, .int .u8 32] w fun e w' => e = .returned (.string ⟨(trr s.data.toList).toArray⟩) ∧ w = w' :=
  (trimR_any s w hs).mono fun e w' ⟨t, he, ⟨m, hm⟩, h2, h3⟩ => ⟨by rw [he, hm, trr_rep m _ h2], h3⟩
theorem quiet_same {P : Program} {f : FuncId} {args : Array Value} {w : World} {n : Nat} {v : Value}
    (h : Calls P f args (w.drewN n) fun e w' => e = .returned v ∧ w.drewN n = w') : Calls P f args (w.drewN n) fun e w'' => e = .returned v ∧ ∃ m, w'' = w.drewN m :=
  h.mono fun _ _ ⟨he, hm⟩ => ⟨he, n, hm.symm⟩
set_option maxRecDepth 100000 in
set_option maxHeartbeats 2000000 in
theorem trim_any (s : ByteArray) (w : World) (hs : s.size ≤ 100000000) :
    Calls Tryd.prog 69 #[.string s, .string ⟨#[32]⟩] w fun e w' => e = .returned (.string ⟨(trl (trr s.data.toList)).toArray⟩) ∧ ∃ n, w' = w.drewN n := by
  by_cases h0 : 0 < s.size
  · have C1 := Lib.hid (fun n => trimRv_any s (w.drewN n) hs)
    have hl : (⟨(trr s.data.toList).toArray⟩ : ByteArray).size ≤ 100000000 := by
      show (trr s.data.toList).length ≤ _
      have := trr_len s.data.toList
      rw [size_list] at this; omega
    have C2 := Lib.hid (fun n => trimLv_any ⟨(trr s.data.toList).toArray⟩ (w.drewN n) hl)
    rw [show (⟨(trr s.data.toList).toArray⟩ : ByteArray).data.toList = trr s.data.toList from rfl] at C2
    have q0 := str_some h0
    generalize trl (trr s.data.toList) = v at *
    generalize trr s.data.toList = u at *
    clear hl h0
    go_enter Tryd.func69, Tryd.ntmps69
    go_wp2_with fail
    go_quiet ((first | (go_at_call 75; exact quiet_same (C1.out _)) | (go_at_call 74; exact quiet_same (C2.out _))))
    go_wp2
    go_ret
    exact ⟨rfl, _, rfl⟩
  · obtain rfl : s = ByteArray.empty := ByteArray.ext (Array.eq_empty_of_size_eq_zero (by show s.size = 0; omega))
    clear h0
    go_enter Tryd.func69, Tryd.ntmps69
    go_wp2
    go_ret
    exact ⟨rfl, 0, rfl⟩
theorem list_str (t : By) (k : Nat) (h : k < (ByteArray.mk t.toArray).size) : (ByteArray.mk t.toArray)[k] = t[k]'h := rfl
set_option maxRecDepth 100000 in
set_option maxHeartbeats 4000000 in
theorem single_any (s : ByteArray) (w : World) (hs : s.size ≤ 100000000) :
    Calls Tryd.prog 68 #[.string s] w fun e w' => e = .returned (.string ⟨(sqL s.data.toList).toArray⟩) ∧ Below w.heap.size w w' := by
  have C := Lib.hid (trim_any s w hs)
  rw [sq_trims]
  have hhd := (trl_ex (trr s.data.toList)).2
  have htl : (trl (trr s.data.toList)).length ≤ 100000000 := by
    have h1 := trl_len (trr s.data.toList)
    have h2 := trr_len s.data.toList
    rw [size_list] at h2; omega
  obtain ⟨v, hv⟩ : ∃ v, trl (trr s.data.toList) = v := ⟨_, rfl⟩
  rw [hv] at C hhd htl ⊢
  clear hv
  obtain ⟨t, ht⟩ : ∃ t : ByteArray, (⟨v.toArray⟩ : ByteArray) = t := ⟨_, rfl⟩
  have htv : t.data.toList = v := by rw [← ht]
  have htz : t.size ≤ 100000000 := by rw [← ht]; exact htl
  rw [ht] at C
  rw [← htv] at hhd ⊢
  clear ht htv htl
  have HH := Lib.hid hhd
  clear hhd
  go_enter Tryd.func68, Tryd.ntmps68
  go_wp2_with fail
  refine C.out.mono ?_
  rintro e w0 ⟨rfl, n0, rfl⟩
  have hbw : Below w.heap.size w (w.drewN n0) := drewN_below w n0
  generalize w.drewN n0 = w1 at *
  have hb0 := Lib.IsBuilderF.of (Lib.fresh_isBuilder 87 5 w1)
  have hb1 := one_below w1 (.cells #[.pointer none, .slice none 0 0] 87)
  clear C
  go_wp2_with fail
  go_loopw [9] (fun i wr => ∃ (k : Nat) (l : By), k ≤ t.size ∧ i = .int .i64 k ∧ Hid (sqG true (t.data.toList.take k) = l) ∧ l.length ≤ k ∧ Lib.IsBuilderF 87 5 w1.heap.size w1.heap.size (Lib.byteCells l) wr ∧ Below w1.heap.size w1 wr) (fun i _ => t.size - (intOf i).toNat)
  case atStart => exact ⟨0, [], Nat.zero_le _, rfl, Lib.hid rfl, by simp, hb0, hb1⟩
  case round =>
    clear hb0 hb1
    obtain ⟨k, l, hk, rfl, HL, hll, hbu, hb⟩ := hrel
    by_cases hlt : k < t.size
    · obtain ⟨x, hx⟩ : ∃ x : Int, (t[k].toNat : Int) = x := ⟨_, rfl⟩
      have hcx := int_ne (c := t[k]) hx
      obtain ⟨m, hm⟩ : ∃ m, l ++ [t[k]] = m := ⟨_, rfl⟩
      have hml : m.length = l.length + 1 := by rw [← hm]; simp
      have i1 : (k : Int) < (t.size : Int) := by omega
      have hk0 : x = 32 → 0 < k := fun e => by
        rcases Nat.eq_zero_or_pos k with h | h
        · subst h
          refine absurd ?_ HH.out
          rw [head_list t hlt, hcx.2 e]; rfl
        · exact h
      have CB := Lib.hid (byte_any w1.heap.size l m t[k] x wr hbu hx (by omega) hm hb.size)
      by_cases h32 : x = 32
      · obtain ⟨j, hj⟩ : ∃ j, k = j + 1 := ⟨k - 1, by have := hk0 h32; omega⟩
        have c32 : t[k] = 32 := hcx.2 h32
        have hjl : j < t.size := by omega
        have hst : sqG true (t.data.toList.take (k + 1)) = l ++ (if t[j] = 32 then [] else [32]) := by
          subst hj
          rw [sq_at t j hlt, if_pos c32, HL.out]
        obtain ⟨y, hy⟩ : ∃ y : Int, (t[j].toNat : Int) = y := ⟨_, rfl⟩
        have hdy := int_ne (c := t[j]) hy
        have f0 : IntKind.i64.wrap ((k : Int) - 1) = (j : Int) := by rw [IntWalk.i64_in _ (by omega)]; omega
        have f1 : (k : Int) - 1 = (j : Int) := by omega
        have f2 : IntKind.i64.wrap (j : Int) = (j : Int) := IntWalk.i64_in _ (by omega)
        have i2 : (j : Int) < (t.size : Int) := by omega
        have HJ := Lib.hid hj
        have HBU := Lib.hid hbu
        by_cases hy32 : y = 32
        · rw [if_pos (hdy.2 hy32), List.append_nil] at hst
          have HN := Lib.hid hst
          subst h32 hy32
          clear hj hcx hm hst hdy c32 hk0 CB hbu HL
          go_wp2
          go_roundw
          case rel => exact ⟨k + 1, l, by omega, by go_num, HN, by omega, HBU.out, hb⟩
          case measure => simp [intOf]; omega
        · rw [if_neg (fun e => hy32 (hdy.1 e)), ← c32, hm] at hst
          have HN := Lib.hid hst
          have q2 : (y == 32) = false := by simpa using hy32
          subst h32
          clear hj hcx hm hst hdy c32 hk0 hy32 hbu HL HBU
          go_wp2_with fail
          refine CB.out.mono ?_
          rintro e w2 ⟨rfl, hbu2, hb2, _⟩
          have hb3 := hb.trans hb2
          clear CB hb hb2
          go_wp2
          go_roundw
          case rel => exact ⟨k + 1, m, by omega, by go_num, HN, by omega, hbu2, hb3⟩
          case measure => simp [intOf]; omega
      · have c32 : t[k] ≠ 32 := fun e => h32 (hcx.1 e)
        have HN := Lib.hid (show sqG true (t.data.toList.take (k + 1)) = m by
          rcases (show k = 0 ∨ ∃ j, k = j + 1 by cases k; exact .inl rfl; exact .inr ⟨_, rfl⟩) with h0 | ⟨j, hj⟩
          · subst h0
            have := sq_at0 t hlt
            rw [if_neg c32] at this
            rw [this, ← hm, ← HL.out]; rfl
          · subst hj
            rw [sq_at t j hlt, if_neg c32, HL.out, hm])
        have q2 : (x == 32) = false := by simpa using h32
        clear HL hcx hm h32 hk0 c32 hbu
        go_wp2_with fail
        refine CB.out.mono ?_
        rintro e w2 ⟨rfl, hbu2, hb2, _⟩
        have hb3 := hb.trans hb2
        clear CB hb hb2
        go_wp2
        go_roundw
        case rel => exact ⟨k + 1, m, by omega, by go_num, HN, by omega, hbu2, hb3⟩
        case measure => simp [intOf]; omega
    · have hfin := HL.out
      rw [List.take_of_length_le (by rw [size_list]; omega)] at hfin
      have HF := Lib.hid hfin
      have i1 : ¬ (k : Int) < (t.size : Int) := by omega
      have CS := Lib.hid (Tryd.Builder_String_anyF w1.heap.size w1.heap.size l wr hbu hb.size)
      clear hfin HL hbu
      go_wp2_with fail
      refine CS.out.mono ?_
      rintro e w' ⟨rfl, _, hb2, _⟩
      go_wp2
      go_ret
      exact ⟨ret_eq (str_eq HF.out.symm), bch hbw (hb.trans hb2)⟩
set_option maxRecDepth 100000 in
set_option maxHeartbeats 4000000 in
theorem flat_any (A : Option Addr) (c : Nat) (ts : List Tok) (w : World) (hr : Rd w A ts) (hm : Hid (Mild ts)) (hl : ts.length ≤ 20000) :
    Calls Tryd.prog 50 #[.slice A ts.length c] w fun e w' => e = .returned (.string ⟨(flatL ts).toArray⟩) ∧ Below w.heap.size w w' := by
  have hb0 := Lib.IsBuilderF.of (Lib.fresh_isBuilder 87 5 w)
  go_enter Tryd.func50, Tryd.ntmps50
  go_wp2_with fail
  go_loopw [8] (fun i wr => ∃ (k : Nat) (l : By), k ≤ ts.length ∧ i = .int .i64 k ∧ Hid (rawL (ts.take k) = l) ∧ l.length ≤ 4000 * k ∧ Lib.IsBuilderF 87 5 w.heap.size w.heap.size (Lib.byteCells l) wr ∧ Below w.heap.size w wr) (fun i _ => ts.length - (intOf i).toNat)
  case atStart => exact ⟨0, [], Nat.zero_le _, rfl, Lib.hid rfl, by simp, hb0, one_below _ _⟩
  case round =>
    clear hb0
    obtain ⟨k, l, hk, rfl, HL, hll, hbu, hb⟩ := hrel
    by_cases hlt : k < ts.length
    · obtain ⟨b, o, rfl, hcell⟩ := (hr.below hb) (by omega)
      obtain ⟨f, hf⟩ : ∃ f, ts[k]? = some f := ⟨_, List.getElem?_eq_getElem hlt⟩
      obtain ⟨c1, c2⟩ := hcell k f hf
      have hz := hm.out f (List.mem_of_getElem? hf)
      have hst := raw_step hf
      have htl := raw_one f hz
      rw [HL.out] at hst
      obtain ⟨κ, z⟩ := f
      simp only at c1 c2 hz
      obtain ⟨m, hmm⟩ : ∃ m, l ++ rawT (κ, z) = m := ⟨_, rfl⟩
      rw [hmm] at hst
      have HN := Lib.hid hst
      have hml : m.length ≤ 4000 * (k + 1) := by rw [← hmm, List.length_append]; omega
      have i1 : (k : Int) < (ts.length : Int) := by omega
      have o1 := one_below wr (.cells #[.int .i64 κ, .string ⟨z.toArray⟩] 48)
      have HS1 := Lib.hid (new_snd wr (.int .i64 κ) (.string ⟨z.toArray⟩) 48)
      have HS0 := Lib.hid (new_fst wr (.int .i64 κ) (.string ⟨z.toArray⟩) 48)
      have hsz : (wr.alloc (.cells #[.int .i64 κ, .string ⟨z.toArray⟩] 48)).heap.size = wr.heap.size + 1 := by simp
      have HSZ := Lib.hid hsz
      have HB1 := Lib.hid (bch hb o1)
      have HBU := Lib.hid (IsBuilderF_below hbu o1)
      have hll2 : l.length ≤ 90000000 := by omega
      have HMM := Lib.hid hmm
      clear hf hcell hst htl hbu HL hll hmm hb o1
      by_cases h1 : κ = 1
      · have C1 := is1_any κ ⟨z.toArray⟩ 1 3 true (decide_eq_true h1) (wr.alloc (.cells #[.int .i64 κ, .string ⟨z.toArray⟩] 48))
        rw [hsz] at C1
        have CC := Lib.hid C1
        have HM := Lib.hid (show l ++ z = m by rw [← HMM.out]; simp [rawT, h1])
        clear C1 hsz h1 HMM
        go_wp2_with fail
        refine CC.out.mono ?_
        rintro e w1 ⟨rfl, hb1⟩
        rw [← HSZ.out] at hb1
        have s1 := cell_below hb1 HS1.out
        have HB2 := Lib.hid (bch HB1.out hb1)
        have C2 := Lib.hid (write_any w.heap.size l z m w1 (IsBuilderF_below HBU.out hb1) (by omega) (by omega) HM.out HB2.out.size)
        clear hb1 HB1 HBU CC HS1 HS0 c1 c2
        go_wp2_with fail
        refine C2.out.mono ?_
        rintro e w2 ⟨rfl, hbu2, hb2, _⟩
        have hb3 := HB2.out.trans hb2
        clear C2 HB2 hb2
        go_wp2
        go_roundw
        case rel => exact ⟨k + 1, m, by omega, by go_num, HN, hml, hbu2, hb3⟩
        case measure => simp [intOf]; omega
      · have C1 := is1_any κ ⟨z.toArray⟩ 1 3 false (decide_eq_false h1) (wr.alloc (.cells #[.int .i64 κ, .string ⟨z.toArray⟩] 48))
        rw [hsz] at C1
        have CC := Lib.hid C1
        by_cases h23 : κ = 2 ∨ κ = 3
        · have HM := Lib.hid (show l ++ [32] = m by rw [← HMM.out]; simp [rawT, h1, h23])
          have HD := Lib.hid (decide_eq_true h23)
          clear C1 hsz h1 HMM h23
          go_wp2_with fail
          refine CC.out.mono ?_
          rintro e w1 ⟨rfl, hb1⟩
          rw [← HSZ.out] at hb1
          have s1 := cell_below hb1 HS1.out
          have s0 := cell_below hb1 HS0.out
          have HB2 := Lib.hid (bch HB1.out hb1)
          have HBU2 := Lib.hid (IsBuilderF_below HBU.out hb1)
          have C2 := Lib.hid (is2_any κ ⟨z.toArray⟩ 2 3 3 true HD.out w1)
          clear hb1 HB1 HBU CC HS1 HS0 c1 c2
          go_wp2_with fail
          refine C2.out.mono ?_
          rintro e w2 ⟨rfl, hb2⟩
          have HB3 := Lib.hid (bch HB2.out hb2)
          have C3 := Lib.hid (byte_any w.heap.size l m 32 32 w2 (IsBuilderF_below HBU2.out hb2) (by rfl) (by omega) HM.out HB3.out.size)
          clear HB2 HBU2 hb2 C2 s0 s1
          go_wp2_with fail
          refine C3.out.mono ?_
          rintro e w3 ⟨rfl, hbu3, hb3, _⟩
          have hb4 := HB3.out.trans hb3
          clear C3 HB3 hb3
          go_wp2
          go_roundw
          case rel => exact ⟨k + 1, m, by omega, by go_num, HN, hml, hbu3, hb4⟩
          case measure => simp [intOf]; omega
        · have HM := Lib.hid (show m = l by rw [← HMM.out]; simp [rawT, h1, h23])
          have HD := Lib.hid (decide_eq_false h23)
          clear C1 hsz h1 HMM h23
          go_wp2_with fail
          refine CC.out.mono ?_
          rintro e w1 ⟨rfl, hb1⟩
          rw [← HSZ.out] at hb1
          have s1 := cell_below hb1 HS1.out
          have s0 := cell_below hb1 HS0.out
          have HB2 := Lib.hid (bch HB1.out hb1)
          have HBU2 := Lib.hid (IsBuilderF_below HBU.out hb1)
          have C2 := Lib.hid (is2_any κ ⟨z.toArray⟩ 2 3 3 false HD.out w1)
          clear hb1 HB1 HBU CC HS1 HS0 c1 c2
          go_wp2_with fail
          refine C2.out.mono ?_
          rintro e w2 ⟨rfl, hb2⟩
          have hb3 := bch HB2.out hb2
          have hbu3 := IsBuilderF_below HBU2.out hb2
          clear HB2 HBU2 hb2 C2 s0 s1
          go_wp2
          go_roundw
          case rel => exact ⟨k + 1, m, by omega, by go_num, HN, hml, by rw [HM.out]; exact hbu3, hb3⟩
          case measure => simp [intOf]; omega
    · have hfin := HL.out
      rw [List.take_of_length_le (by omega)] at hfin
      have HF := Lib.hid (show sqL l = flatL ts by unfold flatL; rw [hfin])
      have i1 : ¬ (k : Int) < (ts.length : Int) := by omega
      have CS := Lib.hid (Tryd.Builder_String_anyF w.heap.size w.heap.size l wr hbu hb.size)
      have C := Lib.hid (fun w => single_any ⟨l.toArray⟩ w (by show l.length ≤ _; omega))
      rw [show (⟨l.toArray⟩ : ByteArray).data.toList = l from rfl] at C
      generalize sqL l = v at *
      clear hfin HL hbu
      go_wp2_with fail
      refine CS.out.mono ?_
      rintro e w1 ⟨rfl, _, hb2, _⟩
      have hb3 := hb.trans hb2
      clear CS hb hb2
      go_wp2_with fail
      refine (C.out _).mono ?_
      rintro e w2 ⟨rfl, hb4⟩
      go_wp2
      go_ret
      exact ⟨ret_eq (str_eq HF.out), bch hb3 hb4⟩
end Go.Proofs.YtckldeabbkdbjaaDoor

namespace Go.Proofs.YtckldeabbkdbjaaDoor
open Go.RowKit

/-- The item of a command, the place behind what belongs to it, and what is wrong. -/
def meantG (z : By) (ts : List Tok) (a : Nat) : Tok × Nat × Int :=
  if kindI z = 0 then ((0, []), a, 11) else if 13 < kindI z then (((kindI z : Int), []), a, 0) else match grp1 (ts.drop a) with
    | none => ((0, []), a, 10)
    | some (x, p) => if flatL x = [] ∨ 60 < (flatL x).length then ((0, []), a + p, 2) else (((kindI z : Int), flatL x), a + p, 0)
def MeantPost (w : World) (r : Tok × Nat × Int) (en : Ending) (w' : World) : Prop :=
  en = .returned (.tuple #[.agg #[.int .i64 r.1.1, .string ⟨r.1.2.toArray⟩], .int .i64 (r.2.1 : Nat), .int .i64 r.2.2]) ∧ Below w.heap.size w w'
theorem args_at {ts : List Tok} {a : Nat} (ha : a ≤ ts.length) : argsE ts (a : Int) 1 = argsP ((grp1 (ts.drop a)).map fun x => ([x.1], x.2 + a)) := by
  unfold argsE
  rw [if_neg (by omega), show (a : Int).toNat = a by omega, show (1 : Int).toNat = 1 from rfl, args_one]
theorem margs_none {S : Option Addr} {sc a : Nat} {ts : List Tok} (ha : a ≤ ts.length) (hl : ts.length ≤ 400) (hcap : ts.length ≤ sc) (hc63 : sc ≤ 9223372036854775807) (hg : grp1 (ts.drop a) = none) {w : World} (hr : Rd w S ts) :
    Calls Tryd.prog 49 #[.slice S ts.length sc, .int .i64 (a : Int), .int .i64 1] w fun e w' => ∃ A c, e = .returned (.tuple #[.slice A 0 c, .int .i64 0, .int .i64 10]) ∧ Below w.heap.size w w' := by
  have H := args_any S sc ts (a : Int) 1 w hr (by omega) hcap hc63
  rw [args_at ha, hg] at H
  refine H.mono ?_
  rintro e w' ⟨A, c, rfl, _, hb⟩
  exact ⟨A, c, rfl, hb⟩
theorem margs_some {S : Option Addr} {sc a j p : Nat} {ts x : List Tok} (ha : a ≤ ts.length) (hl : ts.length ≤ 400) (hcap : ts.length ≤ sc) (hc63 : sc ≤ 9223372036854775807) (hg : grp1 (ts.drop a) = some (x, p)) (hj : a + p = j) {w : World} (hr : Rd w S ts) :
    Calls Tryd.prog 49 #[.slice S ts.length sc, .int .i64 (a : Int), .int .i64 1] w fun e w' => ∃ g o c B d, e = .returned (.tuple #[.slice (some ⟨g, o, none⟩) 1 c, .int .i64 (j : Int), .int .i64 0]) ∧ w'.cell? ⟨g, o, none⟩ = some (.slice B x.length d) ∧ Rd w' B x ∧ Below w.heap.size w w' := by
  have H := args_any S sc ts (a : Int) 1 w hr (by omega) hcap hc63
  rw [args_at ha, hg] at H
  refine H.mono ?_
  rintro e w' ⟨A, c, rfl, hO, hb⟩
  obtain ⟨g, o, hA, hc⟩ := hO.rd (by show 0 < [x].length; simp)
  obtain ⟨B, d, h1, h2⟩ := hc 0 x rfl
  have hA' : A = some ⟨g, o, none⟩ := hA
  subst hA'
  refine ⟨g, o, c, B, d, ?_, h1, h2, hb⟩
  show Ending.returned (.tuple #[.slice (some ⟨g, o, none⟩) [x].length c, .int .i64 ((p + a : Nat) : Int), .int .i64 0]) = _
  have e1 : ((p + a : Nat) : Int) = (j : Int) := by omega
  rw [e1]
  rfl
theorem results_cell_tmp2 {P : Program} {fn : Func} {p q r : Tmp} {ty : TypeId} (h : fn.results = #[.cell p ty, .tmp q, .tmp r]) (tmps : Array Value) (w : World) (g : Nat) (t : TypeId) (cs : Array Value) (fr : Nat × Nat) (d : TypeDesc) (v v2 : Value)
    (hp : tmps.getD p undef = .pointer (some ⟨g, 0, none⟩)) (hq : tmps.getD q undef = v) (hr : tmps.getD r undef = v2) (hg : w.heap[g]? = some (.cells cs t fr))
    (hu : P.underlying ty = some d) (hd : (match d with | .struct _ | .array _ _ => true | _ => false) = true) (hi : (P.info? ty).map (·.size) = some cs.size) :
    (results fn tmps).run P w = .ok (.tuple #[.agg cs, v, v2]) w := by
  have hp' : tmps[p]?.getD undef = .pointer (some ⟨g, 0, none⟩) := by simpa using hp
  have hq' : tmps[q]?.getD undef = v := by simpa using hq
  have hr' : tmps[r]?.getD undef = v2 := by simpa using hr
  simp [results, h, hp', hq', hr', asAddr, run_loadVar_row w g t ty cs fr d hg hu hd hi]
set_option maxRecDepth 100000 in
set_option maxHeartbeats 4000000 in
theorem meant_any (m : Nat) (S : Option Addr) (sc a : Nat) (z : By) (ts : List Tok) (w : World) (hm : BM w m 13 comF) (hr : Rd w S ts) (hl : ts.length ≤ 400) (hcap : ts.length ≤ sc) (hc63 : sc ≤ 9223372036854775807) (ha : a ≤ ts.length) (hz : z.length ≤ 4000) (hM : Hid (∀ t ∈ ts, t.2.length ≤ 4000)) :
    Calls Tryd.prog 27 #[.map (some m), .string ⟨z.toArray⟩, .slice S ts.length sc, .int .i64 (a : Int)] w (MeantPost w (meantG z ts a)) := by
  have b1 := one_below w (.cells #[.int .i64 0, .string ⟨#[]⟩] 49)
  have hq := heap_alloc_new w (.cells #[.int .i64 0, .string ⟨#[]⟩] 49)
  have hm1 := hm.of_block (b1.block _ hm.lt)
  have hr1 := hr.below b1
  have hlk := hm1.look (s := z) und58 (zero94 _) (by omega)
  by_cases k0 : kindI z = 0
  · have e1 : comF z = none := if_pos k0
    have e2 : meantG z ts a = ((0, []), a, 11) := if_pos k0
    rw [e1] at hlk
    rw [e2]
    simp only [Option.getD_none, Option.isSome_none] at hlk
    have HB := Lib.hid b1
    have HQ := Lib.hid hq
    clear b1 hq hm1 hr1 hm hr e1 e2 k0 hM
    go_enter Tryd.func27, Tryd.ntmps27
    go_wp2
    refine bodyPost_ret (results_cell_tmp2 (P := Tryd.prog) (by rfl) _ _ w.heap.size 49 #[.int .i64 0, .string ⟨#[]⟩] (0, 0) _ _ _ (by rfl) (by rfl) (by rfl) (blk_below (one_below _ _) HQ.out) Tryd.underlying49 rfl (by kernel_rfl)) rfl ?_
    exact ⟨rfl, bch HB.out (one_below _ _)⟩
  · obtain ⟨j, hj⟩ : ∃ j, kindI z = j := ⟨_, rfl⟩
    have hk := kind_le z
    rw [hj] at hk
    have e1 : comF z = some (comV j (decide (j ≤ 13))) := by unfold comF; rw [if_neg k0, hj]
    rw [e1] at hlk
    simp only [Option.getD_some, Option.isSome_some] at hlk
    unfold comV at hlk
    by_cases k13 : 13 < j
    · have e2 : meantG z ts a = (((j : Int), []), a, 0) := by unfold meantG; rw [if_neg k0, hj, if_pos k13]
      rw [e2]
      rw [show decide (j ≤ 13) = false by simp; omega] at hlk
      have HB := Lib.hid (fun (o : Obj) => one_below w o)
      clear b1 hq hm1 hr1 hm hr e1 e2 k0 hM hj hk k13
      go_enter Tryd.func27, Tryd.ntmps27
      go_wp2
      refine bodyPost_ret (results_cell_tmp2 (P := Tryd.prog) (by rfl) _ _ w.heap.size 49 #[.int .i64 (j : Int), .string ⟨#[]⟩] (0, 0) _ _ _ (by rfl) (by rfl) (by rfl) (blk_below (one_below _ _) (heap_alloc_new w _)) Tryd.underlying49 rfl (by kernel_rfl)) rfl ?_
      exact ⟨rfl, bch (HB.out _) (one_below _ _)⟩
    · rw [show decide (j ≤ 13) = true by simp; omega] at hlk
      have bA := one_below (w.alloc (.cells #[.int .i64 0, .string ⟨#[]⟩] 49)) (.cells #[.int .i64 (j : Int), .bool true] 94)
      have hqA := blk_below bA hq
      have hcA := heap_alloc_new (w.alloc (.cells #[.int .i64 0, .string ⟨#[]⟩] 49)) (.cells #[.int .i64 (j : Int), .bool true] 94)
      have hzA : (w.alloc (.cells #[.int .i64 0, .string ⟨#[]⟩] 49)).heap.size = w.heap.size + 1 := by simp
      rw [hzA] at hcA
      have g0 := cell_of hcA 0
      have g1 := cell_of hcA 1
      have hrA := hr1.below bA
      have HBA := Lib.hid (bch b1 bA)
      have HQA := Lib.hid hqA
      have HCA := Lib.hid hcA
      have HL := hlk
      rcases hg : grp1 (ts.drop a) with _ | ⟨x, p⟩
      · have e2 : meantG z ts a = ((0, []), a, 10) := by unfold meantG; rw [if_neg k0, hj, if_neg k13, hg]
        rw [e2]
        have CA := Lib.hid (margs_none ha hl hcap hc63 hg hrA)
        clear b1 hq hm1 hr1 hm hr e1 e2 k0 hM hj hk k13 bA hqA hcA hzA hrA hg HL
        go_enter Tryd.func27, Tryd.ntmps27
        go_wp2_with fail
        refine CA.out.mono ?_
        rintro en w3 ⟨A3, c3, rfl, hb3⟩
        have hq3 := blk_below hb3 HQA.out
        have d0 := cell_of hq3 0
        have d1 := cell_of hq3 1
        have f0 := frozen_of hq3 0
        have f1 := frozen_of hq3 1
        have HQ3 := Lib.hid hq3
        have HB3 := Lib.hid (bch HBA.out hb3)
        clear hq3 hb3 CA
        go_wp2
        refine bodyPost_ret (results_cell_tmp2 (P := Tryd.prog) (by rfl) _ _ w.heap.size 49 #[.int .i64 0, .string ⟨#[]⟩] (0, 0) _ _ _ (by rfl) (by rfl) (by rfl) (blk_set (blk_set HQ3.out 0 _) 1 _) Tryd.underlying49 rfl (by kernel_rfl)) rfl ?_
        exact ⟨rfl, (((HB3.out).setCell (p := ⟨w.heap.size, 0, none⟩) (Nat.le_refl _) _).setCell (p := ⟨w.heap.size, 1, none⟩) (Nat.le_refl _) _)⟩
      · obtain ⟨b, hb⟩ : ∃ b, a + p = b := ⟨_, rfl⟩
        obtain ⟨p1, p2, p3⟩ := grp1_le hg
        rw [List.length_drop] at p2 p3
        have xl : x.length ≤ 400 := by omega
        have HM : Hid (Mild x) := Lib.hid fun t ht => hM.out t (List.mem_of_mem_drop (grp1_mem hg ht))
        have CA := Lib.hid (margs_some ha hl hcap hc63 hg hb hrA)
        obtain ⟨y, hy⟩ : ∃ y, flatL x = y := ⟨_, rfl⟩
        have e2 : meantG z ts a = if y = [] ∨ 60 < y.length then ((0, []), b, 2) else (((j : Int), y), b, 0) := by unfold meantG; rw [if_neg k0, hj, if_neg k13, hg, ← hy, ← hb]
        rw [e2]
        have CF := Lib.hid (fun (B : Option Addr) (d : Nat) (W : World) (hr : Rd W B x) => flat_any B d x W hr HM.out (by omega))
        rw [hy] at CF
        clear b1 hq hm1 hr1 hm hr e1 e2 k0 hM hj hk k13 bA hqA hcA hzA hrA hg HL p1 p2 p3 HM hy hb ha
        by_cases hy0 : y = []
        · rw [if_pos (.inl hy0)]
          have q0 : (y == ([] : By)) = true := by simpa using hy0
          clear hy0
          go_enter Tryd.func27, Tryd.ntmps27
          go_wp2_with fail
          refine CA.out.mono ?_
          rintro en w3 ⟨g3, o3, c3, B3, d3, rfl, h3, hR3, hb3⟩
          have CF3 := Lib.hid (CF.out B3 d3 w3 hR3)
          have hq3 := blk_below hb3 HQA.out
          have HQ3 := Lib.hid hq3
          have HC3 := Lib.hid (blk_below hb3 HCA.out)
          have HB3 := Lib.hid (bch HBA.out hb3)
          clear hq3 hb3 CA CF hR3
          go_wp2_with fail
          refine CF3.out.mono ?_
          rintro en w4 ⟨rfl, hb4⟩
          have hq4 := blk_below hb4 HQ3.out
          have d0 := cell_of hq4 0
          have d1 := cell_of hq4 1
          have f0 := frozen_of hq4 0
          have f1 := frozen_of hq4 1
          have hc4 := blk_below hb4 HC3.out
          have n0 := cell_of hc4 0
          have n1 := cell_of hc4 1
          have HQ4 := Lib.hid hq4
          have HB4 := Lib.hid (bch HB3.out hb4)
          clear hq4 hb4 CF3 hc4 HQ3 HC3 HB3 h3
          go_wp2
          refine bodyPost_ret (results_cell_tmp2 (P := Tryd.prog) (by rfl) _ _ w.heap.size 49 #[.int .i64 0, .string ⟨#[]⟩] (0, 0) _ _ _ (by rfl) (by rfl) (by rfl) (blk_set (blk_set HQ4.out 0 _) 1 _) Tryd.underlying49 rfl (by kernel_rfl)) rfl ?_
          exact ⟨rfl, (((HB4.out).setCell (p := ⟨w.heap.size, 0, none⟩) (Nat.le_refl _) _).setCell (p := ⟨w.heap.size, 1, none⟩) (Nat.le_refl _) _)⟩
        · have q0 : (y == ([] : By)) = false := by simpa using hy0
          by_cases hy6 : 60 < y.length
          · rw [if_pos (.inr hy6)]
            have i60 : (60 : Int) < (y.length : Int) := by omega
            clear hy0 hy6
            go_enter Tryd.func27, Tryd.ntmps27
            go_wp2_with fail
            refine CA.out.mono ?_
            rintro en w3 ⟨g3, o3, c3, B3, d3, rfl, h3, hR3, hb3⟩
            have CF3 := Lib.hid (CF.out B3 d3 w3 hR3)
            have hq3 := blk_below hb3 HQA.out
            have HQ3 := Lib.hid hq3
            have HC3 := Lib.hid (blk_below hb3 HCA.out)
            have HB3 := Lib.hid (bch HBA.out hb3)
            clear hq3 hb3 CA CF hR3
            go_wp2_with fail
            refine CF3.out.mono ?_
            rintro en w4 ⟨rfl, hb4⟩
            have hq4 := blk_below hb4 HQ3.out
            have d0 := cell_of hq4 0
            have d1 := cell_of hq4 1
            have f0 := frozen_of hq4 0
            have f1 := frozen_of hq4 1
            have hc4 := blk_below hb4 HC3.out
            have n0 := cell_of hc4 0
            have n1 := cell_of hc4 1
            have HQ4 := Lib.hid hq4
            have HB4 := Lib.hid (bch HB3.out hb4)
            clear hq4 hb4 CF3 hc4 HQ3 HC3 HB3 h3
            go_wp2
            refine bodyPost_ret (results_cell_tmp2 (P := Tryd.prog) (by rfl) _ _ w.heap.size 49 #[.int .i64 0, .string ⟨#[]⟩] (0, 0) _ _ _ (by rfl) (by rfl) (by rfl) (blk_set (blk_set HQ4.out 0 _) 1 _) Tryd.underlying49 rfl (by kernel_rfl)) rfl ?_
            exact ⟨rfl, (((HB4.out).setCell (p := ⟨w.heap.size, 0, none⟩) (Nat.le_refl _) _).setCell (p := ⟨w.heap.size, 1, none⟩) (Nat.le_refl _) _)⟩
          · rw [if_neg (fun q => q.elim hy0 hy6)]
            have i60 : (y.length : Int) ≤ 60 := by omega
            clear hy0 hy6
            go_enter Tryd.func27, Tryd.ntmps27
            go_wp2_with fail
            refine CA.out.mono ?_
            rintro en w3 ⟨g3, o3, c3, B3, d3, rfl, h3, hR3, hb3⟩
            have CF3 := Lib.hid (CF.out B3 d3 w3 hR3)
            have hq3 := blk_below hb3 HQA.out
            have HQ3 := Lib.hid hq3
            have HC3 := Lib.hid (blk_below hb3 HCA.out)
            have HB3 := Lib.hid (bch HBA.out hb3)
            clear hq3 hb3 CA CF hR3
            go_wp2_with fail
            refine CF3.out.mono ?_
            rintro en w4 ⟨rfl, hb4⟩
            have hq4 := blk_below hb4 HQ3.out
            have d0 := cell_of hq4 0
            have d1 := cell_of hq4 1
            have f0 := frozen_of hq4 0
            have f1 := frozen_of hq4 1
            have hc4 := blk_below hb4 HC3.out
            have n0 := cell_of hc4 0
            have n1 := cell_of hc4 1
            have HQ4 := Lib.hid hq4
            have HB4 := Lib.hid (bch HB3.out hb4)
            clear hq4 hb4 CF3 hc4 HQ3 HC3 HB3 h3
            go_wp2
            refine bodyPost_ret (results_cell_tmp2 (P := Tryd.prog) (by rfl) _ _ w.heap.size 49 #[.int .i64 (j : Int), .string ⟨y.toArray⟩] (0, 0) _ _ _ (by rfl) (by rfl) (by rfl) (blk_set (blk_set HQ4.out 0 _) 1 _) Tryd.underlying49 rfl (by kernel_rfl)) rfl ?_
            exact ⟨rfl, (((HB4.out).setCell (p := ⟨w.heap.size, 0, none⟩) (Nat.le_refl _) _).setCell (p := ⟨w.heap.size, 1, none⟩) (Nat.le_refl _) _)⟩
end Go.Proofs.YtckldeabbkdbjaaDoor

namespace Go.Proofs.YtckldeabbkdbjaaDoor
open Go.RowKit

/-! ### the first token of a text, by what it begins with -/
theorem head_ex {u : By} (h : hk u ≠ 0) : ∃ c r, u = c :: r := by
  cases u with
  | nil => exact absurd rfl h
  | cons c r => exact ⟨c, r, rfl⟩
theorem toks_zero {u : By} (h : hk u = 0) : u = [] := by
  cases u with
  | nil => rfl
  | cons c r =>
    have h' : kd c r = 0 := h
    rcases kd_ways c r with k | ⟨k, _⟩ | k | k | ⟨k, _⟩ | k <;> rw [k] at h' <;> cases h'
theorem toks_k1 {u : By} (h : hk u = 1) : toks u = (1, (wordG u).1) :: toks (wordG u).2 ∧ (wordG u).2.length < u.length := by
  obtain ⟨c, r, rfl⟩ := head_ex (by rw [h]; decide)
  have h' : kd c r = 1 := h
  refine ⟨?_, by have := word_less h'; simp only [List.length_cons]; omega⟩
  rw [toks_cons]; unfold one; rw [if_pos h']
theorem toks_k2 {u : By} (h : hk u = 2) : toks u = (gapK (gapG false 0 u).1, []) :: toks (gapG false 0 u).2 ∧ (gapG false 0 u).2.length < u.length := by
  obtain ⟨c, r, rfl⟩ := head_ex (by rw [h]; decide)
  have h' : kd c r = 2 := h
  refine ⟨?_, by have := gap_less h' 0; simp only [List.length_cons]; omega⟩
  rw [toks_cons]; unfold one gapK; rw [if_neg (by rw [h']; decide), if_pos h']
theorem toks_k4 {u : By} (h : hk u = 4) : toks u = (4, (u.drop 1).takeWhile ltr) :: toks ((u.drop 1).dropWhile ltr) ∧ ((u.drop 1).dropWhile ltr).length < u.length := by
  obtain ⟨c, r, rfl⟩ := head_ex (by rw [h]; decide)
  have h' : kd c r = 4 := h
  refine ⟨?_, by have := (List.dropWhile_suffix ltr (l := (c :: r).drop 1)).length_le; simp only [List.length_cons, List.drop_one, List.tail_cons] at this ⊢; omega⟩
  rw [toks_cons]; unfold one; rw [if_neg (by rw [h']; decide), if_neg (by rw [h']; decide), if_pos h']; rfl
theorem toks_k5 {u : By} {k : Int} (h : hk u = k) (hk : k = 5 ∨ k = 6) : toks u = (k, []) :: toks (u.drop 1) := by
  obtain ⟨c, r, rfl⟩ := head_ex (by rw [h]; rcases hk with rfl | rfl <;> decide)
  have h' : kd c r = k := h
  rw [toks_cons]; unfold one; rw [h']
  rcases hk with rfl | rfl <;> rfl
theorem toks_k7 {u : By} (h : hk u = 7) : toks u = (7, (u.drop 1).take 1) :: toks (u.drop 2) ∧ 1 < u.length := by
  obtain ⟨c, r, rfl⟩ := head_ex (by rw [h]; decide)
  have h' : kd c r = 7 := h
  refine ⟨?_, ?_⟩
  · rw [toks_cons]; unfold one; rw [if_neg (by rw [h']; decide), if_neg (by rw [h']; decide), if_neg (by rw [h']; decide), if_pos h']; rfl
  · rcases kd_ways c r with k | ⟨k, _⟩ | k | k | ⟨_, _, k⟩ | k
    case inr.inr.inr.inr.inl =>
      cases r with
      | nil => cases k
      | cons x r => simp
    all_goals rw [k] at h'; cases h'
theorem hk_ways (u : By) : hk u = 0 ∨ hk u = 1 ∨ hk u = 2 ∨ hk u = 4 ∨ hk u = 5 ∨ hk u = 6 ∨ hk u = 7 := by
  cases u with
  | nil => exact .inl rfl
  | cons c r =>
    rcases kd_ways c r with k | ⟨k, _⟩ | k | k | ⟨k, _⟩ | k <;> simp [hk, k]
theorem hk_pos {t : ByteArray} (h : hk t.data.toList ≠ 0) : 0 < t.size := by
  rcases Nat.lt_or_ge 0 t.size with q | q
  · exact q
  · rw [str_none (by omega)] at h; exact absurd rfl h

/-! ### the row grows by one token -/
theorem stored_below {w wr W : World} (hb : Below w.heap.size w wr) (h2 : Below wr.heap.size wr W) (k : Int) (x : ByteArray) (o : Obj) :
    Below wr.heap.size wr (((W.setCell ⟨wr.heap.size, 0, none⟩ (.int .i64 k)).setCell ⟨wr.heap.size, 1, none⟩ (.string x)).alloc o) :=
  ((h2.setCell (Nat.le_refl _) _).setCell (Nat.le_refl _) _).alloc (by have := h2.size; simpa using this) _
theorem stored_size (W : World) (p q : Addr) (u v : Value) : ((W.setCell p u).setCell q v).heap.size = W.heap.size := by simp
theorem stored_read (W : World) (p q : Addr) (u v : Value) (k : Int) (x : By) (t : TypeId) : Rd (((W.setCell p u).setCell q v).alloc (.cells #[.int .i64 k, .string ⟨x.toArray⟩] t)) (some ⟨W.heap.size, 0, none⟩) [(k, x)] := by
  rw [← stored_size W p q u v]
  exact one_read (new_fst _ _ _ _) (new_snd _ _ _ _)
theorem drew_read (w : World) (o : Obj) (k : Int) (x : By) (t : TypeId) : Rd (((w.alloc o).drew).alloc (.cells #[.int .i64 k, .string ⟨x.toArray⟩] t)) (some ⟨w.heap.size + 1, 0, none⟩) [(k, x)] := by
  have e : ((w.alloc o).drew).heap.size = w.heap.size + 1 := by show (w.alloc o).heap.size = _; simp
  rw [← e]
  exact one_read (new_fst _ _ _ _) (new_snd _ _ _ _)
set_option maxRecDepth 100000 in
set_option maxHeartbeats 4000000 in
theorem lex_any (s : ByteArray) (w : World) (hs : s.size ≤ 190000) :
    Calls Tryd.prog 22 #[.string s] w (Res 48 w (toks s.data.toList)) := by
  generalize hg : toks s.data.toList = R
  have HR := Lib.hid (show ([] : List Tok) ++ toks s.data.toList = R by rw [hg]; rfl)
  clear hg
  go_enter Tryd.func22, Tryd.ntmps22
  go_wp2_with fail
  go_step3
  go_wp2_with fail
  go_step3
  go_wp2_with fail
  go_loopw [0, 3] (fun v0 v3 wr => ∃ (t : ByteArray) (A : Option Addr) (c : Nat) (xs : List Tok), v0 = .string t ∧ v3 = .slice A xs.length c ∧ xs.length + t.size ≤ s.size ∧ Hid (xs ++ toks t.data.toList = R) ∧ Own 48 wr w.heap.size A c xs ∧ Below w.heap.size w wr) (fun v0 _ _ => strSz v0)
  case atStart => exact ⟨s, none, 0, [], rfl, rfl, by simp, HR, World.ownsRow_nil _ _ _ _, Below.refl _ _⟩
  case round =>
    clear HR
    obtain ⟨t, A, c, xs, rfl, rfl, hn, HG, hown, hb⟩ := hrel
    have hb1 := one_below wr (.cells #[.int .i64 0, .string ⟨#[]⟩] 48)
    have hbk1 := tok_new wr
    have C := begins_any t (wr.alloc (.cells #[.int .i64 0, .string ⟨#[]⟩] 48)) (by omega)
    rcases hk_ways t.data.toList with h | h | h | h | h | h | h
    · rw [h] at C
      have HE := Lib.hid (show R = xs by rw [← HG.out, toks_zero h]; simp [toks_nil])
      have CC := Lib.hid C
      have HO := Lib.hid (hown.below hb1)
      have HB := Lib.hid (bch hb hb1)
      clear C h HG hown hb hb1 hbk1
      go_wp2_with fail
      refine CC.out.mono ?_
      rintro e w' ⟨rfl, rfl⟩
      go_wp2
      go_ret
      rw [HE.out]
      exact ⟨A, c, rfl, HO.out, HB.out⟩
    · rw [h] at C
      obtain ⟨hT, hle⟩ := toks_k1 h
      have CT := word_any t (wr.alloc (.cells #[.int .i64 0, .string ⟨#[]⟩] 48)) (by omega)
      obtain ⟨k, hk0⟩ : ∃ k : Int, (1 : Int) = k := ⟨_, rfl⟩
      obtain ⟨x, hx⟩ : ∃ x : By, (wordG t.data.toList).1 = x := ⟨_, rfl⟩
      obtain ⟨u, hu⟩ : ∃ u : By, (wordG t.data.toList).2 = u := ⟨_, rfl⟩
      rw [hu, size_list] at hle
      rw [hk0, hx, hu] at hT CT
      obtain ⟨ys, hy⟩ : ∃ ys, xs ++ [(k, x)] = ys := ⟨_, rfl⟩
      have HN := Lib.hid (show ys ++ toks u = R by rw [← HG.out, hT, ← hy]; simp)
      have HYL := Lib.hid (show ys.length = xs.length + 1 by rw [← hy]; simp)
      have HY := Lib.hid hy
      have CC := Lib.hid C
      have CT2 := Lib.hid CT
      have HO := Lib.hid hown
      have HB1 := Lib.hid hb1
      have HBK := Lib.hid hbk1
      clear C CT hT hk0 hx hu h HG hown hb1 hbk1 hy
      go_wp2_with fail
      refine CC.out.mono ?_
      rintro e w' ⟨rfl, rfl⟩
      go_wp2_with fail
      refine CT2.out.mono ?_
      rintro e w2 ⟨rfl, hb2⟩
      have hbk2 := blk_below hb2 HBK.out
      have hw2 : Below wr.heap.size wr w2 := bch HB1.out hb2
      have c0 : w2.cell? ⟨wr.heap.size, 0, none⟩ = some (.int .i64 0) := cell_of hbk2 0
      have c1 : w2.cell? ⟨wr.heap.size, 1, none⟩ = some (.string ⟨#[]⟩) := cell_of hbk2 1
      have f0 := frozen_of hbk2 0
      have f1 := frozen_of hbk2 1
      have SB := stored_below hb hw2 k ⟨x.toArray⟩ (.cells #[.int .i64 k, .string ⟨x.toArray⟩] 48)
      have HO2 := Lib.hid (HO.out.below SB)
      have HB2 := Lib.hid (bch hb SB)
      clear CC CT2 HO HB1 HBK hb2 hbk2 hw2 SB
      go_wp2_with (at_builtin; refine wpList_append_rdn37 _ rfl _ _ rfl w.heap.size _ xs rfl HO2.out (some ⟨w2.heap.size, 0, none⟩) 1 1 [(k, x)] rfl (by first | rfl | simp) (stored_read _ _ _ _ _ k x 48) (by show xs.length + 1 ≤ _; omega) HB2.out.size ys HY.out ?_; intro N2 nc2 w3 hown2 hb3)
      have hb4 := HB2.out.trans hb3
      clear HO2 HB2 hb3
      go_roundw
      case rel => exact ⟨⟨u.toArray⟩, N2, nc2, ys, rfl, rfl, by have := HYL.out; show ys.length + u.length ≤ _; omega, HN, hown2, hb4⟩
      case measure => show u.length < t.size; omega
    · rw [h] at C
      obtain ⟨hT, hle⟩ := toks_k2 h
      have CT := gap_any t (wr.alloc (.cells #[.int .i64 0, .string ⟨#[]⟩] 48)) (by omega)
      obtain ⟨k, hk0⟩ : ∃ k : Int, gapK (gapG false 0 t.data.toList).1 = k := ⟨_, rfl⟩
      obtain ⟨x, hx⟩ : ∃ x : By, x = [] := ⟨_, rfl⟩
      obtain ⟨u, hu⟩ : ∃ u : By, (gapG false 0 t.data.toList).2 = u := ⟨_, rfl⟩
      rw [hu, size_list] at hle
      rw [hk0, hu] at hT CT
      replace CT : Calls Tryd.prog 39 #[.string t] (wr.alloc (.cells #[.int .i64 0, .string ⟨#[]⟩] 48)) (TokPost (wr.alloc (.cells #[.int .i64 0, .string ⟨#[]⟩] 48)) k x u) := by rw [hx]; exact CT
      rw [← hx] at hT
      obtain ⟨ys, hy⟩ : ∃ ys, xs ++ [(k, x)] = ys := ⟨_, rfl⟩
      have HN := Lib.hid (show ys ++ toks u = R by rw [← HG.out, hT, ← hy]; simp)
      have HYL := Lib.hid (show ys.length = xs.length + 1 by rw [← hy]; simp)
      have HY := Lib.hid hy
      have CC := Lib.hid C
      have CT2 := Lib.hid CT
      have HO := Lib.hid hown
      have HB1 := Lib.hid hb1
      have HBK := Lib.hid hbk1
      clear C CT hT hk0 hx hu h HG hown hb1 hbk1 hy
      go_wp2_with fail
      refine CC.out.mono ?_
      rintro e w' ⟨rfl, rfl⟩
      go_wp2_with fail
      refine CT2.out.mono ?_
      rintro e w2 ⟨rfl, hb2⟩
      have hbk2 := blk_below hb2 HBK.out
      have hw2 : Below wr.heap.size wr w2 := bch HB1.out hb2
      have c0 : w2.cell? ⟨wr.heap.size, 0, none⟩ = some (.int .i64 0) := cell_of hbk2 0
      have c1 : w2.cell? ⟨wr.heap.size, 1, none⟩ = some (.string ⟨#[]⟩) := cell_of hbk2 1
      have f0 := frozen_of hbk2 0
      have f1 := frozen_of hbk2 1
      have SB := stored_below hb hw2 k ⟨x.toArray⟩ (.cells #[.int .i64 k, .string ⟨x.toArray⟩] 48)
      have HO2 := Lib.hid (HO.out.below SB)
      have HB2 := Lib.hid (bch hb SB)
      clear CC CT2 HO HB1 HBK hb2 hbk2 hw2 SB
      go_wp2_with (at_builtin; refine wpList_append_rdn37 _ rfl _ _ rfl w.heap.size _ xs rfl HO2.out (some ⟨w2.heap.size, 0, none⟩) 1 1 [(k, x)] rfl (by first | rfl | simp) (stored_read _ _ _ _ _ k x 48) (by show xs.length + 1 ≤ _; omega) HB2.out.size ys HY.out ?_; intro N2 nc2 w3 hown2 hb3)
      have hb4 := HB2.out.trans hb3
      clear HO2 HB2 hb3
      go_roundw
      case rel => exact ⟨⟨u.toArray⟩, N2, nc2, ys, rfl, rfl, by have := HYL.out; show ys.length + u.length ≤ _; omega, HN, hown2, hb4⟩
      case measure => show u.length < t.size; omega
    · rw [h] at C
      obtain ⟨hT, hle⟩ := toks_k4 h
      have CT := command_any t (wr.alloc (.cells #[.int .i64 0, .string ⟨#[]⟩] 48)) (by omega) (hk_pos (by rw [h]; decide))
      obtain ⟨k, hk0⟩ : ∃ k : Int, (4 : Int) = k := ⟨_, rfl⟩
      obtain ⟨x, hx⟩ : ∃ x : By, (t.data.toList.drop 1).takeWhile ltr = x := ⟨_, rfl⟩
      obtain ⟨u, hu⟩ : ∃ u : By, (t.data.toList.drop 1).dropWhile ltr = u := ⟨_, rfl⟩
      rw [hu, size_list] at hle
      rw [hk0, hx, hu] at hT CT
      obtain ⟨ys, hy⟩ : ∃ ys, xs ++ [(k, x)] = ys := ⟨_, rfl⟩
      have HN := Lib.hid (show ys ++ toks u = R by rw [← HG.out, hT, ← hy]; simp)
      have HYL := Lib.hid (show ys.length = xs.length + 1 by rw [← hy]; simp)
      have HY := Lib.hid hy
      have CC := Lib.hid C
      have CT2 := Lib.hid CT
      have HO := Lib.hid hown
      have HB1 := Lib.hid hb1
      have HBK := Lib.hid hbk1
      clear C CT hT hk0 hx hu h HG hown hb1 hbk1 hy
      go_wp2_with fail
      refine CC.out.mono ?_
      rintro e w' ⟨rfl, rfl⟩
      go_wp2_with fail
      refine CT2.out.mono ?_
      rintro e w2 ⟨rfl, hb2⟩
      have hbk2 := blk_below hb2 HBK.out
      have hw2 : Below wr.heap.size wr w2 := bch HB1.out hb2
      have c0 : w2.cell? ⟨wr.heap.size, 0, none⟩ = some (.int .i64 0) := cell_of hbk2 0
      have c1 : w2.cell? ⟨wr.heap.size, 1, none⟩ = some (.string ⟨#[]⟩) := cell_of hbk2 1
      have f0 := frozen_of hbk2 0
      have f1 := frozen_of hbk2 1
      have SB := stored_below hb hw2 k ⟨x.toArray⟩ (.cells #[.int .i64 k, .string ⟨x.toArray⟩] 48)
      have HO2 := Lib.hid (HO.out.below SB)
      have HB2 := Lib.hid (bch hb SB)
      clear CC CT2 HO HB1 HBK hb2 hbk2 hw2 SB
      go_wp2_with (at_builtin; refine wpList_append_rdn37 _ rfl _ _ rfl w.heap.size _ xs rfl HO2.out (some ⟨w2.heap.size, 0, none⟩) 1 1 [(k, x)] rfl (by first | rfl | simp) (stored_read _ _ _ _ _ k x 48) (by show xs.length + 1 ≤ _; omega) HB2.out.size ys HY.out ?_; intro N2 nc2 w3 hown2 hb3)
      have hb4 := HB2.out.trans hb3
      clear HO2 HB2 hb3
      go_roundw
      case rel => exact ⟨⟨u.toArray⟩, N2, nc2, ys, rfl, rfl, by have := HYL.out; show ys.length + u.length ≤ _; omega, HN, hown2, hb4⟩
      case measure => show u.length < t.size; omega
    · rw [h] at C
      have hT := toks_k5 h (.inl rfl)
      have hl2 := hk_pos (t := t) (by rw [h]; decide)
      obtain ⟨X, hX⟩ : ∃ X : By, [] = X := ⟨_, rfl⟩
      obtain ⟨U, hU⟩ : ∃ U : By, t.extract 1 t.size = ⟨U.toArray⟩ := ⟨_, rfl⟩
      have hu : t.data.toList.drop 1 = U := by
        have := ext_from t 1 t.size (Nat.le_refl _)
        rw [hU] at this; exact this.symm
      have hul : U.length = t.size - 1 := by rw [← hu, List.length_drop, size_list]
      subst hX
      rw [hu] at hT
      obtain ⟨ys, hy⟩ : ∃ ys, xs ++ [(5, ([] : By))] = ys := ⟨_, rfl⟩
      have HN := Lib.hid (show ys ++ toks U = R by rw [← HG.out, hT, ← hy]; simp)
      have HYL := Lib.hid (show ys.length = xs.length + 1 by rw [← hy]; simp)
      have HUL := Lib.hid (show U.length < t.size by omega)
      have HY := Lib.hid hy
      have CC := Lib.hid C
      have c0 := new_fst wr (.int .i64 0) (.string ⟨#[]⟩) 48
      have c1 := new_snd wr (.int .i64 0) (.string ⟨#[]⟩) 48
      have f0 := frozen_of hbk1 0
      have f1 := frozen_of hbk1 1
      have SB : Below wr.heap.size wr ((wr.alloc (.cells #[.int .i64 5, .string ⟨#[]⟩] 48)).drew) := (one_below wr _).trans ⟨rfl, rfl, rfl, Nat.le_refl _, fun _ _ => rfl⟩
      have SB2 := bch SB (one_below _ (.cells #[.int .i64 5, .string ⟨#[]⟩] 48))
      have HO2 := Lib.hid (hown.below SB2)
      have HB2 := Lib.hid (bch hb SB2)
      clear C hT hu hul h HG hown hb1 hbk1 hy SB SB2 
      go_wp2_with fail
      refine CC.out.mono ?_
      rintro e w' ⟨rfl, rfl⟩
      go_wp2_with fail
      go_region
      clear c0 c1 f0 f1
      go_wp2_with (at_builtin; refine wpList_append_rdn37 _ rfl _ _ rfl w.heap.size _ xs rfl HO2.out (some ⟨wr.heap.size + 1, 0, none⟩) 1 1 [(5, ([] : By))] rfl (by first | rfl | simp) (drew_read wr _ 5 ([] : By) 48) (by show xs.length + 1 ≤ _; omega) HB2.out.size ys HY.out ?_; intro N2 nc2 w3 hown2 hb3)
      have hb4 := HB2.out.trans hb3
      clear HO2 HB2 hb3
      go_roundw
      case rel => exact ⟨⟨U.toArray⟩, N2, nc2, ys, rfl, rfl, by have := HYL.out; have := HUL.out; show ys.length + U.length ≤ _; omega, HN, hown2, hb4⟩
      case measure => exact HUL.out
    · rw [h] at C
      have hT := toks_k5 h (.inr rfl)
      have hl2 := hk_pos (t := t) (by rw [h]; decide)
      obtain ⟨X, hX⟩ : ∃ X : By, [] = X := ⟨_, rfl⟩
      obtain ⟨U, hU⟩ : ∃ U : By, t.extract 1 t.size = ⟨U.toArray⟩ := ⟨_, rfl⟩
      have hu : t.data.toList.drop 1 = U := by
        have := ext_from t 1 t.size (Nat.le_refl _)
        rw [hU] at this; exact this.symm
      have hul : U.length = t.size - 1 := by rw [← hu, List.length_drop, size_list]
      subst hX
      rw [hu] at hT
      obtain ⟨ys, hy⟩ : ∃ ys, xs ++ [(6, ([] : By))] = ys := ⟨_, rfl⟩
      have HN := Lib.hid (show ys ++ toks U = R by rw [← HG.out, hT, ← hy]; simp)
      have HYL := Lib.hid (show ys.length = xs.length + 1 by rw [← hy]; simp)
      have HUL := Lib.hid (show U.length < t.size by omega)
      have HY := Lib.hid hy
      have CC := Lib.hid C
      have c0 := new_fst wr (.int .i64 0) (.string ⟨#[]⟩) 48
      have c1 := new_snd wr (.int .i64 0) (.string ⟨#[]⟩) 48
      have f0 := frozen_of hbk1 0
      have f1 := frozen_of hbk1 1
      have SB : Below wr.heap.size wr ((wr.alloc (.cells #[.int .i64 6, .string ⟨#[]⟩] 48)).drew) := (one_below wr _).trans ⟨rfl, rfl, rfl, Nat.le_refl _, fun _ _ => rfl⟩
      have SB2 := bch SB (one_below _ (.cells #[.int .i64 6, .string ⟨#[]⟩] 48))
      have HO2 := Lib.hid (hown.below SB2)
      have HB2 := Lib.hid (bch hb SB2)
      clear C hT hu hul h HG hown hb1 hbk1 hy SB SB2 
      go_wp2_with fail
      refine CC.out.mono ?_
      rintro e w' ⟨rfl, rfl⟩
      go_wp2_with fail
      go_region
      clear c0 c1 f0 f1
      go_wp2_with (at_builtin; refine wpList_append_rdn37 _ rfl _ _ rfl w.heap.size _ xs rfl HO2.out (some ⟨wr.heap.size + 1, 0, none⟩) 1 1 [(6, ([] : By))] rfl (by first | rfl | simp) (drew_read wr _ 6 ([] : By) 48) (by show xs.length + 1 ≤ _; omega) HB2.out.size ys HY.out ?_; intro N2 nc2 w3 hown2 hb3)
      have hb4 := HB2.out.trans hb3
      clear HO2 HB2 hb3
      go_roundw
      case rel => exact ⟨⟨U.toArray⟩, N2, nc2, ys, rfl, rfl, by have := HYL.out; have := HUL.out; show ys.length + U.length ≤ _; omega, HN, hown2, hb4⟩
      case measure => exact HUL.out
    · rw [h] at C
      obtain ⟨hT, hl2⟩ := toks_k7 h
      rw [size_list] at hl2
      obtain ⟨X, hX⟩ : ∃ X : By, t.extract 1 2 = ⟨X.toArray⟩ := ⟨_, rfl⟩
      obtain ⟨U, hU⟩ : ∃ U : By, t.extract 2 t.size = ⟨U.toArray⟩ := ⟨_, rfl⟩
      have hx : (t.data.toList.drop 1).take 1 = X := by
        have := ext_list t 1 2
        rw [hX, List.drop_take] at this; exact this.symm
      have hu : t.data.toList.drop 2 = U := by
        have := ext_from t 2 t.size (Nat.le_refl _)
        rw [hU] at this; exact this.symm
      have hul : U.length = t.size - 2 := by rw [← hu, List.length_drop, size_list]
      rw [hx, hu] at hT
      obtain ⟨ys, hy⟩ : ∃ ys, xs ++ [(7, X)] = ys := ⟨_, rfl⟩
      have HN := Lib.hid (show ys ++ toks U = R by rw [← HG.out, hT, ← hy]; simp)
      have HYL := Lib.hid (show ys.length = xs.length + 1 by rw [← hy]; simp)
      have HUL := Lib.hid (show U.length < t.size by omega)
      have HY := Lib.hid hy
      have CC := Lib.hid C
      have c0 := new_fst wr (.int .i64 0) (.string ⟨#[]⟩) 48
      have c1 := new_snd wr (.int .i64 0) (.string ⟨#[]⟩) 48
      have f0 := frozen_of hbk1 0
      have f1 := frozen_of hbk1 1
      have SB : Below wr.heap.size wr ((wr.alloc (.cells #[.int .i64 7, .string ⟨X.toArray⟩] 48)).drew) := (one_below wr _).trans ⟨rfl, rfl, rfl, Nat.le_refl _, fun _ _ => rfl⟩
      have SB2 := bch SB (one_below _ (.cells #[.int .i64 7, .string ⟨X.toArray⟩] 48))
      have HO2 := Lib.hid (hown.below SB2)
      have HB2 := Lib.hid (bch hb SB2)
      clear C hT hu hul h HG hown hb1 hbk1 hy SB SB2 hx
      go_wp2_with fail
      refine CC.out.mono ?_
      rintro e w' ⟨rfl, rfl⟩
      go_wp2_with fail
      go_region
      clear c0 c1 f0 f1
      go_wp2_with (at_builtin; refine wpList_append_rdn37 _ rfl _ _ rfl w.heap.size _ xs rfl HO2.out (some ⟨wr.heap.size + 1, 0, none⟩) 1 1 [(7, X)] rfl (by first | rfl | simp) (drew_read wr _ 7 X 48) (by show xs.length + 1 ≤ _; omega) HB2.out.size ys HY.out ?_; intro N2 nc2 w3 hown2 hb3)
      have hb4 := HB2.out.trans hb3
      clear HO2 HB2 hb3
      go_roundw
      case rel => exact ⟨⟨U.toArray⟩, N2, nc2, ys, rfl, rfl, by have := HYL.out; have := HUL.out; show ys.length + U.length ≤ _; omega, HN, hown2, hb4⟩
      case measure => exact HUL.out
end Go.Proofs.YtckldeabbkdbjaaDoor

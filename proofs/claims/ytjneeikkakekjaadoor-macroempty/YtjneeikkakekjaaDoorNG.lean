/-
  strings.Trim of blanks; package macro: single, Flat.
-/
import Derived.Test.YtjneeikkakekjaaDoorNF
namespace Go.Proofs.YtjneeikkakekjaaDoor
open Go.RowKit

theorem sq_left : ∀ (m : Nat) (t : By), sqG true (List.replicate m 32 ++ t) = sqG true t
  | 0, t => by simp
  | m + 1, t => by rw [List.replicate_succ, List.cons_append, sqG, if_pos rfl, if_pos rfl]; exact sq_left m t
theorem sq_right : ∀ (n : Nat) (t : By), sqL (t ++ List.replicate n 32) = sqL t
  | 0, t => by simp
  | n + 1, t => by
    rw [List.replicate_succ', ← List.append_assoc, sq_join, wd_app, show wdG [] ([] : By) = [] from rfl, List.append_nil, ← sq_join]
    exact sq_right n t
theorem sq_last {t : By} (h : t.getLast? ≠ some 32) : trimB (sqG true t) = sqG true t := by
  rcases List.eq_nil_or_concat t with rfl | ⟨u, c, rfl⟩
  · rfl
  · have hc : c ≠ 32 := fun e => h (by rw [e]; simp)
    rw [List.concat_eq_append, sq_step, if_neg hc]
    unfold trimB
    rw [List.getLast?_append]
    simp [hc]
theorem sq_trim {s t u : By} (h1 : ∃ n, s = u ++ List.replicate n 32) (h2 : u.getLast? ≠ some 32) (h3 : ∃ m, u = List.replicate m 32 ++ t) : sqL s = sqG true t := by
  obtain ⟨n, rfl⟩ := h1
  obtain ⟨m, rfl⟩ := h3
  rw [sq_right]
  unfold sqL
  rw [sq_last h2, sq_left]
/-- A text without blanks at one end. -/
def TrimL (w : World) (s : By) (e : Ending) (w' : World) : Prop := ∃ t : ByteArray, e = .returned (.string t) ∧ (∃ m, s = List.replicate m 32 ++ t.data.toList) ∧ t.data.toList.head? ≠ some 32 ∧ w = w'
def TrimR (w : World) (s : By) (e : Ending) (w' : World) : Prop := ∃ t : ByteArray, e = .returned (.string t) ∧ (∃ m, s = t.data.toList ++ List.replicate m 32) ∧ t.data.toList.getLast? ≠ some 32 ∧ w = w'
theorem head_list (t : ByteArray) (h : 0 < t.size) : t.data.toList = t[0] :: t.data.toList.drop 1 := by
  have e : t.data.toList[0]? = some t[0] := List.getElem?_eq_getElem (by rw [size_list]; exact h)
  have := drop_one e
  simpa using this
set_option maxRecDepth 100000 in
set_option maxHeartbeats 2000000 in
theorem trimL_any (s : ByteArray) (w : World) (hs : s.size ≤ 100000000) :
    Calls Tryd.prog 68 #[.string s, .int .u8 32] w (TrimL w s.data.toList) := by
  go_enter Tryd.func68, Tryd.ntmps68
  go_wp2
  go_loop [0] (fun v => ∃ (m : Nat) (t : ByteArray), v = .string t ∧ t.size ≤ 100000000 ∧ Hid (s.data.toList = List.replicate m 32 ++ t.data.toList)) (fun v => strSz v)
  case atStart => exact ⟨0, s, rfl, hs, Lib.hid (by simp)⟩
  case round =>
    obtain ⟨m, t, rfl, ht, HT⟩ := hrel
    by_cases h0 : 0 < t.size
    · have hh := head_list t h0
      obtain ⟨x, hx⟩ : ∃ x : Int, (t[0].toNat : Int) = x := ⟨_, rfl⟩
      have i1 : (0 : Int) < (t.size : Int) := by omega
      by_cases h32 : x = 32
      · have e32 : t[0] = 32 := (int_ne hx).2 h32
        have hex := ext_from t 1 t.size (Nat.le_refl _)
        have hez := ext_size t 1 t.size (Nat.le_refl _)
        have HN := Lib.hid (show s.data.toList = List.replicate (m + 1) 32 ++ (t.extract 1 t.size).data.toList by rw [hex, HT.out, List.replicate_succ', List.append_assoc]; congr 1; rw [hh, e32]; rfl)
        have HEZ := Lib.hid hez
        subst h32
        clear hh e32 hex HT hez
        go_wp2
        go_round
        case rel => exact ⟨m + 1, _, rfl, by rw [HEZ.out]; omega, HN⟩
        case measure => simp only [strSz]; rw [HEZ.out]; omega
      · have q : (x == 32) = false := by simpa using h32
        have HH := Lib.hid (show t.data.toList.head? ≠ some 32 by rw [hh]; intro e; exact h32 ((int_ne hx).1 (Option.some.inj e)))
        clear hh h32
        go_wp2
        go_ret
        exact ⟨t, rfl, ⟨m, HT.out⟩, HH.out, rfl⟩
    · have i1 : ¬ (0 : Int) < (t.size : Int) := by omega
      have HH := Lib.hid (show t.data.toList.head? ≠ some 32 by
        have : t.data.toList = [] := List.eq_nil_of_length_eq_zero (by rw [size_list]; omega)
        rw [this]; simp)
      have z0 : t.size = 0 := by omega
      go_wp2
      go_ret
      exact ⟨t, rfl, ⟨m, HT.out⟩, HH.out, rfl⟩
theorem last_list (t : ByteArray) (m : Nat) (h : t.size = m + 1) : t.data.toList = t.data.toList.take m ++ [t[m]'(by omega)] := by
  have := take_step t m (by omega)
  rwa [List.take_of_length_le (by rw [size_list]; omega)] at this
set_option maxRecDepth 100000 in
set_option maxHeartbeats 2000000 in
theorem trimR_any (s : ByteArray) (w : World) (hs : s.size ≤ 100000000) :
    Calls Tryd.prog 69 #[.string s, .int .u8 32] w (TrimR w s.data.toList) := by
  go_enter Tryd.func69, Tryd.ntmps69
  go_wp2
  go_loop [0] (fun v => ∃ (m : Nat) (t : ByteArray), v = .string t ∧ t.size ≤ 100000000 ∧ Hid (s.data.toList = t.data.toList ++ List.replicate m 32)) (fun v => strSz v)
  case atStart => exact ⟨0, s, rfl, hs, Lib.hid (by simp)⟩
  case round =>
    obtain ⟨m, t, rfl, ht, HT⟩ := hrel
    by_cases h0 : 0 < t.size
    · obtain ⟨p, hp⟩ : ∃ p, t.size = p + 1 := ⟨t.size - 1, by omega⟩
      have hpl : p < t.size := by omega
      have hh := last_list t p hp
      obtain ⟨x, hx⟩ : ∃ x : Int, (t[p].toNat : Int) = x := ⟨_, rfl⟩
      have i1 : (0 : Int) < (t.size : Int) := by omega
      have f0 : IntKind.i64.wrap ((t.size : Int) - 1) = (p : Int) := by rw [IntWalk.i64_in _ (by omega)]; omega
      have f1 : (t.size : Int) - 1 = (p : Int) := by omega
      have f2 : IntKind.i64.wrap (p : Int) = (p : Int) := IntWalk.i64_in _ (by omega)
      have i2 : (p : Int) < (t.size : Int) := by omega
      have i3 : (p : Int) ≤ (t.size : Int) := by omega
      have HP := Lib.hid hp
      by_cases h32 : x = 32
      · have e32 : t[p] = 32 := (int_ne hx).2 h32
        have hex := ext_list t 0 p
        rw [List.drop_zero] at hex
        have hez : (t.extract 0 p).size = p := by rw [← size_list, hex, List.length_take, size_list]; omega
        have HN := Lib.hid (show s.data.toList = (t.extract 0 p).data.toList ++ List.replicate (m + 1) 32 by
          rw [hex, HT.out, List.replicate_succ, List.append_cons]
          congr 1
          rw [← e32]; exact hh)
        have HEZ := Lib.hid hez
        subst h32
        clear hh e32 hex HT hez hp
        go_wp2
        go_round
        case rel => exact ⟨m + 1, _, rfl, by rw [HEZ.out]; omega, HN⟩
        case measure => simp only [strSz]; rw [HEZ.out]; omega
      · have q : (x == 32) = false := by simpa using h32
        have HH := Lib.hid (show t.data.toList.getLast? ≠ some 32 by rw [hh, List.getLast?_concat]; intro e; exact h32 ((int_ne hx).1 (Option.some.inj e)))
        clear hh h32 hp
        go_wp2
        go_ret
        exact ⟨t, rfl, ⟨m, HT.out⟩, HH.out, rfl⟩
    · have i1 : ¬ (0 : Int) < (t.size : Int) := by omega
      have HH := Lib.hid (show t.data.toList.getLast? ≠ some 32 by
        have : t.data.toList = [] := List.eq_nil_of_length_eq_zero (by rw [size_list]; omega)
        rw [this]; simp)
      have z0 : t.size = 0 := by omega
      go_wp2
      go_ret
      exact ⟨t, rfl, ⟨m, HT.out⟩, HH.out, rfl⟩
end Go.Proofs.YtjneeikkakekjaaDoor

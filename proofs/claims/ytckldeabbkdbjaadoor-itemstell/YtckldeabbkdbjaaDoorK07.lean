/-
  Plain mathematics of items (layer 9). No program text in it.
  Plain mathematics of items: what is shown is parsed again; two lists with a Par between.
  Plain mathematics of texts that hold commands and groups (layer 8): what they lex to; groups at the front. No program text in it.
  Plain mathematics of items: blanks around a group's text.
  The document's answer for layer 9: the commands' names, a command's kind, a key, the same items.
-/
import Derived.Test.YtckldeabbkdbjaaDoorK01
import Derived.Test.YtckldeabbkdbjaaDoorK06
namespace Go.Proofs.YtckldeabbkdbjaaDoor

/-! ### groups from a place on are groups of what is to come -/
theorem igrp_from (l : List Tok) (a b : Nat) : grpN l (a + b) = (grpN (l.drop a) b).map (· + a) := by
  unfold grpN
  rw [List.drop_drop]
  cases l.drop (a + b) with
  | nil => rfl
  | cons t r =>
    simp only
    split
    · rw [Option.map_map]
      congr 1
      funext x
      simp only [Function.comp]
      omega
    · rfl
theorem iskip_from (l : List Tok) (a b : Nat) : skipN l (a + b) = skipN (l.drop a) b + a := by
  unfold skipN
  rw [List.drop_drop]
  omega
theorem iwithin_from (l : List Tok) (a b p : Nat) : within l (b + a) (p + a) = within (l.drop a) b p := by
  unfold within
  rw [List.drop_drop]
  congr 1
  · omega
  · congr 1; omega
/-- One group, from the beginning on: what stands within it, and how many tokens it takes. -/
def grp1 (r : List Tok) : Option (List Tok × Nat) := match grpN r (skipN r 0) with
  | none => none
  | some p => some (within r (skipN r 0) p, p)
theorem args_one (l : List Tok) (a : Nat) : argsG l 1 a = (grp1 (l.drop a)).map fun x => ([x.1], x.2 + a) := by
  unfold argsG grp1
  have e : skipN l a = skipN (l.drop a) 0 + a := by
    have := iskip_from l a 0
    rwa [Nat.add_zero] at this
  rw [e, Nat.add_comm (skipN (l.drop a) 0) a, igrp_from]
  cases grpN (l.drop a) (skipN (l.drop a) 0) with
  | none => rfl
  | some p =>
    simp only [Option.map_some, argsG]
    rw [Nat.add_comm a, iwithin_from]
theorem grp1_le {r : List Tok} {x : List Tok} {p : Nat} (h : grp1 r = some (x, p)) : 2 ≤ p ∧ p ≤ r.length ∧ x.length ≤ r.length := by
  unfold grp1 at h
  cases hg : grpN r (skipN r 0) with
  | none => rw [hg] at h; cases h
  | some q =>
    rw [hg] at h
    cases h
    obtain ⟨g1, g2, g3, _⟩ := grp_some hg
    refine ⟨by omega, g3, ?_⟩
    unfold within
    rw [List.length_take, List.length_drop]
    omega

/-! ### items -/
/-- The commands, by their kinds from 4 on. -/
def namesL : List By := [[115, 101, 99, 116, 105, 111, 110], [115, 117, 98], [108, 97, 98, 101, 108], [114, 101, 102], [112, 97, 103, 101, 114, 101, 102], [99, 105, 116, 101], [105, 110, 100, 101, 120], [115, 116, 101, 112], [118, 97, 108, 117, 101], [98, 105, 98], [116, 111, 99], [112, 114, 105, 110, 116, 105, 110, 100, 101, 120], [110, 101, 119, 112, 97, 103, 101]]
def kindI (s : By) : Nat := match namesL.findIdx? (· == s) with
  | some i => i + 4
  | none => 0
def nameI (k : Nat) : By := namesL.getD (k - 4) []
theorem kind_le (s : By) : kindI s = 0 ∨ (4 ≤ kindI s ∧ kindI s ≤ 16) := by
  unfold kindI
  cases h : namesL.findIdx? (· == s) with
  | none => exact .inl rfl
  | some i =>
    have hi := (List.findIdx?_eq_some_iff_getElem.1 h).1
    have : namesL.length = 13 := rfl
    refine .inr ⟨?_, ?_⟩
    · simp only; omega
    · simp only; omega
theorem kind_name {k : Nat} (h4 : 4 ≤ k) (h16 : k ≤ 16) : kindI (nameI k) = k := by
  have : ∀ k : Fin 17, 4 ≤ k.val → kindI (nameI k.val) = k.val := by decide
  exact this ⟨k, by omega⟩ h4
/-- A Word behind what there is. -/
def addI (out : List Tok) (s : By) : List Tok := match out.getLast? with
  | some (k, u) => if k = 1 then out.dropLast ++ [(1, u ++ s)] else if s = [] then out else out ++ [(1, s)]
  | none => if s = [] then out else out ++ [(1, s)]
def groupI (out notes : List Tok) (s : By) (x : List Tok) : List Tok × List Tok :=
  if flatL x = [] ∨ 60 < (flatL x).length then (out, notes ++ [(2, s)]) else (out ++ [((kindI s : Int), flatL x)], notes)
/-- The items of tokens, and the notes, behind those that there are. -/
def parseI : List Tok → List Tok → List Tok → List Tok × List Tok
  | [], out, notes => (out, notes)
  | t :: r, out, notes =>
    if t.1 = 1 then parseI r (addI out t.2) notes
    else if t.1 = 2 ∨ t.1 = 3 then parseI r (out ++ [(t.1, [])]) notes
    else if t.1 = 4 then
      if kindI t.2 = 0 then parseI r out (notes ++ [(11, t.2)])
      else if 13 < kindI t.2 then parseI r (out ++ [((kindI t.2 : Int), [])]) notes
      else match h : grp1 r with
        | none => parseI r out (notes ++ [(10, t.2)])
        | some (x, p) => parseI (r.drop p) (groupI out notes t.2 x).1 (groupI out notes t.2 x).2
    else parseI r out notes
termination_by l => l.length
decreasing_by all_goals (simp only [List.length_cons, List.length_drop]; omega)
/-- May it be one's text? -/
def keyI (s : By) : Bool := decide (s ≠ [] ∧ s.length ≤ 60 ∧ sqL s = s)
/-- Is it right alone? -/
def okI (t : Tok) : Bool :=
  if t.1 = 1 then decide (t.2 ≠ []) else if t.1 = 2 ∨ t.1 = 3 ∨ (14 ≤ t.1 ∧ t.1 ≤ 16) then decide (t.2 = []) else if 4 ≤ t.1 ∧ t.1 ≤ 13 then keyI t.2 else false
/-- Are they right? p: a Text stands ahead. -/
def rightI : Bool → List Tok → Bool
  | _, [] => true
  | p, t :: r => okI t && !(p && t.1 == 1) && rightI (t.1 == 1) r
def showT (t : Tok) : List Tok :=
  if t.1 = 1 then [(1, t.2)] else if t.1 = 2 ∨ t.1 = 3 then [(t.1, [])] else if 4 ≤ t.1 ∧ t.1 ≤ 13 then [(4, nameI t.1.toNat), (5, []), (1, t.2), (6, [])] else if 14 ≤ t.1 ∧ t.1 ≤ 16 then [(4, nameI t.1.toNat)] else []
def showI (l : List Tok) : List Tok := l.flatMap showT

/-! ### what is parsed is right -/
/-- Does it end with a Text? -/
def endT (p : Bool) (l : List Tok) : Bool := match l.getLast? with
  | some t => t.1 == 1
  | none => p
theorem end_app (p : Bool) (l : List Tok) (t : Tok) : endT p (l ++ [t]) = (t.1 == 1) := by unfold endT; simp
theorem right_app : ∀ (l k : List Tok) (p : Bool), rightI p (l ++ k) = (rightI p l && rightI (endT p l) k)
  | [], k, p => by simp [rightI, endT]
  | t :: r, k, p => by
    have e : endT p (t :: r) = endT (t.1 == 1) r := by
      cases r with
      | nil => rfl
      | cons a b => rfl
    simp only [List.cons_append, rightI]
    rw [right_app r k, e]
    simp only [Bool.and_assoc]
theorem right_put {l : List Tok} {t : Tok} (h : rightI false l = true) (h1 : okI t = true) (h2 : t.1 ≠ 1) : rightI false (l ++ [t]) = true := by
  rw [right_app, h]
  simp [rightI, h1, h2]
theorem right_add {out : List Tok} {s : By} (h : rightI false out = true) : rightI false (addI out s) = true := by
  unfold addI
  cases hl : out.getLast? with
  | none =>
    have ho : out = [] := List.getLast?_eq_none_iff.1 hl
    subst ho
    simp only
    split
    · exact h
    · rename_i hs
      simp [rightI, okI, hs]
  | some t =>
    obtain ⟨k, u⟩ := t
    obtain ⟨pre, rfl⟩ := List.getLast?_eq_some_iff.1 hl
    simp only
    rw [right_app] at h
    simp only [Bool.and_eq_true] at h
    obtain ⟨h1, h2⟩ := h
    by_cases hk : k = 1
    · subst hk
      rw [if_pos rfl, List.dropLast_concat, right_app, h1]
      simp only [rightI, Bool.and_eq_true, Bool.and_true, Bool.true_and] at h2 ⊢
      obtain ⟨q1, q2⟩ := h2
      refine ⟨?_, q2⟩
      simp only [okI, if_true, decide_eq_true_eq] at q1 ⊢
      simp [q1]
    · rw [if_neg hk]
      by_cases hs : s = []
      · rw [if_pos hs, right_app, h1]; exact h2
      · rw [if_neg hs, List.append_assoc, right_app, h1]
        simp only [rightI, Bool.and_true, Bool.true_and, List.cons_append, List.nil_append] at h2 ⊢
        simp only [Bool.and_eq_true] at h2 ⊢
        refine ⟨h2, ?_⟩
        simp [okI, hs, hk]
theorem flat_key {x : List Tok} (h : ¬ (flatL x = [] ∨ 60 < (flatL x).length)) : keyI (flatL x) = true := by
  unfold keyI
  simp only [decide_eq_true_eq]
  exact ⟨fun e => h (.inl e), by omega, sq_twice _⟩
theorem right_group {out notes : List Tok} {s : By} {x : List Tok} (h : rightI false out = true) (hk : 4 ≤ kindI s ∧ kindI s ≤ 13) : rightI false (groupI out notes s x).1 = true := by
  unfold groupI
  split
  · exact h
  · rename_i hn
    refine right_put h ?_ (by show ((kindI s : Nat) : Int) ≠ 1; omega)
    unfold okI
    simp only
    rw [if_neg (by omega), if_neg (by omega), if_pos (by omega)]
    exact flat_key hn
theorem right_parse (l out notes : List Tok) : rightI false out = true → rightI false (parseI l out notes).1 = true := by
  induction l, out, notes using parseI.induct with
  | case1 out notes => intro h; rw [parseI]; exact h
  | case2 t r out notes h1 ih => intro h; rw [parseI, if_pos h1]; exact ih (right_add h)
  | case3 t r out notes h1 h2 ih =>
    intro h
    rw [parseI, if_neg h1, if_pos h2]
    refine ih (right_put h ?_ h1)
    unfold okI
    simp only
    rw [if_neg h1, if_pos (by omega)]
    simp
  | case4 t r out notes h1 h2 h3 h4 ih => intro h; rw [parseI, if_neg h1, if_neg h2, if_pos h3, if_pos h4]; exact ih h
  | case5 t r out notes h1 h2 h3 h4 h5 ih =>
    intro h
    rw [parseI, if_neg h1, if_neg h2, if_pos h3, if_neg h4, if_pos h5]
    have := kind_le t.2
    refine ih (right_put h ?_ (by show ((kindI t.2 : Nat) : Int) ≠ 1; omega))
    unfold okI
    simp only
    rw [if_neg (by omega), if_pos (by omega)]
    simp
  | case6 t r out notes h1 h2 h3 h4 h5 hg ih =>
    intro h
    rw [parseI, if_neg h1, if_neg h2, if_pos h3, if_neg h4, if_neg h5]
    split
    · exact ih h
    · rename_i hh; rw [hg] at hh; cases hh
  | case7 t r out notes h1 h2 h3 h4 h5 x p hg ih =>
    intro h
    rw [parseI, if_neg h1, if_neg h2, if_pos h3, if_neg h4, if_neg h5]
    have := kind_le t.2
    split
    · rename_i hh; rw [hg] at hh; cases hh
    · rename_i x' p' hh
      rw [hg] at hh
      cases hh
      exact ih (right_group h (by omega))
  | case8 t r out notes h1 h2 h3 ih => intro h; rw [parseI, if_neg h1, if_neg h2, if_neg h3]; exact ih h
end Go.Proofs.YtckldeabbkdbjaaDoor

namespace Go.Proofs.YtckldeabbkdbjaaDoor

theorem grp1_word (s : By) (r : List Tok) : grp1 ((5, []) :: (1, s) :: (6, []) :: r) = some ([(1, s)], 3) := by
  have hk : skipN ((5, []) :: (1, s) :: (6, []) :: r) 0 = 0 := skip_stop (t := (5, [])) rfl (by decide)
  unfold grp1
  rw [hk]
  have hg : grpN ((5, []) :: (1, s) :: (6, []) :: r) 0 = some 3 := by
    unfold grpN
    simp [endG, dep]
  rw [hg]
  rfl
theorem parse_word (s : By) (r out notes : List Tok) : parseI ((1, s) :: r) out notes = parseI r (addI out s) notes := by
  rw [parseI, if_pos rfl]
theorem parse_gap {k : Int} (hk : k = 2 ∨ k = 3) (s : By) (r out notes : List Tok) : parseI ((k, s) :: r) out notes = parseI r (out ++ [(k, [])]) notes := by
  rw [parseI, if_neg (by show ¬ k = 1; omega), if_pos hk]
theorem parse_lone {k : Nat} (h1 : 14 ≤ k) (h2 : k ≤ 16) (r out notes : List Tok) : parseI ((4, nameI k) :: r) out notes = parseI r (out ++ [((k : Int), [])]) notes := by
  have e := kind_name (k := k) (by omega) h2
  rw [parseI, if_neg (show ¬ (4 : Int) = 1 by decide), if_neg (show ¬ ((4 : Int) = 2 ∨ (4 : Int) = 3) by decide), if_pos rfl]
  simp only [e]
  rw [if_neg (by omega), if_pos (by omega)]
theorem parse_grouped {k : Nat} (h1 : 4 ≤ k) (h2 : k ≤ 13) {s : By} (hs : keyI s = true) (r out notes : List Tok) : parseI ((4, nameI k) :: (5, []) :: (1, s) :: (6, []) :: r) out notes = parseI r (out ++ [((k : Int), s)]) notes := by
  have e := kind_name (k := k) h1 (by omega)
  unfold keyI at hs
  simp only [decide_eq_true_eq] at hs
  obtain ⟨s1, s2, s3⟩ := hs
  have hf : flatL [(1, s)] = s := by
    unfold flatL
    rw [show rawL [((1 : Int), s)] = s by simp [rawL, rawT]]
    exact s3
  rw [parseI, if_neg (show ¬ (4 : Int) = 1 by decide), if_neg (show ¬ ((4 : Int) = 2 ∨ (4 : Int) = 3) by decide), if_pos rfl]
  simp only [e]
  rw [if_neg (by omega), if_neg (by omega)]
  split
  · rename_i hh; rw [grp1_word] at hh; cases hh
  · rename_i x p hh
    rw [grp1_word] at hh
    cases hh
    have hg : groupI out notes (nameI k) [(1, s)] = (out ++ [((k : Int), s)], notes) := by
      unfold groupI
      rw [hf, if_neg (fun h => h.elim s1 (by omega)), e]
    rw [hg]
    rfl
theorem parse_shown : ∀ (l out notes : List Tok), rightI (endT false out) l = true → parseI (showI l) out notes = (out ++ l, notes)
  | [], out, notes, _ => by
    show parseI [] out notes = _
    rw [parseI, List.append_nil]
  | t :: r, out, notes, h => by
    obtain ⟨k, s⟩ := t
    simp only [rightI, Bool.and_eq_true] at h
    obtain ⟨⟨h1, h2⟩, h3⟩ := h
    have e0 : showI ((k, s) :: r) = showT (k, s) ++ showI r := by simp [showI]
    have e1 : out ++ (k, s) :: r = (out ++ [(k, s)]) ++ r := by simp
    have h3 : rightI (endT false (out ++ [(k, s)])) r = true := by rw [end_app]; exact h3
    rw [e0, e1, ← parse_shown r (out ++ [(k, s)]) notes h3]
    unfold okI at h1
    unfold showT
    simp only at h1 ⊢
    by_cases q1 : k = 1
    · subst q1
      simp only [if_true, decide_eq_true_eq] at h1
      simp only [if_true, List.singleton_append]
      rw [parse_word]
      congr 1
      unfold addI
      unfold endT at h2
      cases hl : out.getLast? with
      | none => simp only [if_neg h1]
      | some t =>
        obtain ⟨j, u⟩ := t
        rw [hl] at h2
        have hj : j ≠ 1 := by
          intro e
          subst e
          simp at h2
        simp only [if_neg hj, if_neg h1]
    · rw [if_neg q1] at h1
      rw [if_neg q1]
      by_cases q2 : k = 2 ∨ k = 3
      · rw [if_pos (by omega)] at h1
        rw [if_pos q2]
        simp only [decide_eq_true_eq] at h1
        subst h1
        rw [List.singleton_append, parse_gap q2]
      · rw [if_neg q2]
        by_cases q3 : 4 ≤ k ∧ k ≤ 13
        · rw [if_neg (by omega), if_pos q3] at h1
          rw [if_pos q3]
          obtain ⟨n, rfl⟩ : ∃ n : Nat, k = n := ⟨k.toNat, by omega⟩
          rw [Int.toNat_natCast]
          exact parse_grouped (by omega) (by omega) h1 _ _ _
        · rw [if_neg q3]
          by_cases q4 : 14 ≤ k ∧ k ≤ 16
          · rw [if_pos (by omega)] at h1
            rw [if_pos q4]
            simp only [decide_eq_true_eq] at h1
            subst h1
            obtain ⟨n, rfl⟩ : ∃ n : Nat, k = n := ⟨k.toNat, by omega⟩
            rw [Int.toNat_natCast, List.singleton_append]
            exact parse_lone (by omega) (by omega) _ _ _
          · rw [if_neg (by omega), if_neg q3] at h1
            cases h1
/-- Right items are parsed of what is shown of them; of others others are. -/
theorem back_iff (k : List Tok) : (decide ((parseI (showI k) [] []).1 = k) && decide ((parseI (showI k) [] []).2.length = 0)) = rightI false k := by
  cases h : rightI false k with
  | true =>
    rw [parse_shown k [] [] h]
    simp
  | false =>
    have hr := right_parse (showI k) [] [] rfl
    have hne : (parseI (showI k) [] []).1 ≠ k := fun e => by rw [e, h] at hr; cases hr
    simp [hne]

/-! ### behind what there is -/
theorem add_front {o out : List Tok} {s : By} (h : endT false o = false) : addI (o ++ out) s = o ++ addI out s := by
  unfold addI
  cases hl : out.getLast? with
  | none =>
    have ho : out = [] := List.getLast?_eq_none_iff.1 hl
    subst ho
    rw [List.append_nil]
    unfold endT at h
    cases hg : o.getLast? with
    | none =>
      simp only
      split <;> simp
    | some t =>
      obtain ⟨j, u⟩ := t
      rw [hg] at h
      have hj : j ≠ 1 := by
        intro e
        subst e
        simp at h
      simp only [if_neg hj]
      split <;> simp
  | some t =>
    obtain ⟨pre, rfl⟩ := List.getLast?_eq_some_iff.1 hl
    rw [← List.append_assoc, List.getLast?_concat]
    obtain ⟨j, u⟩ := t
    simp only [List.dropLast_concat]
    split
    · simp
    · split <;> simp
theorem group_front (o out n notes : List Tok) (s : By) (x : List Tok) : groupI (o ++ out) (n ++ notes) s x = (o ++ (groupI out notes s x).1, n ++ (groupI out notes s x).2) := by
  unfold groupI
  split <;> simp
theorem parse_front {o : List Tok} (ho : endT false o = false) (n : List Tok) (l out notes : List Tok) : parseI l (o ++ out) (n ++ notes) = (o ++ (parseI l out notes).1, n ++ (parseI l out notes).2) := by
  induction l, out, notes using parseI.induct with
  | case1 out notes => rw [parseI, parseI]
  | case2 t r out notes h1 ih => rw [parseI, if_pos h1, parseI, if_pos h1, add_front ho]; exact ih
  | case3 t r out notes h1 h2 ih =>
    rw [parseI, if_neg h1, if_pos h2, parseI, if_neg h1, if_pos h2, List.append_assoc]; exact ih
  | case4 t r out notes h1 h2 h3 h4 ih =>
    rw [parseI, if_neg h1, if_neg h2, if_pos h3, if_pos h4, parseI, if_neg h1, if_neg h2, if_pos h3, if_pos h4, List.append_assoc]; exact ih
  | case5 t r out notes h1 h2 h3 h4 h5 ih =>
    rw [parseI, if_neg h1, if_neg h2, if_pos h3, if_neg h4, if_pos h5, parseI, if_neg h1, if_neg h2, if_pos h3, if_neg h4, if_pos h5, List.append_assoc]; exact ih
  | case6 t r out notes h1 h2 h3 h4 h5 hg ih =>
    rw [parseI, if_neg h1, if_neg h2, if_pos h3, if_neg h4, if_neg h5, parseI, if_neg h1, if_neg h2, if_pos h3, if_neg h4, if_neg h5]
    split
    · rw [List.append_assoc]; exact ih
    · rename_i hh; rw [hg] at hh; cases hh
  | case7 t r out notes h1 h2 h3 h4 h5 x p hg ih =>
    rw [parseI, if_neg h1, if_neg h2, if_pos h3, if_neg h4, if_neg h5, parseI, if_neg h1, if_neg h2, if_pos h3, if_neg h4, if_neg h5]
    split
    · rename_i hh; rw [hg] at hh; cases hh
    · rename_i x' p' hh
      rw [hg] at hh
      cases hh
      rw [group_front]
      exact ih
  | case8 t r out notes h1 h2 h3 ih => rw [parseI, if_neg h1, if_neg h2, if_neg h3, parseI, if_neg h1, if_neg h2, if_neg h3]; exact ih

/-! ### two lists with a Par between -/
/-- Closes less Opens. -/
def clI : List Tok → Int
  | [] => 0
  | t :: r => (if t.1 = 6 then 1 else if t.1 = 5 then -1 else 0) + clI r
/-- Each Open has its Close. -/
def sufI (l : List Tok) : Prop := ∀ i, 0 ≤ clI (l.drop i)
theorem end_none : ∀ (l : List Tok) (d : Nat), 1 ≤ d → endG d l = none → clI l < (d : Int)
  | [], d, h, _ => by show (0 : Int) < d; omega
  | t :: r, d, h, he => by
    unfold endG at he
    split at he
    · cases he
    · rename_i hd
      have hn : endG (dep d t) r = none := by
        cases hz : endG (dep d t) r with
        | none => rfl
        | some m => rw [hz] at he; cases he
      have := end_none r (dep d t) (by omega) hn
      unfold clI
      unfold dep at this hd
      by_cases q5 : t.1 = 5
      · rw [if_pos q5] at this
        rw [if_neg (by omega), if_pos q5]
        omega
      · rw [if_neg q5] at this hd
        by_cases q6 : t.1 = 6
        · rw [if_pos q6] at this hd ⊢
          omega
        · rw [if_neg q6] at this
          rw [if_neg q6, if_neg q5]
          omega
theorem end_more : ∀ (l k : List Tok) (d n : Nat), endG d l = some n → endG d (l ++ k) = some n
  | [], k, d, n, h => by simp [endG] at h
  | t :: r, k, d, n, h => by
    rw [List.cons_append]
    unfold endG at h ⊢
    split at h
    · rename_i hd
      rw [if_pos hd]
      exact h
    · rename_i hd
      rw [if_neg hd]
      cases he : endG (dep d t) r with
      | none => rw [he] at h; cases h
      | some m =>
        rw [he] at h
        rw [end_more r k _ m he]
        exact h
theorem grp_more {r k : List Tok} {s : By} (h : sufI r) (a : Nat) (ha : a ≤ r.length) : grpN (r ++ (3, s) :: k) a = grpN r a := by
  unfold grpN
  rw [List.drop_append_of_le_length ha]
  cases hd : r.drop a with
  | nil => simp
  | cons t q =>
    simp only [List.cons_append]
    by_cases h5 : t.1 = 5
    · rw [if_pos h5, if_pos h5]
      cases he : endG 0 (t :: q) with
      | some n => rw [show t :: (q ++ (3, s) :: k) = (t :: q) ++ (3, s) :: k from rfl, end_more _ _ _ _ he]
      | none =>
        exfalso
        have hs := h a
        rw [hd] at hs
        unfold endG at he
        have d1 : dep 0 t = 1 := by simp [dep, h5]
        rw [d1, if_neg (by decide)] at he
        have hn : endG 1 q = none := by
          cases hz : endG 1 q with
          | none => rfl
          | some m => rw [hz] at he; cases he
        have := end_none q 1 (Nat.le_refl _) hn
        unfold clI at hs
        rw [if_neg (by omega), if_pos h5] at hs
        omega
    · rw [if_neg h5, if_neg h5]
theorem skip_more (r k : List Tok) (s : By) : skipN (r ++ (3, s) :: k) 0 = skipN r 0 := by
  unfold skipN
  simp only [List.drop_zero, Nat.zero_add]
  congr 1
  induction r with
  | nil => simp
  | cons t q ih =>
    rw [List.cons_append, List.takeWhile_cons, List.takeWhile_cons]
    split
    · rw [ih]
    · rfl
theorem grp1_more {r k : List Tok} {s : By} (h : sufI r) : grp1 (r ++ (3, s) :: k) = grp1 r := by
  unfold grp1
  have hs := (skip_le (l := r) (a := 0) (Nat.zero_le _)).2
  rw [skip_more, grp_more h _ hs]
  cases hg : grpN r (skipN r 0) with
  | none => rfl
  | some p =>
    obtain ⟨g1, g2, g3, _⟩ := grp_some hg
    simp only [Option.some.injEq, Prod.mk.injEq, and_true]
    unfold within
    rw [List.drop_append_of_le_length (by omega), List.take_append_of_le_length (by rw [List.length_drop]; omega)]
theorem suf_tail {t : Tok} {r : List Tok} (h : sufI (t :: r)) : sufI r := fun i => by
  have := h (i + 1)
  simpa using this
theorem suf_drop {r : List Tok} (h : sufI r) (p : Nat) : sufI (r.drop p) := fun i => by
  have := h (p + i)
  rwa [← List.drop_drop] at this
theorem parse_more {k : List Tok} {s : By} (l out notes : List Tok) : sufI l → parseI (l ++ (3, s) :: k) out notes = parseI ((3, s) :: k) (parseI l out notes).1 (parseI l out notes).2 := by
  induction l, out, notes using parseI.induct with
  | case1 out notes => intro _; rw [parseI.eq_def [] out notes]; rfl
  | case2 t r out notes h1 ih => intro h; rw [List.cons_append, parseI, if_pos h1, parseI.eq_def (t :: r)]; simp only [if_pos h1]; exact ih (suf_tail h)
  | case3 t r out notes h1 h2 ih => intro h; rw [List.cons_append, parseI, if_neg h1, if_pos h2, parseI.eq_def (t :: r)]; simp only [if_neg h1, if_pos h2]; exact ih (suf_tail h)
  | case4 t r out notes h1 h2 h3 h4 ih => intro h; rw [List.cons_append, parseI, if_neg h1, if_neg h2, if_pos h3, if_pos h4, parseI.eq_def (t :: r)]; simp only [if_neg h1, if_neg h2, if_pos h3, if_pos h4]; exact ih (suf_tail h)
  | case5 t r out notes h1 h2 h3 h4 h5 ih => intro h; rw [List.cons_append, parseI, if_neg h1, if_neg h2, if_pos h3, if_neg h4, if_pos h5, parseI.eq_def (t :: r)]; simp only [if_neg h1, if_neg h2, if_pos h3, if_neg h4, if_pos h5]; exact ih (suf_tail h)
  | case6 t r out notes h1 h2 h3 h4 h5 hg ih =>
    intro h
    have hm := grp1_more (k := k) (s := s) (suf_tail h)
    have e : parseI (t :: r) out notes = parseI r out (notes ++ [(10, t.2)]) := by
      rw [parseI, if_neg h1, if_neg h2, if_pos h3, if_neg h4, if_neg h5]
      split
      · rfl
      · rename_i hh; rw [hg] at hh; cases hh
    rw [e, List.cons_append, parseI, if_neg h1, if_neg h2, if_pos h3, if_neg h4, if_neg h5]
    split
    · exact ih (suf_tail h)
    · rename_i hh; rw [hm, hg] at hh; cases hh
  | case7 t r out notes h1 h2 h3 h4 h5 x p hg ih =>
    intro h
    have hm := grp1_more (k := k) (s := s) (suf_tail h)
    have hp := (grp1_le hg).2.1
    have e : parseI (t :: r) out notes = parseI (r.drop p) (groupI out notes t.2 x).1 (groupI out notes t.2 x).2 := by
      rw [parseI, if_neg h1, if_neg h2, if_pos h3, if_neg h4, if_neg h5]
      split
      · rename_i hh; rw [hg] at hh; cases hh
      · rename_i x' p' hh; rw [hg] at hh; cases hh; rfl
    rw [e, List.cons_append, parseI, if_neg h1, if_neg h2, if_pos h3, if_neg h4, if_neg h5]
    split
    · rename_i hh; rw [hm, hg] at hh; cases hh
    · rename_i x' p' hh
      rw [hm, hg] at hh
      cases hh
      rw [List.drop_append_of_le_length hp]
      exact ih (suf_drop (suf_tail h) p)
  | case8 t r out notes h1 h2 h3 ih => intro h; rw [List.cons_append, parseI, if_neg h1, if_neg h2, if_neg h3, parseI.eq_def (t :: r)]; simp only [if_neg h1, if_neg h2, if_neg h3]; exact ih (suf_tail h)
theorem items_join {l k : List Tok} (h : sufI l) : parseI (l ++ (3, []) :: k) [] [] = ((parseI l [] []).1 ++ (3, []) :: (parseI k [] []).1, (parseI l [] []).2 ++ (parseI k [] []).2) := by
  rw [parse_more l [] [] h, parse_gap (.inr rfl)]
  have := parse_front (o := (parseI l [] []).1 ++ [(3, [])]) (by rw [end_app]; rfl) (parseI l [] []).2 k [] []
  rw [List.append_nil, List.append_nil] at this
  rw [this]
  simp
end Go.Proofs.YtckldeabbkdbjaaDoor

namespace Go.Proofs.YtckldeabbkdbjaaDoor

/-! ### which tokens a text may have -/
theorem one_kind (c : UInt8) (r : By) : (one c r).1.1 = kd c r ∨ (one c r).1 = (3, []) ∧ kd c r = 2 := by
  rcases kd_ways c r with h | ⟨h, _⟩ | h | h | ⟨h, _⟩ | h
  · have e : (one c r).1 = (if 2 ≤ (gapG false 0 (c :: r)).1 then 3 else 2, []) := by unfold one; rw [if_neg (by omega), if_pos h]
    rw [e, h]
    by_cases q : 2 ≤ (gapG false 0 (c :: r)).1
    · rw [if_pos q]; exact .inr ⟨rfl, rfl⟩
    · rw [if_neg q]; exact .inl rfl
  all_goals (left; unfold one; rw [h]; rfl)
theorem one_four {c : UInt8} {r : By} {w : By} (h : (one c r).1 = (4, w)) : c = 92 ∧ w = r.takeWhile ltr := by
  rcases one_kind c r with q | ⟨q, _⟩
  · rw [h] at q
    have q' : kd c r = 4 := q.symm
    refine ⟨?_, ?_⟩
    · rcases kd_ways c r with k | ⟨_, k, _⟩ | k | k | ⟨k, _⟩ | k
      · rw [q'] at k; cases k
      · exact k
      all_goals (rw [q'] at k; cases k)
    · have e : (one c r).1 = (4, r.takeWhile ltr) := by unfold one; rw [q']; rfl
      rw [e] at h
      exact (congrArg Prod.snd h).symm
  · rw [h] at q; cases q
/-- Each token begins somewhere in the text. -/
theorem tok_at : ∀ (f : Nat) (s : By), s.length ≤ f → ∀ t ∈ toks s, ∃ c r, (c :: r) <:+ s ∧ t = (one c r).1
  | _, [], _, t, ht => by rw [toks_nil] at ht; cases ht
  | 0, c :: r, h, _, _ => by simp at h
  | f + 1, c :: r, h, t, ht => by
    simp at h
    rw [toks_cons] at ht
    rcases List.mem_cons.1 ht with rfl | ht
    · exact ⟨c, r, List.suffix_refl _, rfl⟩
    · obtain ⟨d, u, h1, h2⟩ := tok_at f _ (by have := one_less c r; omega) t ht
      exact ⟨d, u, h1.trans (one_suffix c r), h2⟩
/-- A command stands in the text as it is written. -/
theorem command_in {s w : By} (h : (4, w) ∈ toks s) : (92 :: w) <:+: s := by
  obtain ⟨c, r, h1, h2⟩ := tok_at _ s (Nat.le_refl _) _ h
  obtain ⟨rfl, rfl⟩ := one_four h2.symm
  obtain ⟨u, hu⟩ := List.takeWhile_prefix (p := ltr) (l := r)
  exact (show (92 :: r.takeWhile ltr) <+: (92 :: r) from ⟨u, by rw [List.cons_append, hu]⟩).isInfix.trans h1.isInfix
/-- Without a backslash no command. -/
theorem no_command {s : By} (h : ∀ c ∈ s, c ≠ 92) : ∀ t ∈ toks s, t.1 ≠ 4 := by
  intro t ht e
  obtain ⟨k, w⟩ := t
  simp only at e
  subst e
  obtain ⟨c, r, h1, h2⟩ := tok_at _ s (Nat.le_refl _) _ ht
  exact h c (h1.subset List.mem_cons_self) (one_four h2.symm).1
/-! ### texts of letters and blanks -/
/-- A letter, or a blank. -/
def simB (c : UInt8) : Bool := ltr c || c == 32
/-- Letters and blanks, the last one a letter. -/
def Sim (s : By) : Prop := (∀ c ∈ s, simB c = true) ∧ ∀ c, s.getLast? = some c → ltr c = true
theorem ltr_kd {c : UInt8} (h : ltr c = true) (r : By) : kd c r = 1 := kd_plain (ltr_plain h) r
theorem blank_kd (r : By) : kd 32 r = 2 := kd_two.2 (by decide)
theorem sim_ways {c : UInt8} (h : simB c = true) : ltr c = true ∨ c = 32 := by
  unfold simB at h
  simpa using h
theorem sim_suffix {s v : By} (h : Sim s) (hv : v <:+ s) : Sim v := by
  obtain ⟨p, rfl⟩ := hv
  refine ⟨fun c hc => h.1 c (by simp [hc]), fun c hc => h.2 c ?_⟩
  rw [List.getLast?_append, hc]; rfl
theorem word_front (u : By) (hu : hk u ≠ 1) : ∀ (s : By), (∀ c ∈ s, simB c = true) → wordG (s ++ u) = ((wordG s).1, (wordG s).2 ++ u)
  | [], _ => by rw [List.nil_append, word_none hu]; rfl
  | c :: r, h => by
    rcases sim_ways (h c (by simp)) with q | q
    · have hc : c ≠ 92 := fun e => by subst e; exact absurd q (by decide)
      rw [List.cons_append, word_step hc (ltr_kd q _), word_step hc (ltr_kd q _), word_front u hu r fun x hx => h x (by simp [hx])]
    · subst q
      have k1 : hk (32 :: r) ≠ 1 := by show kd 32 r ≠ 1; rw [blank_kd]; decide
      have k2 : hk (32 :: (r ++ u)) ≠ 1 := by show kd 32 (r ++ u) ≠ 1; rw [blank_kd]; decide
      rw [List.cons_append, word_none k2, word_none k1]; rfl
theorem gap_some : ∀ (s : By) (n : Nat), (∃ c ∈ s, ltr c = true) → (∀ c ∈ s, simB c = true) → (gapG false n s).2 ≠ []
  | [], n, h, _ => by obtain ⟨c, hc, _⟩ := h; cases hc
  | c :: r, n, h, hs => by
    rcases sim_ways (hs c (by simp)) with q | q
    · have e : gapG false n (c :: r) = (n, c :: r) := gap_none (by show kd c r ≠ 2; rw [ltr_kd q]; decide) n
      rw [e]; simp
    · subst q
      obtain ⟨x, hx, hl⟩ := h
      have hr : ∃ x ∈ r, ltr x = true := by
        rcases List.mem_cons.1 hx with rfl | hx
        · exact absurd hl (by decide)
        · exact ⟨x, hx, hl⟩
      have := gap_some r n hr fun x hx => hs x (by simp [hx])
      unfold gapG
      rw [if_neg (by decide), if_neg (by decide), if_pos (by decide)]
      exact this
theorem toks_sim (u : By) (hu : hk u ≠ 1) : ∀ (f : Nat) (s : By), s.length ≤ f → Sim s → toks (s ++ u) = toks s ++ toks u
  | _, [], _, _ => rfl
  | 0, c :: r, h, _ => by simp at h
  | f + 1, c :: r, h, hs => by
    simp at h
    have e : one c (r ++ u) = ((one c r).1, (one c r).2 ++ u) := by
      rcases sim_ways (hs.1 c (by simp)) with q | q
      · have e1 : one c r = ((1, (wordG (c :: r)).1), (wordG (c :: r)).2) := by unfold one; rw [if_pos (ltr_kd q r)]
        have e2 : one c (r ++ u) = ((1, (wordG (c :: (r ++ u))).1), (wordG (c :: (r ++ u))).2) := by unfold one; rw [if_pos (ltr_kd q _)]
        have := word_front u hu (c :: r) hs.1
        rw [List.cons_append] at this
        rw [e1, e2, this]
      · subst q
        have e1 : one 32 r = ((if 2 ≤ (gapG false 0 (32 :: r)).1 then 3 else 2, []), (gapG false 0 (32 :: r)).2) := by unfold one; rw [if_neg (by rw [blank_kd]; decide), if_pos (blank_kd r)]
        have e2 : one 32 (r ++ u) = ((if 2 ≤ (gapG false 0 (32 :: (r ++ u))).1 then 3 else 2, []), (gapG false 0 (32 :: (r ++ u))).2) := by unfold one; rw [if_neg (by rw [blank_kd]; decide), if_pos (blank_kd _)]
        have hn : ∃ x ∈ (32 :: r), ltr x = true := by
          cases hl : (32 :: r).getLast? with
          | none => simp at hl
          | some x => exact ⟨x, List.mem_of_getLast? hl, hs.2 x hl⟩
        have := gap_app u (32 :: r) false 0 (gap_some _ 0 hn hs.1)
        rw [List.cons_append] at this
        rw [e1, e2, this]
    rw [List.cons_append, toks_cons, e, toks_cons]
    rw [toks_sim u hu f _ (by have := one_less c r; omega) (sim_suffix hs (one_suffix c r))]
    rfl
/-- The tokens of letters and blanks are Words and Spaces. -/
theorem sim_kinds {s : By} (h : ∀ c ∈ s, simB c = true) : ∀ t ∈ toks s, t.1 = 1 ∨ t.1 = 2 ∨ t.1 = 3 := by
  intro t ht
  obtain ⟨c, r, h1, rfl⟩ := tok_at _ s (Nat.le_refl _) _ ht
  rcases one_kind c r with q | ⟨q, _⟩
  · rw [q]
    rcases sim_ways (h c (h1.subset List.mem_cons_self)) with k | rfl
    · rw [ltr_kd k]; simp
    · rw [blank_kd]; simp
  · rw [q]; simp
theorem bal_flat : ∀ {l : List Tok} (d : Nat), (∀ t ∈ l, t.1 ≠ 5 ∧ t.1 ≠ 6) → balG d l = (d == 0)
  | [], d, _ => rfl
  | t :: r, d, h => by
    obtain ⟨h5, h6⟩ := h t (by simp)
    unfold balG
    rw [if_neg h5, if_neg h6]
    exact bal_flat d fun x hx => h x (by simp [hx])
/-- Tokens written out at the front of a text. -/
theorem toks_front : ∀ (l : List Tok) (u : By), rightL l = true → (∀ t, l.getLast? = some t → fits t u) → toks (textL l ++ u) = l ++ toks u
  | [], u, _, _ => rfl
  | [a], u, h, hf => by
    have e : textL [a] = tokT a := by simp [textL]
    rw [e, toks_tok a u h (hf a rfl)]; rfl
  | a :: b :: r, u, h, hf => by
    unfold rightL at h
    rw [Bool.and_eq_true, Bool.and_eq_true] at h
    obtain ⟨⟨h1, h2⟩, h3⟩ := h
    have hb : mayB b = true := by
      cases r with
      | nil => exact h3
      | cons c r => unfold rightL at h3; rw [Bool.and_eq_true, Bool.and_eq_true] at h3; exact h3.1.1
    have ih := toks_front (b :: r) u h3 (fun t ht => hf t (by rw [List.getLast?_cons_cons]; exact ht))
    have e : textL (a :: b :: r) ++ u = tokT a ++ (textL (b :: r) ++ u) := by simp [textL]
    have e2 : textL (b :: r) ++ u = tokT b ++ (textL r ++ u) := by simp [textL]
    rw [e, toks_tok a _ h1 (by rw [e2]; exact fits_next h2 hb _), ih]; rfl

/-! ### groups at the front -/
/-- Groups, each behind Spaces. -/
def gpsL : List (List Tok × List Tok) → List Tok
  | [] => []
  | g :: r => g.1 ++ (5, []) :: (g.2 ++ (6, []) :: gpsL r)
theorem args_front (v : List Tok) : ∀ (gs : List (List Tok × List Tok)) (pre : List Tok), (∀ g ∈ gs, (∀ t ∈ g.1, t.1 = 2) ∧ balG 0 g.2 = true) →
    argsG (pre ++ (gpsL gs ++ v)) gs.length pre.length = some (gs.map (·.2), (pre ++ gpsL gs).length)
  | [], pre, _ => by simp [argsG, gpsL]
  | g :: r, pre, h => by
    obtain ⟨hs, hb⟩ := h g (by simp)
    have e1 : pre ++ (gpsL (g :: r) ++ v) = (pre ++ g.1) ++ (5, []) :: (g.2 ++ (6, []) :: (gpsL r ++ v)) := by simp [gpsL]
    have e2 : pre ++ (gpsL (g :: r) ++ v) = (pre ++ g.1 ++ (5, []) :: (g.2 ++ [(6, [])])) ++ (gpsL r ++ v) := by simp [gpsL]
    have hk : skipN (pre ++ (gpsL (g :: r) ++ v)) pre.length = (pre ++ g.1).length := by
      have := skip_open pre g.1 (g.2 ++ (6, []) :: (gpsL r ++ v)) [] hs
      rw [List.length_append, ← this]
      congr 1
      simp [gpsL]
    have ih := args_front v r (pre ++ g.1 ++ (5, []) :: (g.2 ++ [(6, [])])) (fun x hx => h x (by simp [hx]))
    rw [← e2] at ih
    have hg : grpN (pre ++ (gpsL (g :: r) ++ v)) (pre ++ g.1).length = some ((pre ++ g.1).length + g.2.length + 2) := by
      rw [e1]; exact grp_bal _ g.2 _ _ _ hb
    have hw : within (pre ++ (gpsL (g :: r) ++ v)) (pre ++ g.1).length ((pre ++ g.1).length + g.2.length + 2) = g.2 := by
      rw [e1]; exact within_bal _ g.2 _ _ _
    have hl2 : (pre ++ g.1 ++ (5, []) :: (g.2 ++ [(6, ([] : By))])).length = (pre ++ g.1).length + g.2.length + 2 := by simp; omega
    rw [hl2] at ih
    rw [List.length_cons]
    unfold argsG
    rw [hk, hg]
    simp only [hw, ih, Option.map_some, List.map_cons, Option.some.injEq, Prod.mk.injEq, true_and]
    simp [gpsL]
theorem args_now (gs : List (List Tok × List Tok)) (v : List Tok) (h : ∀ g ∈ gs, (∀ t ∈ g.1, t.1 = 2) ∧ balG 0 g.2 = true) : argsG (gpsL gs ++ v) gs.length 0 = some (gs.map (·.2), (gpsL gs).length) := by
  have := args_front v gs [] h
  simpa using this
end Go.Proofs.YtckldeabbkdbjaaDoor

namespace Go.Proofs.YtckldeabbkdbjaaDoor

/-! ### gaps of blanks and line ends -/
def nlI (g : By) : Nat := (g.filter (· == 10)).length
theorem gap_run (u : By) (hu : hk u ≠ 2) : ∀ (g : By) (n : Nat), (∀ c ∈ g, c = 32 ∨ c = 10) → gapG false n (g ++ u) = (n + nlI g, u)
  | [], n, _ => by rw [List.nil_append, gap_none hu]; rfl
  | c :: r, n, h => by
    rw [List.cons_append]
    unfold gapG
    rcases h c (by simp) with rfl | rfl
    · rw [if_neg (by decide), if_neg (by decide), if_pos (by decide), gap_run u hu r n fun x hx => h x (by simp [hx])]
      rfl
    · rw [if_neg (by decide), if_pos rfl, gap_run u hu r (n + 1) fun x hx => h x (by simp [hx])]
      have : nlI (10 :: r) = nlI r + 1 := by simp [nlI]
      rw [this]
      congr 1
      omega
/-- A gap's token, if it is none. -/
def spI (g : By) : List Tok := if g = [] then [] else [(if 2 ≤ nlI g then 3 else 2, [])]
theorem toks_gap (u : By) (hu : hk u ≠ 2) (g : By) (h : ∀ c ∈ g, c = 32 ∨ c = 10) : toks (g ++ u) = spI g ++ toks u := by
  cases g with
  | nil => rfl
  | cons c r =>
    have hr := gap_run u hu (c :: r) 0 h
    have hk2 : kd c (r ++ u) = 2 := kd_two.2 (by rcases h c (by simp) with rfl | rfl <;> decide)
    rw [List.cons_append] at hr ⊢
    rw [toks_cons]
    have e : one c (r ++ u) = ((if 2 ≤ nlI (c :: r) then 3 else 2, []), u) := by
      unfold one
      rw [if_neg (by omega), if_pos hk2, hr]
      simp
    rw [e]
    rfl
theorem raw_sp (g : By) : rawL (spI g) = if g = [] then [] else [32] := by
  unfold spI
  split
  · rfl
  · split <;> simp [rawL, rawT]
theorem sq_ahead (s : By) : sqL (32 :: s) = sqL s := by
  have := sq_two [] s
  rw [List.nil_append] at this
  rw [this]
  simp [sqL, sqG, trimB]
theorem sq_behind (s : By) : sqL (s ++ [32]) = sqL s := by
  have := sq_two s []
  rw [this]
  simp [sqL, sqG, trimB]
/-- Gaps at its ends make no difference. -/
theorem flat_gaps (g1 g2 : By) (X : List Tok) : flatL (spI g1 ++ (X ++ spI g2)) = flatL X := by
  unfold flatL
  rw [raw_app, raw_app, raw_sp, raw_sp]
  split
  · split
    · simp
    · rw [List.nil_append]; exact sq_behind _
  · split
    · rw [List.append_nil]; exact sq_ahead _
    · rw [List.singleton_append, sq_ahead]; exact sq_behind _
theorem flat_braces (X : List Tok) : flatL ((5, []) :: (X ++ [(6, [])])) = flatL X := by
  unfold flatL
  have : rawL ((5, []) :: (X ++ [(6, [])])) = rawL X := by simp [rawL, rawT]
  rw [this]

/-! ### letters and blanks: what stands between the blanks -/
theorem take_is {p : UInt8 → Bool} : ∀ (l : By), ∀ c ∈ l.takeWhile p, p c = true
  | [], c, h => by cases h
  | x :: r, c, h => by
    rw [List.takeWhile_cons] at h
    split at h
    · rename_i hx
      rcases List.mem_cons.1 h with rfl | h
      · exact hx
      · exact take_is r c h
    · cases h
theorem sim_parts (k : By) (h : ∀ c ∈ k, simB c = true) : ∃ g1 s g2 : By, k = g1 ++ (s ++ g2) ∧ (∀ c ∈ g1, c = 32) ∧ (∀ c ∈ g2, c = 32) ∧ Sim s ∧ (s ≠ [] → hk s = 1) ∧ (s = [] → g2 = []) := by
  obtain ⟨g1, hg1⟩ : ∃ g1, g1 = k.takeWhile (· == 32) := ⟨_, rfl⟩
  obtain ⟨r, hr⟩ : ∃ r, r = k.dropWhile (· == 32) := ⟨_, rfl⟩
  have e1 : k = g1 ++ r := by rw [hg1, hr, List.takeWhile_append_dropWhile]
  have a1 : ∀ c ∈ g1, c = 32 := fun c hc => by
    rw [hg1] at hc
    simpa using take_is _ c hc
  have hrs : ∀ c ∈ r, simB c = true := fun c hc => h c (by rw [e1]; simp [hc])
  have hr0 : ∀ c q, r = c :: q → ltr c = true := fun c q e => by
    have hc : c ≠ 32 := fun e2 => by
      have h2 := List.head?_dropWhile_not (fun x : UInt8 => x == 32) k
      rw [← hr, e] at h2
      simp [e2] at h2
    rcases sim_ways (hrs c (by rw [e]; simp)) with q | q
    · exact q
    · exact absurd q hc
  obtain ⟨g2, hg2⟩ : ∃ g2, g2 = (r.reverse.takeWhile (· == 32)).reverse := ⟨_, rfl⟩
  obtain ⟨s, hs⟩ : ∃ s, s = (r.reverse.dropWhile (· == 32)).reverse := ⟨_, rfl⟩
  have e2 : r = s ++ g2 := by
    rw [hs, hg2, ← List.reverse_append, List.takeWhile_append_dropWhile, List.reverse_reverse]
  have a2 : ∀ c ∈ g2, c = 32 := fun c hc => by
    rw [hg2] at hc
    simpa using take_is _ c (List.mem_reverse.1 hc)
  refine ⟨g1, s, g2, by rw [← e2]; exact e1, a1, a2, ⟨fun c hc => hrs c (by rw [e2]; simp [hc]), fun c hc => ?_⟩, fun hne => ?_, fun h0 => ?_⟩
  · have hm : c ∈ s := List.mem_of_getLast? hc
    have hc32 : c ≠ 32 := fun e => by
      rw [hs, List.getLast?_reverse] at hc
      have h2 := List.head?_dropWhile_not (fun x : UInt8 => x == 32) r.reverse
      rw [hc] at h2
      simp [e] at h2
    rcases sim_ways (hrs c (by rw [e2]; simp [hm])) with q | q
    · exact q
    · exact absurd q hc32
  · cases s with
    | nil => exact absurd rfl hne
    | cons c q => exact ltr_kd (hr0 c (q ++ g2) (by rw [e2]; rfl)) q
  · subst h0
    rw [List.nil_append] at e2
    cases g2 with
    | nil => rfl
    | cons c q =>
      have := hr0 c q e2
      rw [a2 c (by simp)] at this
      cases this
/-! ### one command and its group -/
theorem sp_two (n : Nat) : ∀ t ∈ spI (List.replicate n 32), t.1 = 2 := by
  intro t ht
  unfold spI at ht
  split at ht
  · cases ht
  · have hn : nlI (List.replicate n 32) = 0 := by
      unfold nlI
      rw [List.length_eq_zero_iff, List.filter_eq_nil_iff]
      intro c hc
      rw [(List.mem_replicate.1 hc).2]
      decide
    rw [hn] at ht
    simp at ht
    rw [ht]
/-- A command of a group, and nothing behind it. -/
theorem parse_group {n : By} (hn : 4 ≤ kindI n ∧ kindI n ≤ 13) {sp X : List Tok} (hs : ∀ t ∈ sp, t.1 = 2) (hb : balG 0 X = true) : parseI ((4, n) :: (sp ++ (5, []) :: (X ++ [(6, [])]))) [] [] = groupI [] [] n X := by
  have ha := args_now [(sp, X)] [] (fun g hg => by simp at hg; subst hg; exact ⟨hs, hb⟩)
  have e : gpsL [(sp, X)] ++ [] = sp ++ (5, []) :: (X ++ [(6, [])]) := by simp [gpsL]
  rw [e] at ha
  rw [List.length_singleton, args_one, List.drop_zero] at ha
  rw [parseI, if_neg (show ¬ (4 : Int) = 1 by decide), if_neg (show ¬ ((4 : Int) = 2 ∨ (4 : Int) = 3) by decide), if_pos rfl]
  simp only
  rw [if_neg (by omega), if_neg (by omega)]
  split
  · rename_i hh; rw [hh] at ha; cases ha
  · rename_i x p hh
    rw [hh] at ha
    simp only [Option.map_some, List.map_cons, List.map_nil, Option.some.injEq, Prod.mk.injEq, List.cons.injEq, and_true] at ha
    obtain ⟨rfl, hp⟩ := ha
    have hp2 : p = (sp ++ (5, []) :: (x ++ [(6, [])])).length := by
      rw [← e]
      simpa using hp
    rw [hp2, List.drop_length, parseI]
theorem bal_all {X : List Tok} (h : ∀ t ∈ X, t.1 ≠ 5 ∧ t.1 ≠ 6) : balG 0 X = true := by rw [bal_flat 0 h]; rfl
theorem bal_in {X : List Tok} (h : ∀ t ∈ X, t.1 ≠ 5 ∧ t.1 ≠ 6) : balG 0 ((5, []) :: (X ++ [(6, [])])) = true := by
  have : ∀ (X : List Tok), (∀ t ∈ X, t.1 ≠ 5 ∧ t.1 ≠ 6) → balG 1 (X ++ [(6, [])]) = true := by
    intro X
    induction X with
    | nil => intro _; rfl
    | cons t r ih =>
      intro h
      obtain ⟨h5, h6⟩ := h t (by simp)
      rw [List.cons_append]
      unfold balG
      rw [if_neg h5, if_neg h6]
      exact ih fun x hx => h x (by simp [hx])
  unfold balG
  simp only [if_true]
  exact this X h
theorem toks_open (u : By) : toks (123 :: u) = (5, []) :: toks u := toks_tok (5, []) u (by rfl) ⟨fun h => absurd h (by decide), fun h => absurd h (by decide), fun h => absurd h (by decide)⟩
theorem toks_close (u : By) : toks (125 :: u) = (6, []) :: toks u := toks_tok (6, []) u (by rfl) ⟨fun h => absurd h (by decide), fun h => absurd h (by decide), fun h => absurd h (by decide)⟩
theorem sp_kinds (g : By) : ∀ t ∈ spI g, t.1 = 2 ∨ t.1 = 3 := by
  intro t ht
  unfold spI at ht
  split at ht
  · cases ht
  · simp at ht
    subst ht
    split <;> simp
/-- A text of letters and blanks within gaps, a brace behind it. -/
theorem body_toks (k : By) (h : ∀ c ∈ k, simB c = true) : ∃ s : By, ∀ (G1 G2 : By), (∀ c ∈ G1, c = 32 ∨ c = 10) → (∀ c ∈ G2, c = 32 ∨ c = 10) →
    ∃ X : List Tok, (∀ u, toks (G1 ++ (k ++ (G2 ++ 125 :: u))) = X ++ (6, []) :: toks u) ∧ flatL X = flatL (toks s) ∧ ∀ t ∈ X, t.1 ≠ 5 ∧ t.1 ≠ 6 := by
  obtain ⟨g1, s, g2, rfl, h1, h2, hs, hk1, h0⟩ := sim_parts k h
  refine ⟨s, fun G1 G2 hG1 hG2 => ?_⟩
  have k6 : ∀ u, hk (125 :: u) = 6 := fun u => rfl
  by_cases he : s = []
  · have hg2 := h0 he
    subst he hg2
    refine ⟨spI (G1 ++ (g1 ++ G2)), fun u => ?_, ?_, fun t ht => by rcases sp_kinds _ t ht with q | q <;> rw [q] <;> decide⟩
    · have e : G1 ++ ((g1 ++ ([] ++ [])) ++ (G2 ++ 125 :: u)) = (G1 ++ (g1 ++ G2)) ++ 125 :: u := by simp
      rw [e, toks_gap _ (by rw [k6]; decide) _ (fun c hc => by
        rcases List.mem_append.1 hc with q | q
        · exact hG1 c q
        · rcases List.mem_append.1 q with q | q
          · exact .inl (h1 c q)
          · exact hG2 c q), toks_close]
    · have := flat_gaps (G1 ++ (g1 ++ G2)) [] []
      rw [show spI ([] : By) = [] from rfl, List.append_nil, List.append_nil] at this
      exact this
  · refine ⟨spI (G1 ++ g1) ++ (toks s ++ spI (g2 ++ G2)), fun u => ?_, flat_gaps _ _ _, fun t ht => ?_⟩
    · have e : G1 ++ ((g1 ++ (s ++ g2)) ++ (G2 ++ 125 :: u)) = (G1 ++ g1) ++ (s ++ ((g2 ++ G2) ++ 125 :: u)) := by simp
      have hks : hk (s ++ ((g2 ++ G2) ++ 125 :: u)) ≠ 2 := by
        cases s with
        | nil => exact absurd rfl he
        | cons c r =>
          have hl : ltr c = true := by
            have := hk1 he
            rcases sim_ways (hs.1 c (by simp)) with q | q
            · exact q
            · subst q
              have h2 : hk (32 :: r) = 2 := blank_kd r
              rw [h2] at this
              cases this
          show kd c _ ≠ 2
          rw [ltr_kd hl]
          decide
      have hkb : hk ((g2 ++ G2) ++ 125 :: u) ≠ 1 := by
        cases hg : g2 ++ G2 with
        | nil => rw [List.nil_append, k6]; decide
        | cons c r =>
          have hc : c = 32 ∨ c = 10 := by
            have hm : c ∈ g2 ++ G2 := by rw [hg]; simp
            rcases List.mem_append.1 hm with q | q
            · exact .inl (h2 c q)
            · exact hG2 c q
          have h2 : hk (c :: (r ++ 125 :: u)) = 2 := kd_two.2 (by rcases hc with rfl | rfl <;> decide)
          rw [List.cons_append, h2]
          decide
      rw [e, toks_gap _ hks _ (fun c hc => by
        rcases List.mem_append.1 hc with q | q
        · exact hG1 c q
        · exact .inl (h1 c q)), toks_sim _ hkb _ s (Nat.le_refl _) hs, toks_gap _ (by rw [k6]; decide) _ (fun c hc => by
        rcases List.mem_append.1 hc with q | q
        · exact .inl (h2 c q)
        · exact hG2 c q), toks_close]
      simp
    · rcases List.mem_append.1 ht with q | q
      · rcases sp_kinds _ t q with q | q <;> rw [q] <;> decide
      · rcases List.mem_append.1 q with q | q
        · rcases sim_kinds hs.1 t q with q | q | q <;> rw [q] <;> decide
        · rcases sp_kinds _ t q with q | q <;> rw [q] <;> decide
/-- One item, or one note; which one hangs on the flat text. -/
theorem group_same {n : By} {X Y : List Tok} (h : flatL X = flatL Y) : groupI [] [] n X = groupI [] [] n Y := by unfold groupI; rw [h]
theorem group_one (n : By) (X : List Tok) : (groupI [] [] n X).1.length + (groupI [] [] n X).2.length = 1 := by
  unfold groupI
  split <;> simp
/-- The law's three texts: the same item, or the same note. -/
theorem items_spaces (k : By) (h : ∀ c ∈ k, simB c = true) {n : By} (hn : 4 ≤ kindI n ∧ kindI n ≤ 13) (hl : n.all ltr = true) (h0 : 0 < n.length) :
    ∃ P : List Tok × List Tok, P.1.length + P.2.length = 1 ∧ parseI (toks (92 :: (n ++ (123 :: (k ++ [125]))))) [] [] = P ∧
      parseI (toks (92 :: (n ++ (32 :: 32 :: 123 :: 10 :: 32 :: (k ++ [10, 125]))))) [] [] = P ∧ parseI (toks (92 :: (n ++ (32 :: 123 :: 123 :: (k ++ [125, 125]))))) [] [] = P := by
  obtain ⟨s, hb⟩ := body_toks k h
  obtain ⟨X1, t1, f1, b1⟩ := hb [] [] (fun c hc => by cases hc) (fun c hc => by cases hc)
  obtain ⟨X2, t2, f2, b2⟩ := hb [10, 32] [10] (fun c hc => by simp at hc; rcases hc with rfl | rfl <;> simp) (fun c hc => by simp at hc; subst hc; simp)
  have hm : mayB (4, n) = true := by
    unfold mayB
    simp [hl, h0]
  have hcmd : ∀ u, hdB ltr u = false → toks (92 :: (n ++ u)) = (4, n) :: toks u := fun u hu => toks_tok (4, n) u hm ⟨fun q => absurd (show (4 : Int) = 1 from q) (by decide), fun q => absurd (show gapB 4 = true from q) (by decide), fun _ => hu⟩
  have hsp : ∀ (m : Nat) (u : By), hk u ≠ 2 → toks (List.replicate m 32 ++ u) = spI (List.replicate m 32) ++ toks u := fun m u hu => toks_gap u hu _ (fun c hc => .inl (List.mem_replicate.1 hc).2)
  refine ⟨groupI [] [] n X1, group_one n X1, ?_, ?_, ?_⟩
  · have e : 123 :: (k ++ [125]) = 123 :: ([] ++ (k ++ ([] ++ 125 :: []))) := by simp
    rw [hcmd _ (by rfl), e, toks_open, t1 [], toks_nil]
    exact parse_group hn (sp := []) (fun t ht => by cases ht) (bal_all b1)
  · have e : (32 :: 32 :: 123 :: 10 :: 32 :: (k ++ [10, 125]) : By) = List.replicate 2 32 ++ 123 :: ([10, 32] ++ (k ++ ([10] ++ 125 :: []))) := by simp
    rw [hcmd _ (by rfl), e, hsp _ _ (by show (5 : Int) ≠ 2; decide), toks_open, t2 [], toks_nil]
    rw [parse_group hn (sp_two 2) (bal_all b2)]
    exact group_same (by rw [f1, f2])
  · have e : (32 :: 123 :: 123 :: (k ++ [125, 125]) : By) = List.replicate 1 32 ++ 123 :: 123 :: ([] ++ (k ++ ([] ++ 125 :: [125]))) := by simp
    rw [hcmd _ (by rfl), e, hsp _ _ (by show (5 : Int) ≠ 2; decide), toks_open, toks_open, t1 [125], toks_close, toks_nil]
    have e2 : (4, n) :: (spI (List.replicate 1 32) ++ (5, []) :: (5, []) :: (X1 ++ [(6, []), (6, [])])) = (4, n) :: (spI (List.replicate 1 32) ++ (5, []) :: (((5, []) :: (X1 ++ [(6, [])])) ++ [(6, [])])) := by simp
    rw [e2, parse_group hn (sp_two 1) (bal_in b1)]
    exact group_same (flat_braces X1)
end Go.Proofs.YtckldeabbkdbjaaDoor

namespace Go.Proofs.YtckldeabbkdbjaaDoor
open Go.RowKit

def namesV : Array Value := (namesL.map fun s => Value.string ⟨s.toArray⟩).toArray
theorem rnames_any (w : World) : Calls Tryd.prog 24 #[] w fun en w' => en = .returned (.slice (some ⟨w.heap.size, 0, none⟩) 13 13) ∧ w' = w.alloc (.cells namesV 9) := by
  go_enter Tryd.func24, Tryd.ntmps24
  go_wp2
  go_ret
  exact ⟨rfl, rfl⟩
theorem names_cell (w : World) {i : Nat} {s : By} (h : namesL[i]? = some s) : (w.alloc (.cells namesV 9)).cell? ⟨w.heap.size, i, none⟩ = some (.string ⟨s.toArray⟩) := by
  rw [World.cell?_alloc_new]
  unfold namesV
  simp [h]
theorem kind_yes {s : By} {i : Nat} (h : namesL[i]? = some s) (hn : ∀ j < i, namesL[j]? ≠ some s) : kindI s = i + 4 := by
  have hi : i < namesL.length := (List.getElem?_eq_some_iff.1 h).1
  have e : namesL.findIdx? (· == s) = some i := by
    rw [List.findIdx?_eq_some_iff_getElem]
    refine ⟨hi, ?_, fun j hj => ?_⟩
    · have := List.getElem?_eq_getElem hi
      rw [h] at this
      cases this
      simp
    · have hj2 : j < namesL.length := by omega
      have := hn j hj
      rw [List.getElem?_eq_getElem hj2] at this
      simpa using this
  unfold kindI
  rw [e]
theorem kind_no {s : By} (hn : ∀ j < 13, namesL[j]? ≠ some s) : kindI s = 0 := by
  have e : namesL.findIdx? (· == s) = none := by
    rw [List.findIdx?_eq_none_iff]
    intro x hx
    obtain ⟨j, hj⟩ := List.getElem?_of_mem hx
    have hl : j < namesL.length := (List.getElem?_eq_some_iff.1 hj).1
    have h13 : namesL.length = 13 := rfl
    have := hn j (by omega)
    rw [hj] at this
    simpa using this
  unfold kindI
  rw [e]
set_option maxRecDepth 100000 in
set_option maxHeartbeats 1000000 in
theorem rkindI_any (s : By) (w : World) : Calls Tryd.prog 28 #[.string ⟨s.toArray⟩] w fun en w' => en = .returned (.int .i64 (kindI s : Nat)) ∧ Below w.heap.size w w' := by
  have HB := Lib.hid (one_below w (.cells namesV 9))
  have HC := Lib.hid (fun i s (h : namesL[i]? = some s) => names_cell w h)
  go_enter Tryd.func28, Tryd.ntmps28
  go_wp2_with fail
  refine (rnames_any w).mono ?_
  rintro en w1 ⟨rfl, rfl⟩
  generalize w.alloc (.cells namesV 9) = W at HB HC ⊢
  go_wp2_with fail
  go_loopw [4] (fun i wr => ∃ k : Nat, k ≤ 13 ∧ i = .int .i64 k ∧ Hid (∀ j < k, namesL[j]? ≠ some s) ∧ wr = W) (fun i _ => 13 - (intOf i).toNat)
  case atStart => exact ⟨0, Nat.zero_le _, rfl, Lib.hid (fun j hj => absurd hj (Nat.not_lt_zero _)), rfl⟩
  case round =>
    obtain ⟨k, hk, rfl, hall, rfl⟩ := hrel
    by_cases hlt : k < 13
    · obtain ⟨f, hf⟩ : ∃ f, namesL[k]? = some f := ⟨_, List.getElem?_eq_getElem (show k < namesL.length from hlt)⟩
      have c1 := HC.out k f hf
      have HF := Lib.hid hf
      have i1 : (k : Int) < 13 := by omega
      clear hf
      by_cases hfs : f = s
      · have hrun : (f == s) = true := by simpa using hfs
        have HE := Lib.hid hfs
        clear hfs
        go_wp2
        go_ret
        exact ⟨congrArg (fun n : Int => Ending.returned (.int .i64 n)) (by rw [kind_yes (HE.out ▸ HF.out) hall.out]; omega), HB.out⟩
      · have hrun : (f == s) = false := by simpa using hfs
        have HE := Lib.hid hfs
        clear hfs
        go_wp2
        go_roundw
        case rel => exact ⟨k + 1, by omega, by go_num, Lib.hid (fun j hj => by
          rcases Nat.lt_or_ge j k with q | q
          · exact hall.out j q
          · have : j = k := by omega
            rw [this, HF.out]
            intro e
            exact HE.out (Option.some.inj e)), trivial⟩
        case measure => simp [intOf]; omega
    · have HK := Lib.hid (kind_no (s := s) (fun j hj => hall.out j (by omega)))
      have i1 : (13 : Int) ≤ (k : Int) := by omega
      go_wp2
      go_ret
      exact ⟨by rw [HK.out]; rfl, HB.out⟩
end Go.Proofs.YtckldeabbkdbjaaDoor

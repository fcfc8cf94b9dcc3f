/-
  Plain mathematics of groups, of what is filled in, of flat texts (layer 7). No program text in it.
  Contracts of the small functions of bytes: letters, digits, blanks; what a text begins with.
  Contracts of what a text begins with, by the program and by the document's answer; how many letters; a byte in a text.
  Words for memory: a slice of tokens that reads as a list; a row of one's own; what is kept behind calls; results that lie in a cell.
-/
import Derived.Test.YtckldeabbkdbjaaDoorK00
import Derived.Test.YtckldeabbkdbjaaDoorRows
import Derived.WalkKit
import Derived.WalkSpells
import Derived.WalkLawsBesides
import Derived.OwnWalk
import Derived.Lib.Hide
import Derived.Deep.AppendLies
import Derived.Deep.Draws
import Derived.Laws.OwnMore
import Derived.Laws.Rows
namespace Go.Proofs.YtckldeabbkdbjaaDoor

/-! ### groups -/
/-- How deep one stands behind a token. -/
def dep (d : Nat) (t : Tok) : Nat := if t.1 = 5 then d + 1 else if t.1 = 6 then d - 1 else d
/-- How many tokens there are till as many Closes as Opens have come. -/
def endG : Nat → List Tok → Option Nat
  | _, [] => none
  | d, t :: r => if dep d t = 0 then some 1 else (endG (dep d t) r).map (· + 1)
/-- The place behind the group that begins at a place. -/
def grpN (l : List Tok) (a : Nat) : Option Nat := match l.drop a with
  | [] => none
  | t :: r => if t.1 = 5 then (endG 0 (t :: r)).map (· + a) else none
/-- Place and error. -/
def grpP : Option Nat → Int × Int
  | some p => (p, 0)
  | none => (0, 10)
def grpE (l : List Tok) (a : Int) : Int × Int := if a < 0 ∨ (l.length : Int) < a then (0, 1) else grpP (grpN l a.toNat)
theorem end_some : ∀ {l : List Tok} {d n : Nat}, endG d l = some n → 1 ≤ n ∧ n ≤ l.length
  | [], d, n, h => by simp [endG] at h
  | t :: r, d, n, h => by
    unfold endG at h
    split at h
    · simp at h; subst h; simp
    · cases he : endG (dep d t) r with
      | none => rw [he] at h; simp at h
      | some m =>
        rw [he] at h; simp at h; subst h
        have := end_some he
        simp; omega
theorem grp_some {l : List Tok} {a p : Nat} (h : grpN l a = some p) : a < l.length ∧ a + 2 ≤ p ∧ p ≤ l.length ∧ ∃ t, l[a]? = some t ∧ t.1 = 5 := by
  unfold grpN at h
  split at h
  · cases h
  · rename_i t r hd
    split at h
    · rename_i h5
      have hla : a < l.length := by
        rcases Nat.lt_or_ge a l.length with q | q
        · exact q
        · rw [List.drop_of_length_le q] at hd; cases hd
      have hat : l[a]? = some t := by
        have := List.getElem?_drop (xs := l) (i := a) (j := 0)
        rw [hd] at this; simpa using this.symm
      have hlen : (t :: r).length = l.length - a := by rw [← hd, List.length_drop]
      unfold endG at h
      have d1 : dep 0 t = 1 := by simp [dep, h5]
      rw [d1, if_neg (by decide)] at h
      cases he : endG 1 r with
      | none => rw [he] at h; simp at h
      | some m =>
        rw [he] at h; simp at h
        have := end_some he
        simp at hlen
        exact ⟨hla, by omega, by omega, t, hat, h5⟩
    · cases h
theorem drop_one {α : Type} {l : List α} {i : Nat} {t : α} (h : l[i]? = some t) : l.drop i = t :: l.drop (i + 1) := by
  obtain ⟨hi, e⟩ := List.getElem?_eq_some_iff.1 h
  rw [List.drop_eq_getElem_cons hi, e]
/-- The walk through a group, token for token. -/
theorem end_step {l : List Tok} {d i : Nat} {t : Tok} {G : Option Nat} (h : l[i]? = some t) (hG : (endG d (l.drop i)).map (· + i) = G) :
    (dep d t = 0 ∧ G = some (i + 1)) ∨ (dep d t ≠ 0 ∧ (endG (dep d t) (l.drop (i + 1))).map (· + (i + 1)) = G) := by
  rw [drop_one h] at hG
  unfold endG at hG
  by_cases h0 : dep d t = 0
  · rw [if_pos h0] at hG
    exact .inl ⟨h0, by rw [← hG]; simp; omega⟩
  · rw [if_neg h0] at hG
    refine .inr ⟨h0, ?_⟩
    rw [← hG, Option.map_map]
    congr 1
    funext x
    simp; omega
theorem end_stop {l : List Tok} {d i : Nat} {G : Option Nat} (h : l.length ≤ i) (hG : (endG d (l.drop i)).map (· + i) = G) : G = none := by
  rw [List.drop_of_length_le h] at hG
  rw [← hG]; simp [endG]
theorem grp_begin {l : List Tok} {a : Nat} {t : Tok} (h : l[a]? = some t) (h5 : t.1 = 5) : (endG 0 (l.drop a)).map (· + a) = grpN l a := by
  unfold grpN
  rw [drop_one h]
  simp [h5]
theorem grp_not {l : List Tok} {a : Nat} {t : Tok} (h : l[a]? = some t) (h5 : t.1 ≠ 5) : grpN l a = none := by
  unfold grpN
  rw [drop_one h]
  simp [h5]
theorem grp_out {l : List Tok} {a : Nat} (h : l.length ≤ a) : grpN l a = none := by
  unfold grpN; rw [List.drop_of_length_le h]

/-! ### arguments -/
def skipN (l : List Tok) (a : Nat) : Nat := a + ((l.drop a).takeWhile fun t => t.1 == 2).length
def within (l : List Tok) (a p : Nat) : List Tok := (l.drop (a + 1)).take (p - 1 - (a + 1))
def argsG (l : List Tok) : Nat → Nat → Option (List (List Tok) × Nat)
  | 0, a => some ([], a)
  | n + 1, a => match grpN l (skipN l a) with
    | none => none
    | some p => (argsG l n p).map fun x => (within l (skipN l a) p :: x.1, x.2)
def argsP : Option (List (List Tok) × Nat) → List (List Tok) × Int × Int
  | some x => (x.1, x.2, 0)
  | none => ([], 0, 10)
def argsE (l : List Tok) (a n : Int) : List (List Tok) × Int × Int := if a < 0 ∨ (l.length : Int) < a ∨ n < 0 ∨ 9 < n then ([], 0, 1) else argsP (argsG l n.toNat a.toNat)
theorem skip_step {l : List Tok} {a : Nat} {t : Tok} (h : l[a]? = some t) (h2 : t.1 = 2) : skipN l a = skipN l (a + 1) := by
  unfold skipN
  rw [drop_one h]
  simp [h2]; omega
theorem skip_stop {l : List Tok} {a : Nat} {t : Tok} (h : l[a]? = some t) (h2 : t.1 ≠ 2) : skipN l a = a := by
  unfold skipN
  rw [drop_one h]
  simp [h2]
theorem skip_end {l : List Tok} {a : Nat} (h : l.length ≤ a) : skipN l a = a := by
  unfold skipN
  rw [List.drop_of_length_le h]; simp
theorem skip_le {l : List Tok} {a : Nat} (h : a ≤ l.length) : a ≤ skipN l a ∧ skipN l a ≤ l.length := by
  unfold skipN
  have := (List.takeWhile_prefix (fun t : Tok => t.1 == 2) (l := l.drop a)).length_le
  rw [List.length_drop] at this
  omega
/-- One step of the loop: what is told so far, and what is to come. -/
theorem args_step {l : List Tok} {n a p : Nat} {out : List (List Tok)} {G : Option (List (List Tok) × Nat)} (hp : grpN l (skipN l a) = some p) (hG : (argsG l (n + 1) a).map (fun x => (out ++ x.1, x.2)) = G) :
    (argsG l n p).map (fun x => ((out ++ [within l (skipN l a) p]) ++ x.1, x.2)) = G := by
  unfold argsG at hG
  rw [hp] at hG
  rw [← hG]
  simp only [Option.map_map]
  congr 1
  funext x
  simp
theorem args_stop {l : List Tok} {n a : Nat} {out : List (List Tok)} {G : Option (List (List Tok) × Nat)} (hp : grpN l (skipN l a) = none) (hG : (argsG l (n + 1) a).map (fun x => (out ++ x.1, x.2)) = G) : G = none := by
  unfold argsG at hG
  rw [hp] at hG
  exact hG.symm
theorem args_end {l : List Tok} {a : Nat} {out : List (List Tok)} {G : Option (List (List Tok) × Nat)} (hG : (argsG l 0 a).map (fun x => (out ++ x.1, x.2)) = G) : G = some (out, a) := by
  rw [← hG]; simp [argsG]
theorem args_le {l : List Tok} : ∀ {n a : Nat} {x : List (List Tok) × Nat}, argsG l n a = some x → a ≤ l.length → x.1.length = n ∧ x.2 ≤ l.length ∧ ∀ y ∈ x.1, y.length ≤ l.length
  | 0, a, x, h, ha => by simp [argsG] at h; subst h; simp; exact ha
  | n + 1, a, x, h, ha => by
    unfold argsG at h
    cases hp : grpN l (skipN l a) with
    | none => rw [hp] at h; cases h
    | some p =>
      rw [hp] at h
      simp only at h
      obtain ⟨_, _, h3, _⟩ := grp_some hp
      cases hx : argsG l n p with
      | none => rw [hx] at h; cases h
      | some y =>
        rw [hx] at h
        simp at h
        subst h
        obtain ⟨i1, i2, i3⟩ := args_le hx h3
        refine ⟨by simp [i1], i2, fun z hz => ?_⟩
        simp at hz
        rcases hz with rfl | hz
        · unfold within; rw [List.length_take, List.length_drop]; omega
        · exact i3 z hz

/-! ### what stands within a group -/
def balG : Nat → List Tok → Bool
  | d, [] => d == 0
  | d, t :: r => if t.1 = 5 then balG (d + 1) r else if t.1 = 6 then (if d = 0 then false else balG (d - 1) r) else balG d r
theorem bal_end (y : By) (v : List Tok) : ∀ (l : List Tok) (d : Nat), balG d l = true → endG (d + 1) (l ++ (6, y) :: v) = some (l.length + 1)
  | [], d, h => by
    simp [balG] at h; subst h
    simp [endG, dep]
  | t :: r, d, h => by
    unfold balG at h
    rw [List.cons_append]
    unfold endG
    by_cases h5 : t.1 = 5
    · rw [if_pos h5] at h
      have e : dep (d + 1) t = d + 1 + 1 := by simp [dep, h5]
      rw [e, if_neg (by omega), bal_end y v r (d + 1) h]; simp
    · rw [if_neg h5] at h
      by_cases h6 : t.1 = 6
      · rw [if_pos h6] at h
        split at h
        · cases h
        · rename_i h0
          have e : dep (d + 1) t = (d - 1) + 1 := by simp [dep, h6]; omega
          rw [e, if_neg (by omega), bal_end y v r (d - 1) h]; simp
      · rw [if_neg h6] at h
        have e : dep (d + 1) t = d + 1 := by simp [dep, h5, h6]
        rw [e, if_neg (by omega), bal_end y v r d h]; simp
theorem grp_bal (pre mid v : List Tok) (x y : By) (h : balG 0 mid = true) : grpN (pre ++ (5, x) :: (mid ++ (6, y) :: v)) pre.length = some (pre.length + mid.length + 2) := by
  unfold grpN
  rw [List.drop_left]
  simp only [if_true]
  unfold endG
  have e : dep 0 ((5, x) : Tok) = 0 + 1 := by simp [dep]
  rw [e, if_neg (by omega), bal_end y v mid 0 h]
  simp; omega
theorem within_bal (pre mid v : List Tok) (x y : By) : within (pre ++ (5, x) :: (mid ++ (6, y) :: v)) pre.length (pre.length + mid.length + 2) = mid := by
  unfold within
  have e : (pre ++ (5, x) :: (mid ++ (6, y) :: v)).drop (pre.length + 1) = mid ++ (6, y) :: v := by
    rw [List.drop_append]; simp [List.drop_of_length_le]
  rw [e, show pre.length + mid.length + 2 - 1 - (pre.length + 1) = mid.length by omega, List.take_left]
/-- What stands behind the i-th group: a Space behind each second one. -/
def spL (i : Nat) : List Tok := if i % 2 = 0 then [(2, [])] else []
def allL : Nat → List (List Tok) → List Tok
  | _, [] => []
  | i, a :: r => (5, []) :: (a ++ (6, []) :: (spL i ++ allL (i + 1) r))
theorem sp_len (i : Nat) : (spL i).length ≤ 1 := by unfold spL; split <;> simp
theorem skip_open (pre sp v : List Tok) (x : By) (h : ∀ t ∈ sp, t.1 = 2) : skipN (pre ++ (sp ++ (5, x) :: v)) pre.length = pre.length + sp.length := by
  unfold skipN
  rw [List.drop_left]
  have : ∀ (sp : List Tok), (∀ t ∈ sp, t.1 = 2) → ((sp ++ (5, x) :: v).takeWhile fun t => t.1 == 2).length = sp.length := by
    intro sp
    induction sp with
    | nil => simp
    | cons t r ih =>
      intro h
      have h2 := h t (by simp)
      have := ih (fun t ht => h t (by simp [ht]))
      simp [h2, this]
  rw [this sp h]
theorem skip_only (pre sp : List Tok) (h : ∀ t ∈ sp, t.1 = 2) : skipN (pre ++ sp) pre.length = (pre ++ sp).length := by
  unfold skipN
  rw [List.drop_left]
  have : ∀ (sp : List Tok), (∀ t ∈ sp, t.1 = 2) → sp.takeWhile (fun t => t.1 == 2) = sp := by
    intro sp
    induction sp with
    | nil => simp
    | cons t r ih =>
      intro h
      have h2 := h t (by simp)
      have := ih (fun t ht => h t (by simp [ht]))
      simp [h2, this]
  rw [this sp h]; simp
/-- So many groups, one behind the other, are told as they were. -/
theorem args_all : ∀ (ins : List (List Tok)) (i : Nat) (pre sp : List Tok), (∀ t ∈ sp, t.1 = 2) → sp.length ≤ 1 → (∀ a ∈ ins, balG 0 a = true) →
    ∃ e, argsG (pre ++ (sp ++ allL i ins)) ins.length pre.length = some (ins, e) ∧ e ≤ (pre ++ (sp ++ allL i ins)).length ∧ (pre ++ (sp ++ allL i ins)).length ≤ e + 1 ∧ argsG (pre ++ (sp ++ allL i ins)) 1 e = none
  | [], i, pre, sp, hs, hl, _ => by
    refine ⟨pre.length, rfl, by simp, by simp [allL]; omega, ?_⟩
    have e : allL i [] = [] := rfl
    rw [e, List.append_nil]
    unfold argsG
    rw [skip_only pre sp hs, grp_out (Nat.le_refl _)]
  | a :: r, i, pre, sp, hs, hl, hb => by
    have e1 : pre ++ (sp ++ allL i (a :: r)) = (pre ++ sp) ++ (5, []) :: (a ++ (6, []) :: (spL i ++ allL (i + 1) r)) := by simp [allL]
    have e2 : pre ++ (sp ++ allL i (a :: r)) = (pre ++ sp ++ (5, []) :: (a ++ [(6, [])])) ++ (spL i ++ allL (i + 1) r) := by simp [allL]
    have hk : skipN (pre ++ (sp ++ allL i (a :: r))) pre.length = (pre ++ sp).length := by
      have := skip_open pre sp (a ++ (6, []) :: (spL i ++ allL (i + 1) r)) [] hs
      rw [List.length_append]
      exact this
    have hsp : ∀ t ∈ spL i, t.1 = 2 := by
      intro t ht; unfold spL at ht; split at ht
      · simp at ht; subst ht; rfl
      · cases ht
    obtain ⟨e, h1, h2, h3, h4⟩ := args_all r (i + 1) (pre ++ sp ++ (5, []) :: (a ++ [(6, [])])) (spL i) hsp (sp_len i) (fun x hx => hb x (by simp [hx]))
    rw [← e2] at h1 h2 h3 h4
    have hg : grpN (pre ++ (sp ++ allL i (a :: r))) (pre ++ sp).length = some ((pre ++ sp).length + a.length + 2) := by
      rw [e1]; exact grp_bal _ a _ _ _ (hb a (by simp))
    have hw : within (pre ++ (sp ++ allL i (a :: r))) (pre ++ sp).length ((pre ++ sp).length + a.length + 2) = a := by
      rw [e1]; exact within_bal _ a _ _ _
    have hl2 : (pre ++ sp ++ (5, []) :: (a ++ [(6, ([] : By))])).length = (pre ++ sp).length + a.length + 2 := by simp; omega
    rw [hl2] at h1
    refine ⟨e, ?_, h2, h3, h4⟩
    rw [List.length_cons]
    unfold argsG
    rw [hk, hg]
    simp only
    rw [h1, hw]
    rfl

/-! ### what is filled in -/
def argOf (args : List (List Tok)) (s : By) : List Tok := match s with
  | [d] => if 49 ≤ d.toNat ∧ d.toNat ≤ 57 then args.getD (d.toNat - 49) [] else []
  | _ => []
def fillT (args : List (List Tok)) (t : Tok) : List Tok := if t.1 = 7 then argOf args t.2 else [t]
def fillL (body : List Tok) (args : List (List Tok)) : List Tok := body.flatMap (fillT args)
/-- The document's way: each of nine is tried. -/
def tryK (args : List (List Tok)) (s : By) (k : Nat) : List Tok := if s = [UInt8.ofNat (49 + k)] then args.getD k [] else []
theorem byte_nat {k : Nat} (h : k < 256) : (UInt8.ofNat k).toNat = k := by rw [UInt8.toNat_ofNat']; omega
theorem try_none (args : List (List Tok)) (s : By) (n : Nat) (h : ∀ k, k < n → s ≠ [UInt8.ofNat (49 + k)]) : (List.range n).flatMap (tryK args s) = [] := by
  rw [List.flatMap_eq_nil_iff]
  intro k hk
  unfold tryK
  rw [if_neg (h k (List.mem_range.1 hk))]
theorem try_one (args : List (List Tok)) (j : Nat) : ∀ (n : Nat), n ≤ 9 → j < 9 → (List.range n).flatMap (tryK args [UInt8.ofNat (49 + j)]) = if j < n then args.getD j [] else []
  | 0, _, _ => by simp
  | n + 1, hn, hj => by
    rw [List.range_succ, List.flatMap_append, try_one args j n (by omega) hj]
    have hne : ∀ k, k < 9 → ([UInt8.ofNat (49 + j)] = ([UInt8.ofNat (49 + k)] : By) ↔ j = k) := by
      intro k hk
      constructor
      · intro e
        have e2 : UInt8.ofNat (49 + j) = UInt8.ofNat (49 + k) := by simpa using e
        have := congrArg UInt8.toNat e2
        rw [byte_nat (by omega), byte_nat (by omega)] at this
        omega
      · rintro rfl; rfl
    by_cases hjn : j = n
    · subst hjn
      simp [tryK]
    · have : tryK args [UInt8.ofNat (49 + j)] n = [] := by
        unfold tryK
        rw [if_neg (fun e => hjn ((hne n (by omega)).1 e))]
      simp only [List.flatMap_cons, List.flatMap_nil, this, List.append_nil]
      by_cases hlt : j < n
      · rw [if_pos hlt, if_pos (by omega)]
      · rw [if_neg hlt, if_neg (by omega)]
theorem arg_tried (args : List (List Tok)) (s : By) : (List.range (min args.length 9)).flatMap (tryK args s) = argOf args s := by
  unfold argOf
  split
  · rename_i d
    split
    · rename_i h
      obtain ⟨j, hj⟩ : ∃ j, d.toNat = 49 + j := ⟨d.toNat - 49, by omega⟩
      have hd : d = UInt8.ofNat (49 + j) := by rw [← hj]; simp
      rw [hj, hd, try_one args j _ (by omega) (by omega), show 49 + j - 49 = j by omega]
      split
      · rfl
      · rename_i hl
        rw [List.getD, List.getElem?_eq_none (by omega)]; rfl
    · rename_i h
      apply try_none
      intro k hk e
      have e2 : d = UInt8.ofNat (49 + k) := by simpa using e
      apply h
      rw [e2, byte_nat (by omega)]
      omega
  · rename_i hs
    apply try_none
    intro k _ e
    exact hs _ e
theorem fill_app (a b : List Tok) (args : List (List Tok)) : fillL (a ++ b) args = fillL a args ++ fillL b args := by simp [fillL]
theorem fill_nil (l : List Tok) : fillL l [] = l.filter fun t => t.1 != 7 := by
  induction l with
  | nil => rfl
  | cons t r ih =>
    unfold fillL at ih ⊢
    rw [List.flatMap_cons, ih, List.filter_cons]
    unfold fillT
    by_cases h : t.1 = 7
    · rw [if_pos h]
      have : argOf [] t.2 = [] := by
        unfold argOf; split
        · split <;> simp
        · rfl
      rw [this]; simp [h]
    · rw [if_neg h]; simp [h]
theorem fill_plain {l : List Tok} (h : ∀ t ∈ l, t.1 ≠ 7) (args : List (List Tok)) : fillL l args = l := by
  induction l with
  | nil => rfl
  | cons t r ih =>
    have h1 := h t (by simp)
    have h2 := ih (fun x hx => h x (by simp [hx]))
    unfold fillL at h2 ⊢
    rw [List.flatMap_cons, h2]
    unfold fillT
    rw [if_neg h1]; rfl

/-! ### flat texts -/
def rawT (t : Tok) : By := if t.1 = 1 then t.2 else if t.1 = 2 ∨ t.1 = 3 then [32] else []
def rawL (l : List Tok) : By := l.flatMap rawT
/-- One blank for several in a row, none at the beginning; p: a blank (or nothing) stands ahead. -/
def sqG : Bool → By → By
  | _, [] => []
  | p, c :: r => if c = 32 then (if p = true then sqG true r else 32 :: sqG true r) else c :: sqG false r
def trimB (s : By) : By := if s.getLast? = some 32 then s.dropLast else s
def sqL (s : By) : By := trimB (sqG true s)
def flatL (l : List Tok) : By := sqL (rawL l)
/-- The words of a text. -/
def wdG : By → By → List By
  | c, [] => if c = [] then [] else [c]
  | c, x :: r => if x = 32 then (if c = [] then wdG [] r else c :: wdG [] r) else wdG (c ++ [x]) r
def joinB : List By → By
  | [] => []
  | [w] => w
  | w :: v :: r => w ++ 32 :: joinB (v :: r)
def clean (w : By) : Prop := w ≠ [] ∧ ∀ c ∈ w, c ≠ 32
theorem wd_ne : ∀ (s c : By), c ≠ [] → wdG c s ≠ []
  | [], c, h => by simp [wdG, h]
  | x :: r, c, h => by
    unfold wdG
    split
    · simp
    · exact wd_ne r _ (by simp)
theorem wd_sq : ∀ (s : By), wdG [] s = [] ↔ sqG true s = []
  | [] => by simp [wdG, sqG]
  | x :: r => by
    unfold wdG sqG
    by_cases h : x = 32
    · simp only [h, if_true]; exact wd_sq r
    · simp only [h, if_false]
      have := wd_ne r [x] (by simp)
      simp [this]
theorem trim_clean {c : By} (h : ∀ x ∈ c, x ≠ 32) : trimB c = c := by
  unfold trimB
  rw [if_neg]
  intro e
  exact h 32 (List.mem_of_getLast? e) rfl
theorem trim_app (c z : By) (h : z ≠ []) : trimB (c ++ z) = c ++ trimB z := by
  unfold trimB
  have e : (c ++ z).getLast? = z.getLast? := by
    rw [List.getLast?_append]
    cases hz : z.getLast? with
    | none => rw [List.getLast?_eq_none_iff] at hz; exact absurd hz h
    | some x => rfl
  rw [e]
  split
  · rw [List.dropLast_append_of_ne_nil h]
  · rfl
theorem join_cons (w : By) {l : List By} (h : l ≠ []) : joinB (w :: l) = w ++ 32 :: joinB l := by
  cases l with
  | nil => exact absurd rfl h
  | cons v r => rfl
theorem sq_words : ∀ (s : By), (∀ c : By, clean c → trimB (c ++ sqG false s) = joinB (wdG c s)) ∧ trimB (sqG true s) = joinB (wdG [] s)
  | [] => ⟨fun c hc => by simp [sqG, wdG, hc.1, joinB, trim_clean hc.2], by simp [sqG, wdG, joinB, trimB]⟩
  | x :: r => by
    obtain ⟨i1, i2⟩ := sq_words r
    by_cases h : x = 32
    · subst h
      refine ⟨fun c hc => ?_, ?_⟩
      · have e1 : sqG false (32 :: r) = 32 :: sqG true r := by simp [sqG]
        have e2 : wdG c (32 :: r) = c :: wdG [] r := by simp [wdG, hc.1]
        rw [e1, e2]
        by_cases hz : sqG true r = []
        · rw [hz, (wd_sq r).2 hz]
          show trimB (c ++ [32]) = c
          unfold trimB
          simp
        · rw [show c ++ 32 :: sqG true r = (c ++ [32]) ++ sqG true r by simp, trim_app _ _ hz, i2, join_cons c (fun e => hz ((wd_sq r).1 e))]
          simp
      · have e1 : sqG true (32 :: r) = sqG true r := by simp [sqG]
        have e2 : wdG [] (32 :: r) = wdG [] r := by simp [wdG]
        rw [e1, e2]; exact i2
    · have e1 : ∀ p, sqG p (x :: r) = x :: sqG false r := fun p => by simp [sqG, h]
      have e2 : ∀ c, wdG c (x :: r) = wdG (c ++ [x]) r := fun c => by rw [wdG]; rw [if_neg h]
      refine ⟨fun c hc => ?_, ?_⟩
      · rw [e1, e2, show c ++ x :: sqG false r = (c ++ [x]) ++ sqG false r by simp]
        refine i1 _ ⟨by simp, fun d hd => ?_⟩
        rcases List.mem_append.1 hd with q | q
        · exact hc.2 d q
        · simp at q; subst q; exact h
      · rw [e1, e2]
        exact i1 [x] ⟨by simp, fun d hd => by simp at hd; subst hd; exact h⟩
theorem sq_join (s : By) : sqL s = joinB (wdG [] s) := (sq_words s).2
theorem wd_app (y : By) : ∀ (x c : By), wdG c (x ++ 32 :: y) = wdG c x ++ wdG [] y
  | [], c => by
    show wdG c (32 :: y) = _
    unfold wdG
    simp only [if_true]
    by_cases h : c = []
    · simp [h]
      cases y <;> rfl
    · simp [h]
      cases y <;> rfl
  | a :: x, c => by
    rw [List.cons_append]
    conv => lhs; unfold wdG
    conv => rhs; lhs; unfold wdG
    by_cases h : a = 32
    · simp only [h, if_true]
      by_cases hc : c = []
      · simp only [hc, if_true]; exact wd_app y x []
      · simp only [hc, if_false, List.cons_append]; rw [wd_app y x []]
    · simp only [h, if_false]; exact wd_app y x _
theorem wd_clean : ∀ (s c : By), (∀ x ∈ c, x ≠ 32) → ∀ w ∈ wdG c s, clean w
  | [], c, hc, w, hw => by
    unfold wdG at hw
    split at hw
    · cases hw
    · rename_i h; simp at hw; subst hw; exact ⟨h, hc⟩
  | x :: r, c, hc, w, hw => by
    unfold wdG at hw
    split at hw
    · split at hw
      · exact wd_clean r [] (by simp) w hw
      · rename_i h
        rcases List.mem_cons.1 hw with rfl | hw
        · exact ⟨h, hc⟩
        · exact wd_clean r [] (by simp) w hw
    · rename_i h
      refine wd_clean r (c ++ [x]) (fun d hd => ?_) w hw
      rcases List.mem_append.1 hd with q | q
      · exact hc d q
      · simp at q; subst q; exact h
theorem wd_one : ∀ (w c : By), (∀ x ∈ w, x ≠ 32) → c ++ w ≠ [] → wdG c w = [c ++ w]
  | [], c, _, h => by simp at h; simp [wdG, h]
  | x :: r, c, hw, h => by
    unfold wdG
    rw [if_neg (hw x (by simp)), wd_one r (c ++ [x]) (fun d hd => hw d (by simp [hd])) (by simp)]
    simp
theorem wd_join : ∀ (l : List By), (∀ w ∈ l, clean w) → wdG [] (joinB l) = l
  | [], _ => rfl
  | [w], h => by
    have := h w (by simp)
    show wdG [] w = [w]
    rw [wd_one w [] this.2 (by simpa using this.1)]; rfl
  | w :: v :: r, h => by
    have hw := h w (by simp)
    show wdG [] (w ++ 32 :: joinB (v :: r)) = _
    rw [wd_app, wd_one w [] hw.2 (by simpa using hw.1), wd_join (v :: r) (fun x hx => h x (by simp [hx]))]
    rfl
/-- A flat text of a flat text is itself. -/
theorem sq_twice (s : By) : sqL (sqL s) = sqL s := by
  rw [sq_join (sqL s), sq_join s, wd_join _ (wd_clean s [] (by simp))]
theorem flat_twice (l : List Tok) : flatL [(1, flatL l)] = flatL l := by
  show sqL (rawL [(1, flatL l)]) = _
  rw [show rawL [(1, flatL l)] = flatL l by simp [rawL, rawT]]
  exact sq_twice _
theorem join_nil {l : List By} (h : ∀ w ∈ l, clean w) : joinB l = [] ↔ l = [] := by
  constructor
  · intro e
    cases l with
    | nil => rfl
    | cons w r =>
      have hw := (h w (by simp)).1
      cases r with
      | nil => exact absurd e hw
      | cons v r =>
        rw [join_cons w (by simp)] at e
        simp at e
  · rintro rfl; rfl
theorem join_app : ∀ (a b : List By), a ≠ [] → b ≠ [] → joinB (a ++ b) = joinB a ++ 32 :: joinB b
  | [], _, h, _ => absurd rfl h
  | [w], b, _, hb => by rw [show [w] ++ b = w :: b from rfl, join_cons w hb]; rfl
  | w :: v :: r, b, _, hb => by
    rw [List.cons_append, join_cons w (by simp), join_app (v :: r) b (by simp) hb, join_cons w (by simp)]
    simp
/-- Of two texts with a blank between. -/
theorem sq_two (x y : By) : sqL (x ++ 32 :: y) = if sqL x = [] ∨ sqL y = [] then sqL x ++ sqL y else sqL x ++ 32 :: sqL y := by
  have cx := wd_clean x [] (by simp)
  have cy := wd_clean y [] (by simp)
  rw [sq_join, wd_app, sq_join x, sq_join y]
  by_cases hx : wdG [] x = []
  · rw [if_pos (.inl ((join_nil cx).2 hx)), hx]; rfl
  · by_cases hy : wdG [] y = []
    · rw [if_pos (.inr ((join_nil cy).2 hy)), hy]; simp [joinB]
    · rw [if_neg (fun h => h.elim (fun e => hx ((join_nil cx).1 e)) (fun e => hy ((join_nil cy).1 e))), join_app _ _ hx hy]
theorem raw_app (a b : List Tok) : rawL (a ++ b) = rawL a ++ rawL b := by simp [rawL]
theorem flat_two (l k : List Tok) (x : By) : flatL (l ++ (2, x) :: k) = if flatL l = [] ∨ flatL k = [] then flatL l ++ flatL k else flatL l ++ 32 :: flatL k := by
  unfold flatL
  rw [raw_app, show rawL ((2, x) :: k) = 32 :: rawL k by simp [rawL, rawT]]
  exact sq_two _ _
theorem join_head {l : List By} (h : ∀ w ∈ l, clean w) : (joinB l).head? ≠ some 32 := by
  cases l with
  | nil => simp [joinB]
  | cons w r =>
    obtain ⟨h1, h2⟩ := h w (by simp)
    have : ∃ c s, joinB (w :: r) = c :: s ∧ c ∈ w := by
      cases w with
      | nil => exact absurd rfl h1
      | cons c s =>
        cases r with
        | nil => exact ⟨c, s, rfl, by simp⟩
        | cons v r => exact ⟨c, s ++ 32 :: joinB (v :: r), by rw [join_cons _ (by simp)]; rfl, by simp⟩
    obtain ⟨c, s, e, hc⟩ := this
    rw [e]
    simp
    exact h2 c hc
theorem join_last : ∀ {l : List By}, (∀ w ∈ l, clean w) → (joinB l).getLast? ≠ some 32
  | [], _ => by simp [joinB]
  | [w], h => by
    obtain ⟨_, h2⟩ := h w (by simp)
    intro e
    exact h2 32 (List.mem_of_getLast? e) rfl
  | w :: v :: r, h => by
    have hr : ∀ x ∈ v :: r, clean x := fun x hx => h x (by simp [hx])
    have ih := join_last hr
    rw [join_cons w (by simp)]
    have hne : joinB (v :: r) ≠ [] := fun e => by have := (join_nil hr).1 e; cases this
    rw [show w ++ 32 :: joinB (v :: r) = (w ++ [32]) ++ joinB (v :: r) by simp, List.getLast?_append]
    cases hz : (joinB (v :: r)).getLast? with
    | none => rw [List.getLast?_eq_none_iff] at hz; exact absurd hz hne
    | some x => rw [hz] at ih; simpa using ih
/-- No blank at either end. -/
theorem flat_ends (l : List Tok) : (flatL l).head? ≠ some 32 ∧ (flatL l).getLast? ≠ some 32 := by
  unfold flatL
  rw [sq_join]
  exact ⟨join_head (wd_clean _ [] (by simp)), join_last (wd_clean _ [] (by simp))⟩
theorem sq_len : ∀ (s : By) (p : Bool), (sqG p s).length ≤ s.length
  | [], _ => by simp [sqG]
  | c :: r, p => by
    have h1 := sq_len r true
    have h2 := sq_len r false
    unfold sqG
    split
    · split
      · simp; omega
      · simp; omega
    · simp; omega
theorem flat_len (l : List Tok) : (flatL l).length ≤ (rawL l).length := by
  unfold flatL sqL trimB
  have := sq_len (rawL l) true
  split
  · rw [List.length_dropLast]; omega
  · exact this
/-- The document's way, byte for byte: what is told behind n bytes. -/
theorem sq_step (s : By) (p : Bool) (c : UInt8) : sqG p (s ++ [c]) = sqG p s ++ (if c = 32 then (if (match s.getLast? with | some x => x == 32 | none => p) = true then [] else [32]) else [c]) := by
  induction s generalizing p with
  | nil =>
    by_cases h : c = 32 <;> cases p <;> simp [sqG, h]
  | cons x r ih =>
    rw [List.cons_append]
    have hl : ∀ q : Bool, (x == 32) = q → (match (x :: r).getLast? with | some x => x == 32 | none => p) = (match r.getLast? with | some x => x == 32 | none => q) := by
      intro q hq
      cases hr : r.getLast? with
      | none =>
        rw [List.getLast?_eq_none_iff] at hr; subst hr
        simp [hq]
      | some y => rw [List.getLast?_cons, hr]; rfl
    by_cases hx : x = 32
    · have e := hl true (by simp [hx])
      rw [e]
      subst hx
      cases p
      · have e1 : ∀ z, sqG false (32 :: z) = 32 :: sqG true z := fun z => by simp [sqG]
        rw [e1, e1, ih true, List.cons_append]
      · have e1 : ∀ z, sqG true (32 :: z) = sqG true z := fun z => by simp [sqG]
        rw [e1, e1, ih true]
    · have e := hl false (by simp [hx])
      rw [e]
      have e1 : ∀ z, sqG p (x :: z) = x :: sqG false z := fun z => by simp [sqG, hx]
      rw [e1, e1, ih false, List.cons_append]
end Go.Proofs.YtckldeabbkdbjaaDoor

namespace Go.Proofs.YtckldeabbkdbjaaDoor
open Go.RowKit

def ltrI (x : Int) : Bool := decide (97 ≤ x ∧ x ≤ 122 ∨ 65 ≤ x ∧ x ≤ 90)
def dgtI (x : Int) : Bool := decide (49 ≤ x ∧ x ≤ 57)
def blkI (x : Int) : Bool := decide (x = 32 ∨ x = 9 ∨ x = 10)
theorem ltr_int (c : UInt8) : ltr c = ltrI (c.toNat : Int) := by
  unfold ltr ltrI; congr 1; apply propext; omega
theorem dgt_int (c : UInt8) : dgt c = dgtI (c.toNat : Int) := by
  unfold dgt dgtI; congr 1; apply propext; omega
theorem byte_lit {c : UInt8} {n : Nat} (h : (c.toNat : Int) = (n : Int)) : c = UInt8.ofNat n := by
  apply UInt8.toNat_inj.1
  rw [UInt8.toNat_ofNat']
  have := c.toNat_lt
  omega
theorem byte_ne {c : UInt8} {n : Nat} (h : ¬ (c.toNat : Int) = (n : Int)) (hn : n < 256) : ¬ c = UInt8.ofNat n := fun e => h (by
  rw [e, UInt8.toNat_ofNat', Nat.mod_eq_of_lt hn])
theorem blk_int (c : UInt8) : blk c = blkI (c.toNat : Int) := by
  unfold blk blkI
  rw [Bool.eq_iff_iff]
  simp only [Bool.or_eq_true, beq_iff_eq, decide_eq_true_eq]
  constructor
  · rintro ((rfl | rfl) | rfl) <;> simp
  · rintro (h | h | h)
    · exact .inl (.inl (byte_lit (n := 32) h))
    · exact .inl (.inr (byte_lit (n := 9) h))
    · exact .inr (byte_lit (n := 10) h)
theorem ret_bool {a b : Bool} (h : a = b) : Ending.returned (.bool a) = .returned (.bool b) := by rw [h]
theorem ltr_ways (x : Int) : (97 ≤ x ∧ x ≤ 122 ∧ ltrI x = true) ∨ (122 < x ∧ ltrI x = false) ∨ (90 < x ∧ x < 97 ∧ ltrI x = false) ∨ (65 ≤ x ∧ x ≤ 90 ∧ ltrI x = true) ∨ (x < 65 ∧ ltrI x = false) := by
  unfold ltrI
  simp only [decide_eq_true_eq, decide_eq_false_iff_not]
  omega
theorem letter_any (x : Int) (w : World) : Calls Tryd.prog 56 #[.int .u8 x] w fun e w' => e = .returned (.bool (ltrI x)) ∧ w = w' := by
  rcases ltr_ways x with ⟨h1, h2, h⟩ | ⟨h1, h⟩ | ⟨h1, h2, h⟩ | ⟨h1, h2, h⟩ | ⟨h1, h⟩ <;> (
    have H := Lib.hid h
    generalize ltrI x = v at *
    clear h
    try (have d1 : decide (x ≤ 122) = false := decide_eq_false (by omega))
    try (have d2 : decide (x ≤ 90) = false := decide_eq_false (by omega))
    go_enter Tryd.func56, Tryd.ntmps56
    go_wp2
    go_ret
    exact ⟨ret_bool H.out.symm, rfl⟩)
theorem rletter_any (x : Int) (w : World) : Calls Tryd.prog 44 #[.int .u8 x] w fun e w' => e = .returned (.bool (ltrI x)) ∧ w = w' := by
  rcases ltr_ways x with ⟨h1, h2, h⟩ | ⟨h1, h⟩ | ⟨h1, h2, h⟩ | ⟨h1, h2, h⟩ | ⟨h1, h⟩ <;> (
    have H := Lib.hid h
    generalize ltrI x = v at *
    clear h
    try (have d1 : decide (x ≤ 122) = false := decide_eq_false (by omega))
    try (have d2 : decide (x ≤ 90) = false := decide_eq_false (by omega))
    go_enter Tryd.func44, Tryd.ntmps44
    go_wp2
    go_ret
    exact ⟨ret_bool H.out.symm, rfl⟩)
theorem dgt_ways (x : Int) : (49 ≤ x ∧ x ≤ 57 ∧ dgtI x = true) ∨ (57 < x ∧ dgtI x = false) ∨ (x < 49 ∧ dgtI x = false) := by
  unfold dgtI
  simp only [decide_eq_true_eq, decide_eq_false_iff_not]
  omega
theorem digit_any (x : Int) (w : World) : Calls Tryd.prog 57 #[.int .u8 x] w fun e w' => e = .returned (.bool (dgtI x)) ∧ w = w' := by
  rcases dgt_ways x with ⟨h1, h2, h⟩ | ⟨h1, h⟩ | ⟨h1, h⟩ <;> (
    have H := Lib.hid h
    generalize dgtI x = v at *
    clear h
    try (have d1 : decide (x ≤ 57) = false := decide_eq_false (by omega))
    go_enter Tryd.func57, Tryd.ntmps57
    go_wp2
    go_ret
    exact ⟨ret_bool H.out.symm, rfl⟩)
theorem rdigit_any (x : Int) (w : World) : Calls Tryd.prog 61 #[.int .u8 x] w fun e w' => e = .returned (.bool (dgtI x)) ∧ w = w' := by
  rcases dgt_ways x with ⟨h1, h2, h⟩ | ⟨h1, h⟩ | ⟨h1, h⟩ <;> (
    have H := Lib.hid h
    generalize dgtI x = v at *
    clear h
    try (have d1 : decide (x ≤ 57) = false := decide_eq_false (by omega))
    go_enter Tryd.func61, Tryd.ntmps61
    go_wp2
    go_ret
    exact ⟨ret_bool H.out.symm, rfl⟩)
theorem blk_ways (x : Int) : (x = 32 ∧ blkI x = true) ∨ (x = 9 ∧ blkI x = true) ∨ (x = 10 ∧ blkI x = true) ∨ (x ≠ 32 ∧ x ≠ 9 ∧ x ≠ 10 ∧ blkI x = false) := by
  unfold blkI
  simp only [decide_eq_true_eq, decide_eq_false_iff_not]
  omega
theorem rblank_any (x : Int) (w : World) : Calls Tryd.prog 60 #[.int .u8 x] w fun e w' => e = .returned (.bool (blkI x)) ∧ w = w' := by
  rcases blk_ways x with ⟨rfl, h⟩ | ⟨rfl, h⟩ | ⟨rfl, h⟩ | ⟨h1, h2, h3, h⟩ <;> (
    have H := Lib.hid h
    generalize blkI _ = v at *
    clear h
    try (have d1 : (x == 32) = false := by simpa using h1)
    try (have d2 : (x == 9) = false := by simpa using h2)
    try (have d3 : (x == 10) = false := by simpa using h3)
    go_enter Tryd.func60, Tryd.ntmps60
    go_wp2
    go_ret
    exact ⟨ret_bool H.out.symm, rfl⟩)
end Go.Proofs.YtckldeabbkdbjaaDoor

namespace Go.Proofs.YtckldeabbkdbjaaDoor
open Go.RowKit

theorem drop_at (s : ByteArray) (k : Nat) (h : k < s.size) : s.data.toList.drop k = s[k] :: s.data.toList.drop (k + 1) := by
  rw [List.drop_eq_getElem_cons (by simpa using h)]; rfl
theorem drop_end (s : ByteArray) (k : Nat) (h : ¬ k < s.size) : s.data.toList.drop k = [] := List.drop_of_length_le (by simp; omega)
def kdI (x : Int) (n d : Bool) : Int := if blkI x = true ∨ x = 37 then 2 else if x = 92 ∧ n = true then 4 else if x = 123 then 5 else if x = 125 then 6 else if x = 35 ∧ d = true then 7 else 1
theorem byte_iff (c : UInt8) (n : Nat) (hn : n < 256) : c = UInt8.ofNat n ↔ (c.toNat : Int) = (n : Int) := by
  constructor
  · rintro rfl; rw [UInt8.toNat_ofNat', Nat.mod_eq_of_lt hn]
  · exact byte_lit
theorem kd_int (c : UInt8) (r : By) : kd c r = kdI (c.toNat : Int) (hdB ltr r) (hdB dgt r) := by
  unfold kd kdI
  rw [blk_int]
  have e37 := byte_iff c 37 (by omega)
  have e92 := byte_iff c 92 (by omega)
  have e123 := byte_iff c 123 (by omega)
  have e125 := byte_iff c 125 (by omega)
  have e35 := byte_iff c 35 (by omega)
  have p1 : ((blkI (c.toNat : Int) || c == 37) = true) ↔ (blkI (c.toNat : Int) = true ∨ (c.toNat : Int) = 37) := by
    rw [Bool.or_eq_true, beq_iff_eq]; exact or_congr Iff.rfl e37
  have p2 : ((c == 92 && hdB ltr r) = true) ↔ ((c.toNat : Int) = 92 ∧ hdB ltr r = true) := by
    rw [Bool.and_eq_true, beq_iff_eq]; exact and_congr e92 Iff.rfl
  have p3 : ((c == 35 && hdB dgt r) = true) ↔ ((c.toNat : Int) = 35 ∧ hdB dgt r = true) := by
    rw [Bool.and_eq_true, beq_iff_eq]; exact and_congr e35 Iff.rfl
  have p4 : (c = 123) ↔ ((c.toNat : Int) = 123) := e123
  have p5 : (c = 125) ↔ ((c.toNat : Int) = 125) := e125
  simp only [p1, p2, p3, p4, p5]
theorem hk_drop (t : ByteArray) (k : Nat) (h : k < t.size) : hk (t.data.toList.drop k) = kdI (t[k].toNat : Int) (hdB ltr (t.data.toList.drop (k + 1))) (hdB dgt (t.data.toList.drop (k + 1))) := by
  rw [drop_at t k h]; exact kd_int _ _
theorem hd_yes (p : UInt8 → Bool) (t : ByteArray) (k : Nat) (h : k < t.size) : hdB p (t.data.toList.drop k) = p t[k] := by rw [drop_at t k h]; rfl
theorem hd_no (p : UInt8 → Bool) (t : ByteArray) (k : Nat) (h : ¬ k < t.size) : hdB p (t.data.toList.drop k) = false := by rw [drop_end t k h]; rfl
theorem kd_cases (x : Int) : x = 32 ∨ x = 9 ∨ x = 10 ∨ x = 37 ∨ x = 123 ∨ x = 125 ∨ x = 92 ∨ x = 35 ∨ (x ≠ 32 ∧ x ≠ 9 ∧ x ≠ 10 ∧ x ≠ 37 ∧ x ≠ 123 ∧ x ≠ 125 ∧ x ≠ 92 ∧ x ≠ 35) := by omega
theorem kdI_other {x : Int} (h : x ≠ 32 ∧ x ≠ 9 ∧ x ≠ 10 ∧ x ≠ 37 ∧ x ≠ 123 ∧ x ≠ 125 ∧ x ≠ 92 ∧ x ≠ 35) (n d : Bool) : kdI x n d = 1 := by
  obtain ⟨h1, h2, h3, h4, h5, h6, h7, h8⟩ := h
  unfold kdI blkI
  simp [h1, h2, h3, h4, h5, h6, h7, h8]
theorem ret_int {a b : Int} (h : a = b) : Ending.returned (.int .i64 a) = .returned (.int .i64 b) := by rw [h]
theorem size_list (t : ByteArray) : t.data.toList.length = t.size := Array.length_toList
theorem str_some {t : ByteArray} (h : 0 < t.size) : t.toList.isEmpty = false := by
  rw [ByteArray.toList_eq]
  have := size_list t
  cases hl : t.data.toList with
  | nil => rw [hl] at this; simp only [List.length_nil] at this; omega
  | cons a r => rfl
theorem str_none {t : ByteArray} (h : ¬ 0 < t.size) : t.data.toList = [] := List.eq_nil_of_length_eq_zero (by rw [size_list]; omega)
set_option maxHeartbeats 1000000 in
theorem begins_any (t : ByteArray) (w : World) (hs : t.size ≤ 4611686018427387904) :
    Calls Tryd.prog 37 #[.string t] w fun e w' => e = .returned (.int .i64 (hk t.data.toList)) ∧ w = w' := by
  by_cases h0 : 0 < t.size
  · have hv := hk_drop t 0 h0
    rw [List.drop_zero] at hv
    have q0 := str_some h0
    obtain ⟨x, hx⟩ : ∃ x : Int, (t[0].toNat : Int) = x := ⟨_, rfl⟩
    rw [hx] at hv
    rcases kd_cases x with rfl | rfl | rfl | rfl | rfl | rfl | rfl | rfl | h
    iterate 6
      · have HV := Lib.hid hv.symm
        generalize hk t.data.toList = V at *
        clear hv
        go_enter Tryd.func37, Tryd.ntmps37
        go_wp2
        go_ret
        exact ⟨ret_int HV.out, rfl⟩
    · by_cases h1 : 1 < t.size
      · rw [hd_yes ltr t 1 h1, ltr_int] at hv
        have HV := Lib.hid hv.symm
        generalize hk t.data.toList = V at *
        clear hv
        obtain ⟨y, hy⟩ : ∃ y : Int, (t[1].toNat : Int) = y := ⟨_, rfl⟩
        rw [hy] at HV
        have C := Lib.hid (letter_any y w)
        generalize ltrI y = v at *
        cases v <;> (
          go_enter Tryd.func37, Tryd.ntmps37
          go_wp2_with fail
          refine C.out.mono ?_
          rintro e w' ⟨rfl, rfl⟩
          go_wp2
          go_ret
          exact ⟨ret_int HV.out, rfl⟩)
      · rw [hd_no ltr t 1 h1] at hv
        have HV := Lib.hid hv.symm
        generalize hk t.data.toList = V at *
        clear hv
        go_enter Tryd.func37, Tryd.ntmps37
        go_wp2
        go_ret
        exact ⟨ret_int HV.out, rfl⟩
    · by_cases h1 : 1 < t.size
      · rw [hd_yes dgt t 1 h1, dgt_int] at hv
        have HV := Lib.hid hv.symm
        generalize hk t.data.toList = V at *
        clear hv
        obtain ⟨y, hy⟩ : ∃ y : Int, (t[1].toNat : Int) = y := ⟨_, rfl⟩
        rw [hy] at HV
        have C := Lib.hid (digit_any y w)
        generalize dgtI y = v at *
        cases v <;> (
          go_enter Tryd.func37, Tryd.ntmps37
          go_wp2_with fail
          refine C.out.mono ?_
          rintro e w' ⟨rfl, rfl⟩
          go_wp2
          go_ret
          exact ⟨ret_int HV.out, rfl⟩)
      · rw [hd_no dgt t 1 h1] at hv
        have HV := Lib.hid hv.symm
        generalize hk t.data.toList = V at *
        clear hv
        go_enter Tryd.func37, Tryd.ntmps37
        go_wp2
        go_ret
        exact ⟨ret_int HV.out, rfl⟩
    · rw [kdI_other h] at hv
      have HV := Lib.hid hv.symm
      generalize hk t.data.toList = V at *
      clear hv
      obtain ⟨h1, h2, h3, h4, h5, h6, h7, h8⟩ := h
      have d1 : (x == 32) = false := by simpa using h1
      have d2 : (x == 9) = false := by simpa using h2
      have d3 : (x == 10) = false := by simpa using h3
      have d4 : (x == 37) = false := by simpa using h4
      have d5 : (x == 123) = false := by simpa using h5
      have d6 : (x == 125) = false := by simpa using h6
      have d7 : (x == 92) = false := by simpa using h7
      have d8 : (x == 35) = false := by simpa using h8
      clear h1 h2 h3 h4 h5 h6 h7 h8
      go_enter Tryd.func37, Tryd.ntmps37
      go_wp2
      go_ret
      exact ⟨ret_int HV.out, rfl⟩
  · have HV := Lib.hid (show (0 : Int) = hk t.data.toList by rw [str_none h0]; rfl)
    generalize hk t.data.toList = V at *
    obtain rfl : t = ByteArray.empty := ByteArray.ext (Array.eq_empty_of_size_eq_zero (by show t.size = 0; omega))
    clear h0
    go_enter Tryd.func37, Tryd.ntmps37
    go_wp2
    go_ret
    exact ⟨ret_int HV.out, rfl⟩
def kdN (t : ByteArray) (k : Nat) : Int := hk (t.data.toList.drop k)
set_option maxHeartbeats 1000000 in
/-- The document's answer: what begins at a place. -/
theorem rkind_any (t : ByteArray) (k : Nat) (w : World) (hs : t.size ≤ 4611686018427387904) (hk0 : k < t.size) :
    Calls Tryd.prog 41 #[.string t, .int .i64 k] w fun e w' => e = .returned (.int .i64 (kdN t k)) ∧ w = w' := by
  have hv := hk_drop t k hk0
  rw [show hk (t.data.toList.drop k) = kdN t k from rfl] at hv
  obtain ⟨x, hx⟩ : ∃ x : Int, (t[k].toNat : Int) = x := ⟨_, rfl⟩
  rw [hx] at hv
  obtain ⟨n, d, y, hn, hd, hv', hy⟩ : ∃ (n d : Bool) (y : Int), n = ltrI y ∧ d = dgtI y ∧ kdN t k = kdI x n d ∧ (∀ h : k + 1 < t.size, (t[k + 1].toNat : Int) = y) ∧ (¬ k + 1 < t.size → y = 0) := by
    by_cases h1 : k + 1 < t.size
    · exact ⟨_, _, (t[k + 1].toNat : Int), rfl, rfl, by rw [hv, hd_yes ltr t _ h1, hd_yes dgt t _ h1, ltr_int, dgt_int], fun _ => rfl, fun h => absurd h1 h⟩
    · exact ⟨_, _, 0, rfl, rfl, by rw [hv, hd_no ltr t _ h1, hd_no dgt t _ h1]; rfl, fun h => absurd h h1, fun _ => rfl⟩
  have CB := Lib.hid (rblank_any x w)
  have CL := Lib.hid (rletter_any y w)
  have CD := Lib.hid (rdigit_any y w)
  rw [← hn] at CL
  rw [← hd] at CD
  have HV := Lib.hid hv'.symm
  generalize kdN t k = V at *
  clear hv hv' hn hd
  obtain ⟨hy1, hy0⟩ := hy
  by_cases h1 : k + 1 < t.size
  · have hy := hy1 h1
    have i1 : ((k : Int) + 1) < (t.size : Int) := by omega
    clear hy1 hy0
    rcases kd_cases x with rfl | rfl | rfl | rfl | rfl | rfl | rfl | rfl | h
    · rw [show blkI 32 = true from rfl] at CB
      go_enter Tryd.func41, Tryd.ntmps41
      go_wp2_with fail
      refine CB.out.mono ?_
      rintro e w' ⟨rfl, rfl⟩
      go_wp2
      go_ret
      exact ⟨ret_int HV.out, rfl⟩
    · rw [show blkI 9 = true from rfl] at CB
      go_enter Tryd.func41, Tryd.ntmps41
      go_wp2_with fail
      refine CB.out.mono ?_
      rintro e w' ⟨rfl, rfl⟩
      go_wp2
      go_ret
      exact ⟨ret_int HV.out, rfl⟩
    · rw [show blkI 10 = true from rfl] at CB
      go_enter Tryd.func41, Tryd.ntmps41
      go_wp2_with fail
      refine CB.out.mono ?_
      rintro e w' ⟨rfl, rfl⟩
      go_wp2
      go_ret
      exact ⟨ret_int HV.out, rfl⟩
    · rw [show blkI 37 = false from rfl] at CB
      go_enter Tryd.func41, Tryd.ntmps41
      go_wp2_with fail
      refine CB.out.mono ?_
      rintro e w' ⟨rfl, rfl⟩
      go_wp2
      go_ret
      exact ⟨ret_int HV.out, rfl⟩
    · rw [show blkI 123 = false from rfl] at CB
      go_enter Tryd.func41, Tryd.ntmps41
      go_wp2_with fail
      refine CB.out.mono ?_
      rintro e w' ⟨rfl, rfl⟩
      go_wp2
      go_ret
      exact ⟨ret_int HV.out, rfl⟩
    · rw [show blkI 125 = false from rfl] at CB
      go_enter Tryd.func41, Tryd.ntmps41
      go_wp2_with fail
      refine CB.out.mono ?_
      rintro e w' ⟨rfl, rfl⟩
      go_wp2
      go_ret
      exact ⟨ret_int HV.out, rfl⟩
    · rw [show blkI 92 = false from rfl] at CB
      cases n <;> (
        go_enter Tryd.func41, Tryd.ntmps41
        go_wp2_with fail
        refine CB.out.mono ?_
        rintro e w' ⟨rfl, rfl⟩
        go_wp2_with fail
        refine CL.out.mono ?_
        rintro e w' ⟨rfl, rfl⟩
        go_wp2
        go_ret
        exact ⟨ret_int HV.out, rfl⟩)
    · rw [show blkI 35 = false from rfl] at CB
      cases d <;> (
        go_enter Tryd.func41, Tryd.ntmps41
        go_wp2_with fail
        refine CB.out.mono ?_
        rintro e w' ⟨rfl, rfl⟩
        go_wp2_with fail
        refine CD.out.mono ?_
        rintro e w' ⟨rfl, rfl⟩
        go_wp2
        go_ret
        exact ⟨ret_int HV.out, rfl⟩)
    · rw [kdI_other h] at HV
      obtain ⟨h1, h2, h3, h4, h5, h6, h7, h8⟩ := h
      rw [show blkI x = false by unfold blkI; simp [h1, h2, h3]] at CB
      have d4 : (x == 37) = false := by simpa using h4
      have d5 : (x == 123) = false := by simpa using h5
      have d6 : (x == 125) = false := by simpa using h6
      have d7 : (x == 92) = false := by simpa using h7
      have d8 : (x == 35) = false := by simpa using h8
      clear h1 h2 h3 h4 h5 h6 h7 h8
      go_enter Tryd.func41, Tryd.ntmps41
      go_wp2_with fail
      refine CB.out.mono ?_
      rintro e w' ⟨rfl, rfl⟩
      go_wp2
      go_ret
      exact ⟨ret_int HV.out, rfl⟩
  · obtain rfl := hy0 h1
    have i1 : ¬ ((k : Int) + 1) < (t.size : Int) := by omega
    clear hy1 hy0
    rcases kd_cases x with rfl | rfl | rfl | rfl | rfl | rfl | rfl | rfl | h
    · rw [show blkI 32 = true from rfl] at CB
      go_enter Tryd.func41, Tryd.ntmps41
      go_wp2_with fail
      refine CB.out.mono ?_
      rintro e w' ⟨rfl, rfl⟩
      go_wp2
      go_ret
      exact ⟨ret_int HV.out, rfl⟩
    · rw [show blkI 9 = true from rfl] at CB
      go_enter Tryd.func41, Tryd.ntmps41
      go_wp2_with fail
      refine CB.out.mono ?_
      rintro e w' ⟨rfl, rfl⟩
      go_wp2
      go_ret
      exact ⟨ret_int HV.out, rfl⟩
    · rw [show blkI 10 = true from rfl] at CB
      go_enter Tryd.func41, Tryd.ntmps41
      go_wp2_with fail
      refine CB.out.mono ?_
      rintro e w' ⟨rfl, rfl⟩
      go_wp2
      go_ret
      exact ⟨ret_int HV.out, rfl⟩
    · rw [show blkI 37 = false from rfl] at CB
      go_enter Tryd.func41, Tryd.ntmps41
      go_wp2_with fail
      refine CB.out.mono ?_
      rintro e w' ⟨rfl, rfl⟩
      go_wp2
      go_ret
      exact ⟨ret_int HV.out, rfl⟩
    · rw [show blkI 123 = false from rfl] at CB
      go_enter Tryd.func41, Tryd.ntmps41
      go_wp2_with fail
      refine CB.out.mono ?_
      rintro e w' ⟨rfl, rfl⟩
      go_wp2
      go_ret
      exact ⟨ret_int HV.out, rfl⟩
    · rw [show blkI 125 = false from rfl] at CB
      go_enter Tryd.func41, Tryd.ntmps41
      go_wp2_with fail
      refine CB.out.mono ?_
      rintro e w' ⟨rfl, rfl⟩
      go_wp2
      go_ret
      exact ⟨ret_int HV.out, rfl⟩
    · rw [show blkI 92 = false from rfl] at CB
      cases n <;> (
        go_enter Tryd.func41, Tryd.ntmps41
        go_wp2_with fail
        refine CB.out.mono ?_
        rintro e w' ⟨rfl, rfl⟩
        go_wp2_with fail
        refine CL.out.mono ?_
        rintro e w' ⟨rfl, rfl⟩
        go_wp2
        go_ret
        exact ⟨ret_int HV.out, rfl⟩)
    · rw [show blkI 35 = false from rfl] at CB
      cases d <;> (
        go_enter Tryd.func41, Tryd.ntmps41
        go_wp2_with fail
        refine CB.out.mono ?_
        rintro e w' ⟨rfl, rfl⟩
        go_wp2_with fail
        refine CD.out.mono ?_
        rintro e w' ⟨rfl, rfl⟩
        go_wp2
        go_ret
        exact ⟨ret_int HV.out, rfl⟩)
    · rw [kdI_other h] at HV
      obtain ⟨h1, h2, h3, h4, h5, h6, h7, h8⟩ := h
      rw [show blkI x = false by unfold blkI; simp [h1, h2, h3]] at CB
      have d4 : (x == 37) = false := by simpa using h4
      have d5 : (x == 123) = false := by simpa using h5
      have d6 : (x == 125) = false := by simpa using h6
      have d7 : (x == 92) = false := by simpa using h7
      have d8 : (x == 35) = false := by simpa using h8
      clear h1 h2 h3 h4 h5 h6 h7 h8
      go_enter Tryd.func41, Tryd.ntmps41
      go_wp2_with fail
      refine CB.out.mono ?_
      rintro e w' ⟨rfl, rfl⟩
      go_wp2
      go_ret
      exact ⟨ret_int HV.out, rfl⟩
theorem take_step (s : ByteArray) (n : Nat) (h : n < s.size) : s.data.toList.take (n + 1) = s.data.toList.take n ++ [s[n]] := by
  rw [List.take_add_one, List.getElem?_eq_getElem (by rw [size_list]; exact h)]; rfl
/-- How many letters a text begins with, by what was seen so far. -/
theorem lead_stop (s : ByteArray) (n : Nat) (ha : (s.data.toList.take n).all ltr = true) (hn : n ≤ s.size) (hs : hdB ltr (s.data.toList.drop n) = false) : (s.data.toList.takeWhile ltr).length = n := by
  have h := take_ltr ha hs
  rw [List.take_append_drop] at h
  rw [h.1, List.length_take, size_list]; omega
set_option maxHeartbeats 400000 in
theorem letters_any (s : ByteArray) (w : World) (hs : s.size ≤ 4611686018427387904) :
    Calls Tryd.prog 59 #[.string s] w fun e w' => e = .returned (.int .i64 ((s.data.toList.takeWhile ltr).length : Nat)) ∧ w = w' := by
  go_enter Tryd.func59, Tryd.ntmps59
  go_wp2
  go_loop [3] (fun i => ∃ k : Nat, k ≤ s.size ∧ i = .int .i64 k ∧ Hid ((s.data.toList.take k).all ltr = true)) (fun i => s.size - (intOf i).toNat)
  case atStart => exact ⟨0, Nat.zero_le _, rfl, Lib.hid rfl⟩
  case round =>
    obtain ⟨k, hk, rfl, HA⟩ := hrel
    by_cases hlt : k < s.size
    · have HS := Lib.hid (take_step s k hlt)
      have HD := Lib.hid (hd_yes ltr s k hlt)
      rw [ltr_int] at HD
      obtain ⟨x, hx⟩ : ∃ x : Int, (s[k].toNat : Int) = x := ⟨_, rfl⟩
      have HL := Lib.hid (ltr_int s[k])
      rw [hx] at HL HD
      have C := Lib.hid (letter_any x w)
      generalize ltrI x = v at *
      cases v
      · go_wp2_with fail
        refine C.out.mono ?_
        rintro e w' ⟨rfl, rfl⟩
        go_wp2
        go_ret
        exact ⟨ret_int (by rw [lead_stop s k HA.out hk HD.out]), rfl⟩
      · go_wp2_with fail
        refine C.out.mono ?_
        rintro e w' ⟨rfl, rfl⟩
        go_wp2
        go_round
        case rel => exact ⟨k + 1, by omega, by go_num, Lib.hid (by rw [HS.out, List.all_append, HA.out]; simp [HL.out])⟩
        case measure => simp [intOf]; omega
    · have HD := Lib.hid (hd_no ltr s k hlt)
      go_wp2
      go_ret
      exact ⟨ret_int (by rw [lead_stop s k HA.out hk HD.out]), rfl⟩
def inI (x : Int) : Bool := decide (x = 92 ∨ x = 123 ∨ x = 125 ∨ x = 37 ∨ x = 35)
end Go.Proofs.YtckldeabbkdbjaaDoor

namespace Go.Proofs.YtckldeabbkdbjaaDoor
open Go.RowKit

def fcells : List Tok → List Value
  | [] => []
  | f :: r => .int .i64 f.1 :: .string ⟨f.2.toArray⟩ :: fcells r
theorem fcells_len : ∀ fs : List Tok, (fcells fs).length = fs.length * 2
  | [] => rfl
  | f :: r => by simp only [fcells, List.length_cons, fcells_len r]; omega
theorem fcells_app : ∀ a b : List Tok, fcells (a ++ b) = fcells a ++ fcells b
  | [], _ => rfl
  | f :: r, b => by simp only [List.cons_append, fcells, fcells_app r b]
theorem fcells_at : ∀ (fs : List Tok) (i : Nat) (f : Tok), fs[i]? = some f → (fcells fs)[i * 2]? = some (.int .i64 f.1) ∧ (fcells fs)[i * 2 + 1]? = some (.string ⟨f.2.toArray⟩)
  | [], _, _, h => by simp at h
  | g :: r, 0, f, h => by simp at h; subst h; exact ⟨rfl, rfl⟩
  | g :: r, i + 1, f, h => by
    have := fcells_at r i f (by simpa using h)
    rw [show (i + 1) * 2 = i * 2 + 1 + 1 by omega]
    simpa [fcells] using this
theorem fcells_one : ∀ (fs : List Tok), ∀ u ∈ fcells fs, u.oneCell' = true
  | [], u, h => by cases h
  | f :: r, u, h => by
    simp only [fcells, List.mem_cons] at h
    rcases h with rfl | rfl | h
    · rfl
    · rfl
    · exact fcells_one r u h

/-- The slice at A reads as these files. -/
def Rd (w : World) (A : Option Addr) (fs : List Tok) : Prop :=
  0 < fs.length → ∃ b o, A = some ⟨b, o, none⟩ ∧ ∀ i f, fs[i]? = some f → w.cell? ⟨b, o + i * 2, none⟩ = some (.int .i64 f.1) ∧ w.cell? ⟨b, o + i * 2 + 1, none⟩ = some (.string ⟨f.2.toArray⟩)
theorem Rd.keep {w w' : World} {A : Option Addr} {fs : List Tok} (h : Rd w A fs) (hk : ∀ (p : Addr) (v : Value), w.cell? p = some v → w'.cell? p = some v) : Rd w' A fs := fun h0 => by
  obtain ⟨b, o, e, hc⟩ := h h0
  exact ⟨b, o, e, fun i f hi => ⟨hk _ _ (hc i f hi).1, hk _ _ (hc i f hi).2⟩⟩
theorem cell_below {w w' : World} (hb : Below w.heap.size w w') {p : Addr} {v : Value} (h : w.cell? p = some v) : w'.cell? p = some v :=
  (hb.cell (World.block_lt_of_cell? w p h)).trans h
theorem Rd.below {w w' : World} {A : Option Addr} {fs : List Tok} (h : Rd w A fs) (hb : Below w.heap.size w w') : Rd w' A fs := h.keep fun _ _ hc => cell_below hb hc
theorem Rd.alloc {w : World} {A : Option Addr} {fs : List Tok} (h : Rd w A fs) (o : Obj) : Rd (w.alloc o) A fs := h.below ((Below.refl _ _).alloc (Nat.le_refl _) _)
theorem Rd.drewN {w : World} {A : Option Addr} {fs : List Tok} (h : Rd w A fs) (n : Nat) : Rd (w.drewN n) A fs := h
theorem Rd.drew {w : World} {A : Option Addr} {fs : List Tok} (h : Rd w A fs) : Rd w.drew A fs := h
theorem Rd.empty (w : World) (A : Option Addr) : Rd w A [] := fun h => absurd h (by simp)

/-- A slice of one's own that holds these files. -/
def Own (t : TypeId) (w : World) (base : Nat) (A : Option Addr) (c : Nat) (fs : List Tok) : Prop := w.ownsRow base t 2 (.slice A fs.length c) fs.length (fcells fs)
theorem Own.rd {t : TypeId} {w : World} {base : Nat} {A : Option Addr} {c : Nat} {fs : List Tok} (h : Own t w base A c fs) : Rd w A fs := fun h0 => by
  obtain ⟨g, cap, hv, _, _⟩ := World.ownsRow.form h h0
  simp only [Value.slice.injEq] at hv
  obtain ⟨rfl, _, _⟩ := hv
  refine ⟨g, 0, rfl, fun i f hi => ?_⟩
  have hlt : i < fs.length := by
    rcases Nat.lt_or_ge i fs.length with q | q
    · exact q
    · rw [List.getElem?_eq_none q] at hi; cases hi
  obtain ⟨h1, h2⟩ := fcells_at fs i f hi
  have c1 := World.ownsRow.cellAt h (i * 2) (by omega)
  have c2 := World.ownsRow.cellAt h (i * 2 + 1) (by omega)
  rw [Nat.zero_add]
  exact ⟨c1.trans h1, c2.trans h2⟩
theorem Own.cap {t : TypeId} {w : World} {base : Nat} {A : Option Addr} {c : Nat} {fs : List Tok} (h : Own t w base A c fs) : fs.length ≤ c ∧ c ≤ 9223372036854775807 ∧ (A = none → c = 0) := by
  rcases h.2 with ⟨hv, h0⟩ | ⟨g, cap, cur, hv, _, _, h1, h2, _⟩
  · simp only [Value.slice.injEq] at hv
    obtain ⟨rfl, _, rfl⟩ := hv
    exact ⟨by omega, by omega, fun _ => rfl⟩
  · simp only [Value.slice.injEq] at hv
    obtain ⟨rfl, _, rfl⟩ := hv
    unfold maxLen at h2
    exact ⟨h1, by omega, fun e => by cases e⟩
theorem Own.mono {t : TypeId} {w : World} {base base' : Nat} {A : Option Addr} {c : Nat} {fs : List Tok} (h : Own t w base A c fs) (hb : base' ≤ base) : Own t w base' A c fs := by
  refine ⟨h.1, ?_⟩
  rcases h.2 with q | ⟨g, cap, cur, h1, h2, r⟩
  · exact .inl q
  · exact .inr ⟨g, cap, cur, h1, Nat.le_trans hb h2, r⟩
theorem Own.below {t : TypeId} {w w' : World} {base : Nat} {A : Option Addr} {c : Nat} {fs : List Tok} (h : Own t w base A c fs) (hb : Below w.heap.size w w') : Own t w' base A c fs := by
  refine ⟨h.1, ?_⟩
  rcases h.2 with q | ⟨g, cap, cur, h1, h2, h3, r⟩
  · exact .inl q
  · have hlt : g < w.heap.size := by
      rcases Nat.lt_or_ge g w.heap.size with hlt | hge
      · exact hlt
      · rw [Array.getElem?_eq_none hge] at h3; cases h3
    exact .inr ⟨g, cap, cur, h1, h2, (hb.block g hlt).trans h3, r⟩
theorem one_below (w : World) (o : Obj) : Below w.heap.size w (w.alloc o) := (Below.refl _ _).alloc (Nat.le_refl _) _
theorem drewN_below (w : World) (n : Nat) : Below w.heap.size w (w.drewN n) := ⟨rfl, rfl, rfl, Nat.le_refl _, fun _ _ => rfl⟩
theorem bch {a b c : World} (h : Below a.heap.size a b) (k : Below b.heap.size b c) : Below a.heap.size a c := h.trans (k.mono h.size)
theorem new_fst (w : World) (a b : Value) (t : TypeId) : (w.alloc (.cells #[a, b] t)).cell? ⟨w.heap.size, 0, none⟩ = some a := by rw [World.cell?_alloc_new]; rfl
theorem new_snd (w : World) (a b : Value) (t : TypeId) : (w.alloc (.cells #[a, b] t)).cell? ⟨w.heap.size, 1, none⟩ = some b := by rw [World.cell?_alloc_new]; rfl
theorem lt_of_blk {w : World} {b : Nat} {o : Obj} (h : w.heap[b]? = some o) : b < w.heap.size := (Array.getElem?_eq_some_iff.1 h).1
theorem cell_of {w : World} {b : Nat} {cs : Array Value} {t : TypeId} {fr : Nat × Nat} (h : w.heap[b]? = some (.cells cs t fr)) (i : Nat) : w.cell? ⟨b, i, none⟩ = cs[i]? := by simp [World.cell?, h]
theorem frozen_of {w : World} {b : Nat} {cs : Array Value} {t : TypeId} (h : w.heap[b]? = some (.cells cs t (0, 0))) (i : Nat) : w.frozen? ⟨b, i, none⟩ = false := by simp [World.frozen?, h]
theorem blk_set {w : World} {b : Nat} {cs : Array Value} {t : TypeId} {fr : Nat × Nat} (h : w.heap[b]? = some (.cells cs t fr)) (i : Nat) (v : Value) : (w.setCell ⟨b, i, none⟩ v).heap[b]? = some (.cells (cs.setIfInBounds i v) t fr) := by
  simp [World.setCell, Array.getElem?_modify, h]
theorem blk_below {w w' : World} (hb : Below w.heap.size w w') {b : Nat} {o : Obj} (h : w.heap[b]? = some o) : w'.heap[b]? = some o := (hb.block b (lt_of_blk h)).trans h
theorem results_cell_tmp {P : Program} {fn : Func} {p q : Tmp} {ty : TypeId} (h : fn.results = #[.cell p ty, .tmp q]) (tmps : Array Value) (w : World) (g : Nat) (t : TypeId) (cs : Array Value) (fr : Nat × Nat) (d : TypeDesc) (v : Value)
    (hp : tmps.getD p undef = .pointer (some ⟨g, 0, none⟩)) (hq : tmps.getD q undef = v) (hg : w.heap[g]? = some (.cells cs t fr))
    (hu : P.underlying ty = some d) (hd : (match d with | .struct _ | .array _ _ => true | _ => false) = true) (hi : (P.info? ty).map (·.size) = some cs.size) :
    (results fn tmps).run P w = .ok (.tuple #[.agg cs, v]) w := by
  have hp' : tmps[p]?.getD undef = .pointer (some ⟨g, 0, none⟩) := by simpa using hp
  have hq' : tmps[q]?.getD undef = v := by simpa using hq
  simp [results, h, hp', hq', asAddr, run_loadVar_row w g t ty cs fr d hg hu hd hi]
theorem str_of {t : ByteArray} {l : By} (h : t.data.toList = l) : t = ⟨l.toArray⟩ := by
  subst h; rfl
/-- How long a text is. -/
def strSz : Value → Nat
  | .string t => t.size
  | _ => 0
theorem ext_list (t : ByteArray) (a b : Nat) : (t.extract a b).data.toList = (t.data.toList.take b).drop a := by
  rw [ByteArray.data_extract, Array.toList_extract, List.extract_eq_take_drop, List.drop_take]
theorem ext_from (t : ByteArray) (a b : Nat) (h : t.size ≤ b) : (t.extract a b).data.toList = t.data.toList.drop a := by
  rw [ext_list, List.take_of_length_le (by rw [size_list]; exact h)]
theorem ext_size (t : ByteArray) (a b : Nat) (h : t.size ≤ b) : (t.extract a b).size = t.size - a := by
  rw [← size_list, ext_from t a b h, List.length_drop, size_list]
end Go.Proofs.YtckldeabbkdbjaaDoor

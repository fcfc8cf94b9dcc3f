/-
  Plain mathematics of macros (no program text): the order of byte strings, lists of macros that rise by their names, put, drop, get. After stage 2's text P, for another thing under each name.
  Words for memory: a slice of macros that reads as a list, each with a body; a row of one's own; append of macros.
-/
import Derived.Test.YtmnbepapgghdaaaGreatK07
import GoSem.Op.String
import Derived.Lib.Bytealg
namespace Go.Proofs.YtmnbepapgghdaaaGreat

/-! ### The order of texts -/
theorem u8_tri (a b : UInt8) : a < b ∨ a = b ∨ b < a := by
  rcases Nat.lt_trichotomy a.toNat b.toNat with h | h | h
  · exact .inl (UInt8.lt_iff_toNat_lt.2 h)
  · exact .inr (.inl (UInt8.toNat_inj.1 h))
  · exact .inr (.inr (UInt8.lt_iff_toNat_lt.2 h))
theorem u8_irrefl (a : UInt8) : ¬ a < a := UInt8.lt_irrefl a
theorem u8_trans {a b c : UInt8} (h : a < b) (k : b < c) : a < c := UInt8.lt_trans h k

theorem bl_cons (a b : UInt8) (x y : List UInt8) : Op.bytesLess (a :: x) (b :: y) = true ↔ a < b ∨ (a = b ∧ Op.bytesLess x y = true) := by
  simp [Op.bytesLess]
theorem bl_nil (a : List UInt8) : Op.bytesLess a [] = false := by cases a <;> rfl
theorem bl_irrefl : ∀ a : List UInt8, Op.bytesLess a a = false
  | [] => rfl
  | a :: x => by
    cases h : Op.bytesLess (a :: x) (a :: x)
    · rfl
    · rcases (bl_cons _ _ _ _).1 h with h | ⟨_, h⟩
      · exact absurd h (u8_irrefl a)
      · rw [bl_irrefl x] at h; exact absurd h (by decide)
theorem bl_trans : ∀ {a b c : List UInt8}, Op.bytesLess a b = true → Op.bytesLess b c = true → Op.bytesLess a c = true
  | _, _, [], _, k => by rw [bl_nil] at k; exact absurd k (by decide)
  | _, [], _ :: _, h, _ => by rw [bl_nil] at h; exact absurd h (by decide)
  | [], _ :: _, _ :: _, _, _ => rfl
  | a :: x, b :: y, c :: z, h, k => by
    rw [bl_cons] at h k ⊢
    rcases h with h | ⟨rfl, h⟩ <;> rcases k with k | ⟨rfl, k⟩
    · exact .inl (u8_trans h k)
    · exact .inl h
    · exact .inl k
    · exact .inr ⟨rfl, bl_trans h k⟩
theorem bl_tri : ∀ a b : List UInt8, Op.bytesLess a b = true ∨ a = b ∨ Op.bytesLess b a = true
  | [], [] => .inr (.inl rfl)
  | [], _ :: _ => .inl rfl
  | _ :: _, [] => .inr (.inr rfl)
  | a :: x, b :: y => by
    simp only [bl_cons]
    rcases u8_tri a b with h | rfl | h
    · exact .inl (.inl h)
    · rcases bl_tri x y with k | rfl | k
      · exact .inl (.inr ⟨rfl, k⟩)
      · exact .inr (.inl rfl)
      · exact .inr (.inr (.inr ⟨rfl, k⟩))
    · exact .inr (.inr (.inl h))
theorem bl_asymm {a b : List UInt8} (h : Op.bytesLess a b = true) : Op.bytesLess b a = false := by
  cases k : Op.bytesLess b a
  · rfl
  · have := bl_trans h k
    rw [bl_irrefl] at this; exact absurd this (by decide)
theorem bl_ne {a b : List UInt8} (h : Op.bytesLess a b = true) : a ≠ b := by
  rintro rfl; rw [bl_irrefl] at h; exact absurd h (by decide)
theorem cb_self : ∀ a : List UInt8, Lib.compareBytes a a = 0
  | [] => rfl
  | a :: x => by simp [Lib.compareBytes, cb_self x]
theorem cb_lt : ∀ {a b : List UInt8}, Op.bytesLess a b = true → Lib.compareBytes a b = -1
  | _, [], h => by rw [bl_nil] at h; exact absurd h (by decide)
  | [], _ :: _, _ => rfl
  | a :: x, b :: y, h => by
    rcases (bl_cons _ _ _ _).1 h with h | ⟨rfl, h⟩
    · simp [Lib.compareBytes, h]
    · simp [Lib.compareBytes]; exact cb_lt ‹_›
theorem cb_gt : ∀ {a b : List UInt8}, Op.bytesLess b a = true → Lib.compareBytes a b = 1
  | [], _, h => by rw [bl_nil] at h; exact absurd h (by decide)
  | _ :: _, [], _ => rfl
  | a :: x, b :: y, h => by
    rcases (bl_cons _ _ _ _).1 h with h | ⟨rfl, h⟩
    · have : ¬ a < b := fun k => u8_irrefl a (u8_trans k h)
      simp [Lib.compareBytes, h, this]
    · simp [Lib.compareBytes]; exact cb_gt ‹_›

/-! ### Files and maps -/
abbrev Mv := Int × List Tok
/-- A macro: its name; how many parameters, and its body. -/
abbrev Ml := List UInt8 × Mv
def wrE (f : Ml) : Int := if nameB f.1 = false then 2 else if f.2.1 < 0 ∨ 9 < f.2.1 then 1 else 0
def Sorted (fs : List Ml) : Prop := fs.Pairwise fun a b => Op.bytesLess a.1 b.1 = true
def Good (fs : List Ml) : Prop := Sorted fs ∧ fs.length ≤ 40 ∧ ∀ f ∈ fs, wrE f = 0
def plc (fs : List Ml) (n : List UInt8) : Nat := (fs.takeWhile fun f => Op.bytesLess f.1 n).length
def hasL (fs : List Ml) (n : List UInt8) : Bool := fs.any fun f => f.1 == n
def getL (fs : List Ml) (n : List UInt8) : Option Mv := (fs.find? fun f => f.1 == n).map (·.2)
def dropL (fs : List Ml) (n : List UInt8) : List Ml := fs.filter fun f => !(f.1 == n)
def putL (fs : List Ml) (f : Ml) : List Ml := (dropL fs f.1).takeWhile (fun g => Op.bytesLess g.1 f.1) ++ f :: (dropL fs f.1).dropWhile (fun g => Op.bytesLess g.1 f.1)
def putE (fs : List Ml) (f : Ml) : Int := if wrE f ≠ 0 then wrE f else if hasL fs f.1 = false ∧ 40 ≤ fs.length then 3 else 0
def putR (fs : List Ml) (f : Ml) : List Ml := if putE fs f = 0 then putL fs f else []
theorem wrE_cases (f : Ml) : wrE f = 0 ∨ wrE f = 1 ∨ wrE f = 2 := by unfold wrE; split <;> (try split) <;> simp
theorem putE_cases (fs : List Ml) (f : Ml) : putE fs f = 0 ∨ putE fs f = 1 ∨ putE fs f = 2 ∨ putE fs f = 3 := by
  unfold putE
  have := wrE_cases f
  split
  · omega
  · split <;> simp
theorem Sorted.nil : Sorted [] := List.Pairwise.nil
theorem Sorted.tail {f : Ml} {fs : List Ml} (h : Sorted (f :: fs)) : Sorted fs := (List.pairwise_cons.1 h).2
theorem Sorted.head {f : Ml} {fs : List Ml} (h : Sorted (f :: fs)) : ∀ g ∈ fs, Op.bytesLess f.1 g.1 = true := (List.pairwise_cons.1 h).1
theorem Sorted.at {fs : List Ml} (h : Sorted fs) {i j : Nat} (hij : i < j) (hj : j < fs.length) : Op.bytesLess (fs[i]'(by omega)).1 fs[j].1 = true :=
  List.pairwise_iff_getElem.1 h i j (by omega) hj hij
theorem Sorted.filter {fs : List Ml} (h : Sorted fs) (p : Ml → Bool) : Sorted (fs.filter p) := List.Pairwise.filter p h
theorem Sorted.sub {a b : List Ml} (h : Sorted b) (k : a.Sublist b) : Sorted a := List.Pairwise.sublist k h

theorem hasL_get (fs : List Ml) (n : List UInt8) : hasL fs n = (getL fs n).isSome := by
  unfold hasL getL
  induction fs with
  | nil => rfl
  | cons f r ih =>
    simp only [List.any_cons, List.find?_cons]
    cases h : f.1 == n <;> simp [ih]
theorem getL_nil (n : List UInt8) : getL [] n = none := rfl
theorem getL_cons (f : Ml) (r : List Ml) (n : List UInt8) : getL (f :: r) n = if f.1 = n then some f.2 else getL r n := by
  unfold getL
  rw [List.find?_cons]
  by_cases h : f.1 = n
  · simp [h]
  · have : (f.1 == n) = false := by simpa using h
    simp [this, h]
theorem getL_mem {fs : List Ml} {n : List UInt8} {t : Mv} (h : getL fs n = some t) : (n, t) ∈ fs := by
  induction fs with
  | nil => simp [getL] at h
  | cons f r ih =>
    rw [getL_cons] at h
    split at h
    · rename_i e
      simp only [Option.some.injEq] at h
      subst e; subst h; exact List.mem_cons_self
    · exact List.mem_cons_of_mem _ (ih h)
theorem getL_none {fs : List Ml} {n : List UInt8} (h : ∀ g ∈ fs, g.1 ≠ n) : getL fs n = none := by
  induction fs with
  | nil => rfl
  | cons f r ih => rw [getL_cons, if_neg (h f List.mem_cons_self)]; exact ih fun g hg => h g (List.mem_cons_of_mem _ hg)
theorem mem_getL {fs : List Ml} (hs : Sorted fs) {f : Ml} (h : f ∈ fs) : getL fs f.1 = some f.2 := by
  induction fs with
  | nil => cases h
  | cons g r ih =>
    rw [getL_cons]
    rcases List.mem_cons.1 h with rfl | h'
    · simp
    · rw [if_neg (bl_ne (hs.head f h'))]; exact ih hs.tail h'

theorem sorted_ext : ∀ {a b : List Ml}, Sorted a → Sorted b → (∀ n, getL a n = getL b n) → a = b
  | [], [], _, _, _ => rfl
  | [], y :: b, _, _, h => by have := h y.1; rw [getL_nil, getL_cons, if_pos rfl] at this; cases this
  | x :: a, [], _, _, h => by have := h x.1; rw [getL_nil, getL_cons, if_pos rfl] at this; cases this
  | x :: a, y :: b, ha, hb, h => by
    have hxy : x.1 = y.1 := by
      rcases bl_tri x.1 y.1 with k | k | k
      · have := h x.1
        rw [getL_cons, if_pos rfl, getL_cons, if_neg (fun e => bl_ne k e.symm), getL_none (fun g hg e => by
          have := bl_trans k (hb.head g hg); rw [e, bl_irrefl] at this; exact absurd this (by decide))] at this
        cases this
      · exact k
      · have := h y.1
        rw [getL_cons, if_neg (fun e => bl_ne k e.symm), getL_cons, if_pos rfl, getL_none (fun g hg e => by
          have := bl_trans k (ha.head g hg); rw [e, bl_irrefl] at this; exact absurd this (by decide))] at this
        cases this
    have h2 : x.2 = y.2 := by
      have := h x.1
      rw [getL_cons, if_pos rfl, getL_cons, if_pos hxy.symm] at this
      simpa using this
    have hx : x = y := Prod.ext hxy h2
    subst hx
    rw [sorted_ext ha.tail hb.tail fun n => by
      have := h n
      rw [getL_cons, getL_cons] at this
      by_cases e : x.1 = n
      · subst e
        rw [getL_none fun g hg e => bl_ne (ha.head g hg) e.symm, getL_none fun g hg e => bl_ne (hb.head g hg) e.symm]
      · rwa [if_neg e, if_neg e] at this]

/-! ### Drop -/
theorem getL_dropL (fs : List Ml) (m n : List UInt8) : getL (dropL fs m) n = if n = m then none else getL fs n := by
  unfold dropL
  induction fs with
  | nil => simp [getL_nil]
  | cons f r ih =>
    rw [List.filter_cons]
    by_cases h : f.1 = m
    · have e : (!(f.1 == m)) = false := by simp [h]
      rw [e]
      simp only [Bool.false_eq_true, if_false]
      rw [ih, getL_cons]
      by_cases k : n = m
      · simp [k]
      · rw [if_neg k, if_neg k, if_neg (fun e => k (by rw [← e, h]))]
    · have e : (!(f.1 == m)) = true := by simp [h]
      rw [e]
      simp only [if_true]
      rw [getL_cons, getL_cons, ih]
      by_cases k : n = m
      · subst k; rw [if_neg h, if_pos rfl, if_pos rfl]
      · rw [if_neg k, if_neg k]
theorem dropL_none {fs : List Ml} {n : List UInt8} (h : hasL fs n = false) : dropL fs n = fs := by
  unfold dropL
  rw [List.filter_eq_self]
  intro f hf
  have := (List.any_eq_false.1 h) f hf
  simpa using this
theorem dropL_sorted {fs : List Ml} (h : Sorted fs) (n : List UInt8) : Sorted (dropL fs n) := h.filter _
theorem dropL_len (fs : List Ml) (n : List UInt8) : (dropL fs n).length ≤ fs.length := List.length_filter_le _ _
theorem dropL_lt (fs : List Ml) (n : List UInt8) : decide ((dropL fs n).length < fs.length) = hasL fs n := by
  unfold dropL hasL
  induction fs with
  | nil => rfl
  | cons f r ih =>
    have hl : (r.filter fun f => !(f.1 == n)).length ≤ r.length := List.length_filter_le _ _
    rw [List.filter_cons, List.any_cons]
    cases h : f.1 == n
    · simp only [Bool.not_false, if_true, List.length_cons, Bool.false_or]
      rw [← ih]
      exact decide_eq_decide.2 (by omega)
    · simp only [Bool.not_true, Bool.false_eq_true, if_false, List.length_cons, Bool.true_or]
      exact decide_eq_true (by omega)
theorem dropL_good {fs : List Ml} (h : Good fs) (n : List UInt8) : Good (dropL fs n) :=
  ⟨dropL_sorted h.1 n, Nat.le_trans (dropL_len fs n) h.2.1, fun f hf => h.2.2 f ((List.mem_filter.1 hf).1)⟩

/-! ### The place -/
theorem plc_le (fs : List Ml) (n : List UInt8) : plc fs n ≤ fs.length := (List.takeWhile_prefix _).length_le
theorem plc_cons (f : Ml) (r : List Ml) (n : List UInt8) : plc (f :: r) n = if Op.bytesLess f.1 n = true then plc r n + 1 else 0 := by
  unfold plc
  rw [List.takeWhile_cons]
  split <;> simp
theorem plc_lt : ∀ {fs : List Ml} {n : List UInt8} {i : Nat} (_ : i < plc fs n) (h : i < fs.length), Op.bytesLess fs[i].1 n = true
  | [], _, _, _, h => absurd h (by simp)
  | f :: r, n, i, k, h => by
    rw [plc_cons] at k
    split at k
    · cases i with
      | zero => simpa
      | succ j => simpa using plc_lt (fs := r) (n := n) (i := j) (by omega) (by simpa using h)
    · omega
theorem plc_ge : ∀ {fs : List Ml} (_ : Sorted fs) {n : List UInt8} {i : Nat} (_ : plc fs n ≤ i) (h : i < fs.length), Op.bytesLess fs[i].1 n = false
  | [], _, _, _, _, h => absurd h (by simp)
  | f :: r, hs, n, i, k, h => by
    rw [plc_cons] at k
    split at k
    · cases i with
      | zero => omega
      | succ j => simpa using plc_ge hs.tail (n := n) (i := j) (by omega) (by simpa using h)
    · rename_i hf
      have hf' : Op.bytesLess f.1 n = false := by simpa using hf
      cases i with
      | zero => simpa
      | succ j =>
        have hj : j < r.length := by simpa using h
        have hfg := hs.head r[j] (List.getElem_mem hj)
        cases e : Op.bytesLess r[j].1 n
        · simpa using e
        · rw [bl_trans hfg e] at hf'; exact absurd hf' (by decide)
theorem plc_unique {fs : List Ml} (hs : Sorted fs) {n : List UInt8} {p : Nat} (hp : p ≤ fs.length) (h1 : ∀ i (h : i < fs.length), i < p → Op.bytesLess fs[i].1 n = true) (h2 : ∀ i (h : i < fs.length), p ≤ i → Op.bytesLess fs[i].1 n = false) : plc fs n = p := by
  have hl := plc_le fs n
  rcases Nat.lt_trichotomy (plc fs n) p with h | h | h
  · have a := h1 (plc fs n) (by omega) h
    rw [plc_ge hs (Nat.le_refl _) (by omega)] at a; exact absurd a (by decide)
  · exact h
  · have a := h2 p (by omega) (Nat.le_refl _)
    rw [plc_lt h (by omega)] at a; exact absurd a (by decide)
theorem hasL_plc {fs : List Ml} (hs : Sorted fs) {n : List UInt8} (h : plc fs n < fs.length) : hasL fs n = (fs[plc fs n].1 == n) := by
  cases e : fs[plc fs n].1 == n
  · cases k : hasL fs n
    · rfl
    · unfold hasL at k
      rw [List.any_eq_true] at k
      obtain ⟨f, hf, hn⟩ := k
      obtain ⟨i, hi, rfl⟩ := List.getElem_of_mem hf
      have hn' : fs[i].1 = n := by simpa using hn
      rcases Nat.lt_trichotomy i (plc fs n) with q | q | q
      · have := plc_lt q hi; rw [hn', bl_irrefl] at this; exact absurd this (by decide)
      · subst q; rw [hn] at e; exact absurd e (by decide)
      · have a := hs.at q hi
        rw [hn'] at a
        rw [plc_ge hs (Nat.le_refl _) h] at a; exact absurd a (by decide)
  · unfold hasL
    rw [List.any_eq_true]
    exact ⟨_, List.getElem_mem h, e⟩
theorem hasL_plc_end {fs : List Ml} {n : List UInt8} (h : plc fs n = fs.length) : hasL fs n = false := by
  unfold hasL
  rw [List.any_eq_false]
  intro f hf
  obtain ⟨i, hi, rfl⟩ := List.getElem_of_mem hf
  have := bl_ne (plc_lt (fs := fs) (n := n) (i := i) (by omega) hi)
  simpa using this
theorem getL_plc {fs : List Ml} (hs : Sorted fs) {n : List UInt8} (h : plc fs n < fs.length) (e : fs[plc fs n].1 = n) : getL fs n = some fs[plc fs n].2 := by
  have := mem_getL hs (List.getElem_mem h)
  rwa [e] at this
theorem takeWhile_plc (fs : List Ml) (n : List UInt8) : fs.takeWhile (fun f => Op.bytesLess f.1 n) = fs.take (plc fs n) := by
  unfold plc
  exact (List.prefix_iff_eq_take.1 (List.takeWhile_prefix _))
theorem dropWhile_plc (fs : List Ml) (n : List UInt8) : fs.dropWhile (fun f => Op.bytesLess f.1 n) = fs.drop (plc fs n) := by
  have h := List.takeWhile_append_dropWhile (p := fun f : Ml => Op.bytesLess f.1 n) (l := fs)
  have h2 : fs.drop (plc fs n) = (fs.takeWhile (fun f => Op.bytesLess f.1 n) ++ fs.dropWhile (fun f => Op.bytesLess f.1 n)).drop (plc fs n) := by rw [h]
  rw [h2]; unfold plc; exact (List.drop_left).symm

theorem dropL_has {fs : List Ml} (hs : Sorted fs) {n : List UInt8} (h : plc fs n < fs.length) (e : fs[plc fs n].1 = n) : dropL fs n = fs.take (plc fs n) ++ fs.drop (plc fs n + 1) := by
  have hsplit : fs = fs.take (plc fs n) ++ (fs[plc fs n] :: fs.drop (plc fs n + 1)) := by
    rw [← List.drop_eq_getElem_cons h, List.take_append_drop]
  have h1 : (fs.take (plc fs n)).filter (fun f => !(f.1 == n)) = fs.take (plc fs n) := by
    rw [List.filter_eq_self]
    intro f hf
    obtain ⟨i, hi, rfl⟩ := List.getElem_of_mem hf
    rw [List.getElem_take]
    have := bl_ne (plc_lt (fs := fs) (n := n) (i := i) (by simp at hi; omega) (by simp at hi; omega))
    simpa using this
  have h2 : (fs.drop (plc fs n + 1)).filter (fun f => !(f.1 == n)) = fs.drop (plc fs n + 1) := by
    rw [List.filter_eq_self]
    intro f hf
    obtain ⟨i, hi, rfl⟩ := List.getElem_of_mem hf
    rw [List.getElem_drop]
    have := hs.at (i := plc fs n) (j := plc fs n + 1 + i) (by omega) (by simp at hi; omega)
    rw [e] at this
    have := (bl_ne this).symm
    simpa using this
  unfold dropL
  conv => lhs; rw [hsplit]
  rw [List.filter_append, List.filter_cons, h1, h2]
  simp [e]
/-- Put, where a file of that name is. -/
theorem putL_has {fs : List Ml} (hs : Sorted fs) {f : Ml} (h : plc fs f.1 < fs.length) (e : fs[plc fs f.1].1 = f.1) :
    putL fs f = fs.take (plc fs f.1) ++ (f :: fs.drop (plc fs f.1 + 1)) := by
  have hd := dropL_has hs h e
  unfold putL
  rw [hd, takeWhile_plc, dropWhile_plc]
  have hp : plc (fs.take (plc fs f.1) ++ fs.drop (plc fs f.1 + 1)) f.1 = plc fs f.1 := by
    rw [← hd]
    refine plc_unique (dropL_sorted hs _) ?_ ?_ ?_
    · rw [hd]; simp; omega
    · intro i hi hip
      simp only [hd]
      rw [List.getElem_append_left (by simp; omega), List.getElem_take]
      exact plc_lt hip (by omega)
    · intro i hi hip
      simp only [hd]
      rw [List.getElem_append_right (by simp; omega), List.getElem_drop]
      refine plc_ge hs (by simp; omega) _
  rw [hp, List.take_append_of_le_length (by simp; omega), List.take_take, Nat.min_self, List.drop_append_of_le_length (by simp; omega)]
  simp
/-- Put, where none is. -/
theorem putL_new {fs : List Ml} {f : Ml} (h : hasL fs f.1 = false) : putL fs f = fs.take (plc fs f.1) ++ (f :: fs.drop (plc fs f.1)) := by
  unfold putL
  rw [dropL_none h, takeWhile_plc, dropWhile_plc]

/-! ### Put -/
theorem putL_sorted {fs : List Ml} (hs : Sorted fs) (f : Ml) : Sorted (putL fs f) := by
  unfold putL
  have hd := dropL_sorted hs f.1
  rw [takeWhile_plc, dropWhile_plc]
  obtain ⟨ds, hds⟩ : ∃ ds, ds = dropL fs f.1 := ⟨_, rfl⟩
  have hne : ∀ g ∈ ds, g.1 ≠ f.1 := fun g hg => by
    rw [hds] at hg
    have := (List.mem_filter.1 hg).2
    simpa using this
  rw [← hds] at hd ⊢
  unfold Sorted
  rw [List.pairwise_append, List.pairwise_cons]
  refine ⟨hd.sub (List.take_sublist _ _), ⟨fun g hg => ?_, hd.sub (List.drop_sublist _ _)⟩, fun a ha b hb => ?_⟩
  · obtain ⟨i, hi, rfl⟩ := List.getElem_of_mem hg
    rw [List.getElem_drop]
    have k := plc_ge hd (n := f.1) (i := plc ds f.1 + i) (by omega) (by simp at hi; omega)
    rcases bl_tri f.1 (ds[plc ds f.1 + i]'(by simp at hi; omega)).1 with q | q | q
    · exact q
    · exact absurd q.symm (hne _ (List.getElem_mem _))
    · rw [q] at k; exact absurd k (by decide)
  · obtain ⟨i, hi, rfl⟩ := List.getElem_of_mem ha
    rw [List.getElem_take]
    have k := plc_lt (fs := ds) (n := f.1) (i := i) (by simp at hi; omega) (by simp at hi; omega)
    rcases List.mem_cons.1 hb with rfl | hb
    · exact k
    · obtain ⟨j, hj, rfl⟩ := List.getElem_of_mem hb
      rw [List.getElem_drop]
      exact hd.at (i := i) (j := plc ds f.1 + j) (by simp at hi; omega) (by simp at hj; omega)
theorem getL_append (a b : List Ml) (n : List UInt8) : getL (a ++ b) n = match getL a n with | some t => some t | none => getL b n := by
  induction a with
  | nil => simp [getL_nil]
  | cons f r ih =>
    rw [List.cons_append, getL_cons, getL_cons]
    split
    · rfl
    · exact ih
theorem getL_putL (fs : List Ml) (f : Ml) (n : List UInt8) : getL (putL fs f) n = if n = f.1 then some f.2 else getL fs n := by
  have hd := getL_dropL fs f.1 n
  have h := List.takeWhile_append_dropWhile (p := fun g : Ml => Op.bytesLess g.1 f.1) (l := dropL fs f.1)
  rw [← h, getL_append] at hd
  unfold putL
  rw [getL_append, getL_cons]
  by_cases e : n = f.1
  · rw [if_pos e] at hd ⊢
    rw [if_pos e.symm]
    split at hd
    · cases hd
    · rename_i q; rfl
  · rw [if_neg e] at hd ⊢
    rw [if_neg (fun k => e k.symm)]
    exact hd
theorem putL_len (fs : List Ml) (f : Ml) : (putL fs f).length = (dropL fs f.1).length + 1 := by
  unfold putL
  have h := List.takeWhile_append_dropWhile (p := fun g : Ml => Op.bytesLess g.1 f.1) (l := dropL fs f.1)
  have h2 := congrArg List.length h
  rw [List.length_append] at h2
  rw [List.length_append, List.length_cons]
  omega
theorem putL_mem {fs : List Ml} {f g : Ml} (h : g ∈ putL fs f) : g = f ∨ g ∈ fs := by
  unfold putL at h
  rcases List.mem_append.1 h with h | h
  · exact .inr (List.mem_filter.1 ((List.takeWhile_sublist _).subset h)).1
  · rcases List.mem_cons.1 h with h | h
    · exact .inl h
    · exact .inr (List.mem_filter.1 ((List.dropWhile_sublist _).subset h)).1
theorem putE_zero {fs : List Ml} {f : Ml} (h : putE fs f = 0) : wrE f = 0 ∧ (hasL fs f.1 = true ∨ fs.length < 40) := by
  unfold putE at h
  split at h
  · rename_i q; exact absurd h q
  · rename_i q
    refine ⟨by simpa using q, ?_⟩
    split at h
    · cases h
    · rename_i k
      rcases Bool.eq_false_or_eq_true (hasL fs f.1) with e | e
      · exact .inl e
      · exact .inr (by rcases Nat.lt_or_ge fs.length 40 with q | q; exact q; exact absurd ⟨e, q⟩ k)
theorem putE_mk {fs : List Ml} {f : Ml} (h : wrE f = 0) (k : hasL fs f.1 = true ∨ fs.length < 40) : putE fs f = 0 := by
  unfold putE
  rw [if_neg (by simp [h]), if_neg]
  rintro ⟨a, b⟩
  rcases k with k | k
  · rw [k] at a; cases a
  · omega
theorem putL_good {fs : List Ml} {f : Ml} (h : Good fs) (he : putE fs f = 0) : Good (putL fs f) := by
  obtain ⟨h1, h2⟩ := putE_zero he
  refine ⟨putL_sorted h.1 f, ?_, fun g hg => ?_⟩
  · rw [putL_len]
    have := dropL_len fs f.1
    have h40 := h.2.1
    rcases h2 with h2 | h2
    · have := dropL_lt fs f.1
      rw [h2] at this
      have := of_decide_eq_true this
      omega
    · omega
  · rcases putL_mem hg with rfl | hg
    · exact h1
    · exact h.2.2 g hg
theorem Good.nil : Good [] := ⟨Sorted.nil, by simp, fun f hf => by cases hf⟩
end Go.Proofs.YtmnbepapgghdaaaGreat

namespace Go.Proofs.YtmnbepapgghdaaaGreat
open Go.RowKit

/-- The cells of these macros; no body lies in that block. -/
def HoldM (w : World) (g : Option Nat) : List Ml → List Value → Prop
  | [], cs => cs = []
  | m :: r, cs => ∃ (B : Option Addr) (d : Nat) (cs' : List Value), cs = .string ⟨m.1.toArray⟩ :: .int .i64 m.2.1 :: .slice B m.2.2.length d :: cs' ∧ Rd w B m.2.2 ∧ (0 < m.2.2.length → Far g B) ∧ HoldM w g r cs'
theorem HoldM.len {w : World} {g : Option Nat} : ∀ {ms : List Ml} {cs : List Value}, HoldM w g ms cs → cs.length = ms.length * 3
  | [], cs, h => by
    have h' : cs = [] := h
    rw [h']; rfl
  | m :: r, cs, h => by
    obtain ⟨B, d, cs', rfl, _, _, h2⟩ := h
    have := h2.len
    simp only [List.length_cons, this]; omega
theorem HoldM.app {w : World} {g : Option Nat} : ∀ {a b : List Ml} {ca cb : List Value}, HoldM w g a ca → HoldM w g b cb → HoldM w g (a ++ b) (ca ++ cb)
  | [], b, ca, cb, h, k => by
    have h' : ca = [] := h
    subst h'; exact k
  | m :: r, b, ca, cb, h, k => by
    obtain ⟨B, d, cs', rfl, h1, h2, h3⟩ := h
    exact ⟨B, d, cs' ++ cb, rfl, h1, h2, h3.app k⟩
theorem HoldM.at {w : World} {g : Option Nat} : ∀ {ms : List Ml} {cs : List Value} {i : Nat} {m : Ml}, HoldM w g ms cs → ms[i]? = some m → ∃ (B : Option Addr) (d : Nat), cs[i * 3]? = some (.string ⟨m.1.toArray⟩) ∧ cs[i * 3 + 1]? = some (.int .i64 m.2.1) ∧ cs[i * 3 + 2]? = some (.slice B m.2.2.length d) ∧ Rd w B m.2.2 ∧ (0 < m.2.2.length → Far g B)
  | [], _, i, m, _, hi => by simp at hi
  | a :: r, cs, 0, m, h, hi => by
    simp at hi; subst hi
    obtain ⟨B, d, cs', rfl, h1, h2, _⟩ := h
    exact ⟨B, d, rfl, rfl, rfl, h1, h2⟩
  | a :: r, cs, i + 1, m, h, hi => by
    obtain ⟨B0, d0, cs', rfl, _, _, h3⟩ := h
    obtain ⟨B, d, k1, k2, k3, k4, k5⟩ := h3.at (i := i) (by simpa using hi)
    refine ⟨B, d, ?_, ?_, ?_, k4, k5⟩
    · rw [show (i + 1) * 3 = i * 3 + 1 + 1 + 1 by omega]; simpa using k1
    · rw [show (i + 1) * 3 + 1 = i * 3 + 1 + 1 + 1 + 1 by omega]; simpa using k2
    · rw [show (i + 1) * 3 + 2 = i * 3 + 2 + 1 + 1 + 1 by omega]; simpa using k3
theorem HoldM.map {w w' : World} {g g' : Option Nat} (k : ∀ B l, Rd w B l → (0 < l.length → Far g B) → Rd w' B l ∧ (0 < l.length → Far g' B)) : ∀ {ms : List Ml} {cs : List Value}, HoldM w g ms cs → HoldM w' g' ms cs
  | [], _, h => h
  | m :: r, _, h => by
    obtain ⟨B, d, cs', rfl, h1, h2, h3⟩ := h
    obtain ⟨q1, q2⟩ := k B m.2.2 h1 h2
    exact ⟨B, d, cs', rfl, q1, q2, h3.map k⟩
theorem HoldM.one {w : World} {g : Option Nat} : ∀ {ms : List Ml} {cs : List Value}, HoldM w g ms cs → ∀ u ∈ cs, u.oneCell' = true
  | [], _, h, u, hu => by
    have h' : _ = [] := h
    subst h'; cases hu
  | m :: r, _, h, u, hu => by
    obtain ⟨B, d, cs', rfl, h1, h2, h3⟩ := h
    simp only [List.mem_cons] at hu
    rcases hu with rfl | rfl | rfl | hu
    · rfl
    · rfl
    · rfl
    · exact h3.one u hu
theorem HoldM.drop {w : World} {g : Option Nat} : ∀ (k : Nat) {ms : List Ml} {cs : List Value}, HoldM w g ms cs → HoldM w g (ms.drop k) (cs.drop (k * 3))
  | 0, ms, cs, h => by simpa using h
  | k + 1, [], cs, h => by
    have h' : cs = [] := h
    subst h'; simp; rfl
  | k + 1, m :: r, _, h => by
    obtain ⟨B, d, cs', rfl, h1, h2, h3⟩ := h
    rw [show (k + 1) * 3 = k * 3 + 1 + 1 + 1 by omega]
    simpa using h3.drop k
theorem HoldM.take {w : World} {g : Option Nat} : ∀ (k : Nat) {ms : List Ml} {cs : List Value}, HoldM w g ms cs → HoldM w g (ms.take k) (cs.take (k * 3))
  | 0, ms, cs, h => by simp; rfl
  | k + 1, [], cs, h => by
    have h' : cs = [] := h
    subst h'; simp; rfl
  | k + 1, m :: r, _, h => by
    obtain ⟨B, d, cs', rfl, h1, h2, h3⟩ := h
    rw [show (k + 1) * 3 = k * 3 + 1 + 1 + 1 by omega]
    exact ⟨B, d, cs'.take (k * 3), by simp, h1, h2, h3.take k⟩
theorem HoldM.put {w : World} {g : Option Nat} : ∀ {ms : List Ml} {cs : List Value} {i : Nat} {m : Ml} (B : Option Addr) (d : Nat), HoldM w g ms cs → ms[i]? = some m → Rd w B m.2.2 → (0 < m.2.2.length → Far g B) → HoldM w g ms (cs.set (i * 3 + 2) (.slice B m.2.2.length d))
  | [], _, i, m, B, d, _, hi, _, _ => by simp at hi
  | a :: r, cs, 0, m, B, d, h, hi, hr, hf => by
    simp at hi; subst hi
    obtain ⟨B0, d0, cs', rfl, h1, h2, h3⟩ := h
    exact ⟨B, d, cs', rfl, hr, hf, h3⟩
  | a :: r, cs, i + 1, m, B, d, h, hi, hr, hf => by
    obtain ⟨B0, d0, cs', rfl, h1, h2, h3⟩ := h
    refine ⟨B0, d0, cs'.set (i * 3 + 2) (.slice B m.2.2.length d), ?_, h1, h2, h3.put B d (by simpa using hi) hr hf⟩
    rw [show (i + 1) * 3 + 2 = i * 3 + 2 + 1 + 1 + 1 by omega]; rfl
theorem far_none (B : Option Addr) : Far none B := fun _ _ e => by cases e

/-- The slice at A reads as these macros; no body lies in that block. -/
def RdMF (w : World) (g : Option Nat) (A : Option Addr) (ms : List Ml) : Prop :=
  0 < ms.length → ∃ b o cs, A = some ⟨b, o, none⟩ ∧ HoldM w g ms cs ∧ ∀ j u, cs[j]? = some u → w.cell? ⟨b, o + j, none⟩ = some u
abbrev RdM (w : World) (A : Option Addr) (ms : List Ml) : Prop := RdMF w none A ms
theorem RdMF.cells {w : World} {g : Option Nat} {A : Option Addr} {ms : List Ml} (h : RdMF w g A ms) (h0 : 0 < ms.length) :
    ∃ b o, A = some ⟨b, o, none⟩ ∧ ∀ i m, ms[i]? = some m → ∃ (B : Option Addr) (d : Nat), w.cell? ⟨b, o + i * 3, none⟩ = some (.string ⟨m.1.toArray⟩) ∧ w.cell? ⟨b, o + i * 3 + 1, none⟩ = some (.int .i64 m.2.1) ∧ w.cell? ⟨b, o + i * 3 + 2, none⟩ = some (.slice B m.2.2.length d) ∧ Rd w B m.2.2 := by
  obtain ⟨b, o, cs, rfl, hh, hc⟩ := h h0
  refine ⟨b, o, rfl, fun i m hi => ?_⟩
  obtain ⟨B, d, k1, k2, k3, k4, _⟩ := hh.at hi
  exact ⟨B, d, hc _ _ k1, hc _ _ k2, hc _ _ k3, k4⟩
theorem RdMF.below {w w' : World} {g : Option Nat} {A : Option Addr} {ms : List Ml} (h : RdMF w g A ms) (hb : Below w.heap.size w w') : RdMF w' g A ms := fun h0 => by
  obtain ⟨b, o, cs, e, hh, hc⟩ := h h0
  exact ⟨b, o, cs, e, hh.map fun B l r f => ⟨r.below hb, f⟩, fun j u hu => cell_below hb (hc j u hu)⟩
theorem RdMF.drewN {w : World} {g : Option Nat} {A : Option Addr} {ms : List Ml} (h : RdMF w g A ms) (n : Nat) : RdMF (w.drewN n) g A ms := h.below (drewN_below w n)
theorem RdMF.plain {w : World} {g : Option Nat} {A : Option Addr} {ms : List Ml} (h : RdMF w g A ms) : RdM w A ms := fun h0 => by
  obtain ⟨b, o, cs, e, hh, hc⟩ := h h0
  exact ⟨b, o, cs, e, hh.map fun B l r f => ⟨r, fun _ => far_none B⟩, hc⟩
theorem RdMF.empty (w : World) (g : Option Nat) (A : Option Addr) : RdMF w g A [] := fun h => absurd h (by simp)
theorem rd_lt {w : World} {B : Option Addr} {l : List Tok} (h : Rd w B l) (h0 : 0 < l.length) : ∀ a, B = some a → a.block < w.heap.size := fun a ha => by
  obtain ⟨b, o, e, hc⟩ := h h0
  obtain ⟨f, hf0⟩ : ∃ f, l[0]? = some f := ⟨_, List.getElem?_eq_getElem h0⟩
  have hl := World.block_lt_of_cell? w _ (hc 0 f hf0).1
  rw [e] at ha
  cases ha
  exact hl
/-- What was there before a block was made lies in another one. -/
theorem RdMF.later {w w' : World} {g g' : Option Nat} {A : Option Addr} {ms : List Ml} (h : RdMF w g A ms) (hb : Below w.heap.size w w') (hg : ∀ k, g' = some k → w.heap.size ≤ k) : RdMF w' g' A ms := fun h0 => by
  obtain ⟨b, o, cs, e, hh, hc⟩ := h h0
  refine ⟨b, o, cs, e, hh.map fun B l r f => ⟨r.below hb, fun h1 a ha e => ?_⟩, fun j u hu => cell_below hb (hc j u hu)⟩
  have := rd_lt r h1 a ha
  have := hg _ e.symm
  omega
theorem RdMF.part {w : World} {g : Option Nat} {A : Option Addr} {ms : List Ml} (h : RdMF w g A ms) {l c : Nat} (hm : l ≤ ms.length) (hc : ms.length ≤ c) : RdMF w g (cutS 3 A c l) (ms.drop l) := fun h0 => by
  rw [List.length_drop] at h0
  obtain ⟨b, o, cs, rfl, hh, hcell⟩ := h (by omega)
  unfold cutS
  rw [if_neg (by omega), Option.map_some, add_lit]
  refine ⟨b, o + l * 3, cs.drop (l * 3), rfl, hh.drop l, fun j u hu => ?_⟩
  rw [List.getElem?_drop] at hu
  rw [Nat.add_assoc]
  exact hcell _ _ hu
theorem RdMF.take {w : World} {g : Option Nat} {A : Option Addr} {ms : List Ml} (h : RdMF w g A ms) (k : Nat) : RdMF w g A (ms.take k) := fun h0 => by
  rw [List.length_take] at h0
  obtain ⟨b, o, cs, rfl, hh, hcell⟩ := h (by omega)
  refine ⟨b, o, cs.take (k * 3), rfl, hh.take k, fun j u hu => ?_⟩
  rw [List.getElem?_take] at hu
  split at hu
  · exact hcell _ _ hu
  · cases hu
theorem one_readM {w : World} {g : Option Nat} {b : Nat} {m : Ml} {B : Option Addr} {d : Nat} (h1 : w.cell? ⟨b, 0, none⟩ = some (.string ⟨m.1.toArray⟩)) (h2 : w.cell? ⟨b, 1, none⟩ = some (.int .i64 m.2.1)) (h3 : w.cell? ⟨b, 2, none⟩ = some (.slice B m.2.2.length d))
    (hr : Rd w B m.2.2) (hf : 0 < m.2.2.length → Far g B) : RdMF w g (some ⟨b, 0, none⟩) [m] := fun _ =>
  ⟨b, 0, [.string ⟨m.1.toArray⟩, .int .i64 m.2.1, .slice B m.2.2.length d], rfl, ⟨B, d, [], rfl, hr, hf, rfl⟩, fun j u hu => by
    rw [Nat.zero_add]
    match j, hu with
    | 0, hu => simp at hu; subst hu; exact h1
    | 1, hu => simp at hu; subst hu; exact h2
    | 2, hu => simp at hu; subst hu; exact h3
    | j + 3, hu => simp at hu⟩

/-- A row of one's own that holds these macros, each body in another block. -/
def OwnM (t : TypeId) (w : World) (base : Nat) (A : Option Addr) (c : Nat) (ms : List Ml) : Prop :=
  ∃ cs : List Value, w.ownsRow base t 3 (Value.slice A ms.length c) ms.length cs ∧ HoldM w (Value.slice A ms.length c).ownBlock ms cs
theorem OwnM.below {t : TypeId} {w w' : World} {base : Nat} {A : Option Addr} {c : Nat} {ms : List Ml} (h : OwnM t w base A c ms) (hb : Below w.heap.size w w') : OwnM t w' base A c ms := by
  obtain ⟨cs, hown, hh⟩ := h
  exact ⟨cs, own_row_below hown hb, hh.map fun B l r f => ⟨r.below hb, f⟩⟩
theorem OwnM.lt {t : TypeId} {w : World} {base : Nat} {A : Option Addr} {c : Nat} {ms : List Ml} (h : OwnM t w base A c ms) : ∀ g, (Value.slice A ms.length c).ownBlock = some g → g < w.heap.size := fun g hg => by
  obtain ⟨cs, hown, _⟩ := h
  exact (hown.lt g hg).2
theorem OwnM.ge {t : TypeId} {w : World} {base : Nat} {A : Option Addr} {c : Nat} {ms : List Ml} (h : OwnM t w base A c ms) : ∀ g, (Value.slice A ms.length c).ownBlock = some g → base ≤ g := fun g hg => by
  obtain ⟨cs, hown, _⟩ := h
  exact (hown.lt g hg).1
theorem OwnM.mono {t : TypeId} {w : World} {base base' : Nat} {A : Option Addr} {c : Nat} {ms : List Ml} (h : OwnM t w base A c ms) (hb : base' ≤ base) : OwnM t w base' A c ms := by
  obtain ⟨cs, ⟨h1, h2⟩, hh⟩ := h
  refine ⟨cs, ⟨h1, ?_⟩, hh⟩
  rcases h2 with q | ⟨g, cap, cur, k1, k2, r⟩
  · exact .inl q
  · exact .inr ⟨g, cap, cur, k1, Nat.le_trans hb k2, r⟩
theorem OwnM.rd {t : TypeId} {w : World} {base : Nat} {A : Option Addr} {c : Nat} {ms : List Ml} (h : OwnM t w base A c ms) : RdMF w (Value.slice A ms.length c).ownBlock A ms := fun h0 => by
  obtain ⟨cs, hown, hh⟩ := h
  obtain ⟨g, cap, hv, _, _⟩ := World.ownsRow.form hown h0
  have hv0 := hv
  simp only [Value.slice.injEq] at hv
  obtain ⟨rfl, _, rfl⟩ := hv
  refine ⟨g, 0, cs, rfl, hh, fun j u hu => ?_⟩
  have hj : j < cs.length := (List.getElem?_eq_some_iff.1 hu).1
  rw [hh.len] at hj
  rw [Nat.zero_add]
  exact (World.ownsRow.cellAt hown j hj).trans hu
theorem OwnM.cap {t : TypeId} {w : World} {base : Nat} {A : Option Addr} {c : Nat} {ms : List Ml} (h : OwnM t w base A c ms) : ms.length ≤ c ∧ c ≤ 9223372036854775807 := by
  obtain ⟨cs, hown, _⟩ := h
  rcases hown.2 with ⟨hv, h0⟩ | ⟨g, cap, cur, hv, _, _, h1, h2, _⟩
  · simp only [Value.slice.injEq] at hv
    obtain ⟨rfl, _, rfl⟩ := hv
    exact ⟨by omega, by omega⟩
  · simp only [Value.slice.injEq] at hv
    obtain ⟨rfl, _, rfl⟩ := hv
    unfold maxLen at h2
    exact ⟨h1, by omega⟩
theorem ownM_empty (t : TypeId) (w : World) : OwnM t (w.alloc (.cells #[] t)) w.heap.size (some ⟨w.heap.size, 0, none⟩) 0 [] :=
  ⟨[], World.ownsRow_lit w #[] 0 (Nat.le_refl _) (by unfold maxLen; omega) (by simp), rfl⟩
theorem ownM_nil (t : TypeId) (w : World) (base : Nat) : OwnM t w base none 0 [] := ⟨[], ⟨rfl, .inl ⟨rfl, rfl⟩⟩, rfl⟩
theorem run_append_m (T E : TypeId) (hT : Tryz.prog.underlying T = some (.slice E)) (hI : (Tryz.prog.info? E).map (fun i => (i.zero, i.size, i.bytes)) = some (some (.agg #[.string ⟨#[]⟩, .int .i64 0, .slice none 0 0]), 3, 48))
    (w : World) (base : Nat) (ty : TypeId) (A : Option Addr) (c : Nat) (ms : List Ml) (hown : OwnM E w base A c ms) (D : Option Addr) (d : Nat) (gs : List Ml) (hr : RdMF w (Value.slice A ms.length c).ownBlock D gs)
    (hlen : ms.length + gs.length ≤ 200000) (hbase : base ≤ w.heap.size) :
    ∃ A' c' w', (Builtin.append_ #[T, T] ty #[.slice A ms.length c, .slice D gs.length d]).run Tryz.prog w = .ok (.slice A' (ms ++ gs).length c') w' ∧ OwnM E w' base A' c' (ms ++ gs) ∧ Below base w w' := by
  obtain ⟨i0, hi, hz0, hz1, hz2⟩ := info_parts hI
  obtain ⟨cs, ho, hcs⟩ := hown
  have main : ∀ (ad : Addr) (cs2 : List Value), HoldM w (Value.slice A ms.length c).ownBlock gs cs2 → (∀ j u, cs2[j]? = some u → w.cell? (ad.add j) = some u) →
      ∃ A' c' w', (Builtin.append_ #[T, T] ty #[.slice A ms.length c, .slice (some ad) gs.length d]).run Tryz.prog w = .ok (.slice A' (ms ++ gs).length c') w' ∧ OwnM E w' base A' c' (ms ++ gs) ∧ Below base w w' := fun ad cs2 hh hn => by
    obtain ⟨v', w', h1, h2, h3, _, h5⟩ := run_append_own_at (P := Tryz.prog) w base T ty E i0 _ 3 48 hT hi hz0 hz1 hz2 rfl (by decide) (.slice A ms.length c) ms.length cs ho ad gs.length d cs2 hh.len hn hh.one
      (by unfold maxLen; omega) (by omega) hbase
    obtain ⟨A', c', rfl⟩ := own_shape h2
    rw [← List.length_append] at h1 h2 h5
    refine ⟨A', c', w', h1, ⟨cs ++ cs2, h2, (hcs.app hh).map fun B l r f => ⟨r.grown h3 f, fun h0 a ha e => ?_⟩⟩, below_grown ho h3 hbase⟩
    rcases h5 with q | q
    · rw [q] at e; exact f h0 a ha e
    · rw [q] at e
      have hl := rd_lt r h0 a ha
      have := Option.some.inj e
      omega
  cases D with
  | none =>
    have hg : gs = [] := by
      rcases Nat.eq_zero_or_pos gs.length with h | h
      · exact List.length_eq_zero_iff.1 h
      · obtain ⟨b, o, _, e, _⟩ := hr h; cases e
    subst hg
    refine ⟨A, c, w, ?_, ?_, Below.refl _ _⟩
    · rw [List.append_nil]; exact run_append_none w base T ty E i0 3 d hT hi _ _ _ ho
    · rw [List.append_nil]; exact ⟨cs, ho, hcs⟩
  | some ad =>
    rcases Nat.eq_zero_or_pos gs.length with h | h
    · have hg := List.length_eq_zero_iff.1 h
      subst hg
      exact main ad [] rfl fun j u hu => by simp at hu
    · obtain ⟨b, o, cs2, e, hh, hc⟩ := hr h
      cases e
      exact main _ cs2 hh fun j u hu => by rw [add_lit]; exact hc j u hu
theorem wpList_append_m (T E : TypeId) (hT : Tryz.prog.underlying T = some (.slice E)) (hI : (Tryz.prog.info? E).map (fun i => (i.zero, i.size, i.bytes)) = some (some (.agg #[.string ⟨#[]⟩, .int .i64 0, .slice none 0 0]), 3, 48))
    {ops : Array Oper} {rest : List Oper} {o : Oper} {a : Act} {Q : Exit → Act → World → Prop} (w : World) (hgd : o.guard = none) (s x : Operand)
    (ho : o.op = .call { callee := .builtin .append, args := #[s, x], argTypes := #[T, T] }) (base : Nat) (A : Option Addr) (c : Nat) (ms : List Ml) (hs : a.eval s = .slice A ms.length c) (hown : OwnM E w base A c ms)
    (D : Option Addr) (n d : Nat) (gs : List Ml) (hn : n = gs.length) (hx : a.eval x = .slice D n d) (hr : RdMF w (Value.slice A ms.length c).ownBlock D gs)
    (hlen : ms.length + gs.length ≤ 200000) (hbase : base ≤ w.heap.size) (r : List Ml) (hr0 : ms ++ gs = r)
    (h : ∀ A' c' w', OwnM E w' base A' c' r → Below base w w' → wpList Tryz.prog ops Q rest (a.put o.dst (.slice A' r.length c')) w') : wpList Tryz.prog ops Q (o :: rest) a w := by
  subst hr0 hn
  refine wpList_plain hgd fun K hK => ?_
  obtain ⟨A', c', w', hrun, h2, h3⟩ := run_append_m T E hT hI w base o.type A c ms hown D d gs hr hlen hbase
  unfold Oper.wp
  simp only [execOp, ho, resolve, invoke, builtin, Sem.run_bind, Sem.run_pure, Result.andThen_ok, List.map_toArray, List.map_cons, List.map_nil, hs, hx, hrun]
  exact hK _ _ (h A' c' w' h2 h3)
theorem Tryz.infoM137 : (Tryz.prog.info? 137).map (fun i => (i.zero, i.size, i.bytes)) = some (some (.agg #[.string ⟨#[]⟩, .int .i64 0, .slice none 0 0]), 3, 48) := by kernel_rfl
theorem Tryz.infoM110 : (Tryz.prog.info? 110).map (fun i => (i.zero, i.size, i.bytes)) = some (some (.agg #[.string ⟨#[]⟩, .int .i64 0, .slice none 0 0]), 3, 48) := by kernel_rfl
/-- A new list of macros. -/
def ResM (t : TypeId) (w : World) (ms : List Ml) (e : Ending) (w' : World) : Prop := ∃ A c, e = .returned (.slice A ms.length c) ∧ OwnM t w' w.heap.size A c ms ∧ Below w.heap.size w w'
/-- The block behind a store into a row of one's own. -/
theorem below_own {w wr : World} {base : Nat} (hb : Below base w wr) {g j : Nat} (hg : base ≤ g) (v : Value) : Below base w (wr.setCell ⟨g, j, none⟩ v) := hb.setCell hg v
end Go.Proofs.YtmnbepapgghdaaaGreat

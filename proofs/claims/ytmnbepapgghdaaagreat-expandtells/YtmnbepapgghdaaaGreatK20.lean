/-
  Plain mathematics of maps of files (no program text): the order of byte strings, sorted lists of files, put, drop, get, merge, diff.
-/
import GoSem.Op.String
import Derived.Lib.Bytealg
namespace Go.Proofs.YtmnbepapgghdaaaGreat.Fl

/-! ### The order of texts -/
theorem u8_tri (a b : UInt8) : a < b ∨ a = b ∨ b < a := by
  rcases Nat.lt_trichotomy a.toNat b.toNat with h | h | h
  · exact .inl (UInt8.lt_iff_toNat_lt.2 h)
  · exact .inr (.inl (UInt8.toNat_inj.1 h))
  · exact .inr (.inr (UInt8.lt_iff_toNat_lt.2 h))
theorem u8_irrefl (a : UInt8) : ¬ a < a := UInt8.lt_irrefl a
theorem u8_trans {a b c : UInt8} (h : a < b) (k : b < c) : a < c := UInt8.lt_trans h k

theorem bl_cons (a b : UInt8) (x y : List UInt8) : Op.bytesLess (a :: x) (b :: y) = true ↔ a < b ∨ (a = b ∧ Op.bytesLess x y = true) := by
  simp [Op.bytesLess]
theorem bl_nil (a : List UInt8) : Op.bytesLess a [] = false := by cases a <;> rfl
theorem bl_irrefl : ∀ a : List UInt8, Op.bytesLess a a = false
  | [] => rfl
  | a :: x => by
    cases h : Op.bytesLess (a :: x) (a :: x)
    · rfl
    · rcases (bl_cons _ _ _ _).1 h with h | ⟨_, h⟩
      · exact absurd h (u8_irrefl a)
      · rw [bl_irrefl x] at h; exact absurd h (by decide)
theorem bl_trans : ∀ {a b c : List UInt8}, Op.bytesLess a b = true → Op.bytesLess b c = true → Op.bytesLess a c = true
  | _, _, [], _, k => by rw [bl_nil] at k; exact absurd k (by decide)
  | _, [], _ :: _, h, _ => by rw [bl_nil] at h; exact absurd h (by decide)
  | [], _ :: _, _ :: _, _, _ => rfl
  | a :: x, b :: y, c :: z, h, k => by
    rw [bl_cons] at h k ⊢
    rcases h with h | ⟨rfl, h⟩ <;> rcases k with k | ⟨rfl, k⟩
    · exact .inl (u8_trans h k)
    · exact .inl h
    · exact .inl k
    · exact .inr ⟨rfl, bl_trans h k⟩
theorem bl_tri : ∀ a b : List UInt8, Op.bytesLess a b = true ∨ a = b ∨ Op.bytesLess b a = true
  | [], [] => .inr (.inl rfl)
  | [], _ :: _ => .inl rfl
  | _ :: _, [] => .inr (.inr rfl)
  | a :: x, b :: y => by
    simp only [bl_cons]
    rcases u8_tri a b with h | rfl | h
    · exact .inl (.inl h)
    · rcases bl_tri x y with k | rfl | k
      · exact .inl (.inr ⟨rfl, k⟩)
      · exact .inr (.inl rfl)
      · exact .inr (.inr (.inr ⟨rfl, k⟩))
    · exact .inr (.inr (.inl h))
theorem bl_asymm {a b : List UInt8} (h : Op.bytesLess a b = true) : Op.bytesLess b a = false := by
  cases k : Op.bytesLess b a
  · rfl
  · have := bl_trans h k
    rw [bl_irrefl] at this; exact absurd this (by decide)
theorem bl_ne {a b : List UInt8} (h : Op.bytesLess a b = true) : a ≠ b := by
  rintro rfl; rw [bl_irrefl] at h; exact absurd h (by decide)
theorem cb_self : ∀ a : List UInt8, Lib.compareBytes a a = 0
  | [] => rfl
  | a :: x => by simp [Lib.compareBytes, cb_self x]
theorem cb_lt : ∀ {a b : List UInt8}, Op.bytesLess a b = true → Lib.compareBytes a b = -1
  | _, [], h => by rw [bl_nil] at h; exact absurd h (by decide)
  | [], _ :: _, _ => rfl
  | a :: x, b :: y, h => by
    rcases (bl_cons _ _ _ _).1 h with h | ⟨rfl, h⟩
    · simp [Lib.compareBytes, h]
    · simp [Lib.compareBytes]; exact cb_lt ‹_›
theorem cb_gt : ∀ {a b : List UInt8}, Op.bytesLess b a = true → Lib.compareBytes a b = 1
  | [], _, h => by rw [bl_nil] at h; exact absurd h (by decide)
  | _ :: _, [], _ => rfl
  | a :: x, b :: y, h => by
    rcases (bl_cons _ _ _ _).1 h with h | ⟨rfl, h⟩
    · have : ¬ a < b := fun k => u8_irrefl a (u8_trans k h)
      simp [Lib.compareBytes, h, this]
    · simp [Lib.compareBytes]; exact cb_gt ‹_›

/-! ### Files and maps -/
abbrev Fl := List UInt8 × List UInt8
def nmB (c : UInt8) : Bool := decide (97 ≤ c.toNat ∧ c.toNat ≤ 122 ∨ 48 ≤ c.toNat ∧ c.toNat ≤ 57 ∨ c.toNat = 45 ∨ c.toNat = 46)
def nmOk (s : List UInt8) : Bool := decide (1 ≤ s.length ∧ s.length ≤ 24) && s.all nmB
def wrE (f : Fl) : Int := if nmOk f.1 = false then 2 else if 4000 < f.2.length then 3 else 0
def Sorted (fs : List Fl) : Prop := fs.Pairwise fun a b => Op.bytesLess a.1 b.1 = true
def Good (fs : List Fl) : Prop := Sorted fs ∧ fs.length ≤ 32 ∧ ∀ f ∈ fs, wrE f = 0
def okAt (fs : List Fl) (i : Nat) : Bool := (wrE (fs.getD i ([], [])) == 0) && (decide (i = 0) || Op.bytesLess (fs.getD (i - 1) ([], [])).1 (fs.getD i ([], [])).1)
def rightB (fs : List Fl) : Bool := decide (fs.length ≤ 32) && (List.range fs.length).all (okAt fs)
def plc (fs : List Fl) (n : List UInt8) : Nat := (fs.takeWhile fun f => Op.bytesLess f.1 n).length
def hasL (fs : List Fl) (n : List UInt8) : Bool := fs.any fun f => f.1 == n
def getL (fs : List Fl) (n : List UInt8) : Option (List UInt8) := (fs.find? fun f => f.1 == n).map (·.2)
def txtL (fs : List Fl) (n : List UInt8) : List UInt8 := (getL fs n).getD []
def dropL (fs : List Fl) (n : List UInt8) : List Fl := fs.filter fun f => !(f.1 == n)
def putL (fs : List Fl) (f : Fl) : List Fl := (dropL fs f.1).takeWhile (fun g => Op.bytesLess g.1 f.1) ++ f :: (dropL fs f.1).dropWhile (fun g => Op.bytesLess g.1 f.1)
def putE (fs : List Fl) (f : Fl) : Int := if wrE f ≠ 0 then wrE f else if hasL fs f.1 = false ∧ 32 ≤ fs.length then 3 else 0
def putR (fs : List Fl) (f : Fl) : List Fl := if putE fs f = 0 then putL fs f else []
def mrgL : List Fl → List Fl → List Fl
  | a, [] => a
  | a, f :: r => if putE a f = 0 then mrgL (putL a f) r else []
def mrgE : List Fl → List Fl → Int
  | _, [] => 0
  | a, f :: r => if putE a f = 0 then mrgE (putL a f) r else putE a f
def diffL : List Fl → List Fl → List (List UInt8)
  | [], b => b.map (·.1)
  | x :: a, [] => (x :: a).map (·.1)
  | x :: a, y :: b => if Op.bytesLess x.1 y.1 = true then x.1 :: diffL a (y :: b) else if Op.bytesLess y.1 x.1 = true then y.1 :: diffL (x :: a) b
      else (if x.2 = y.2 then [] else [x.1]) ++ diffL a b
  termination_by a b => a.length + b.length
def stepL (bytes : Nat) (out : List Fl) (f : Fl) : List Fl := if putE out (f.1, f.2.take bytes) = 0 then putL out (f.1, f.2.take bytes) else out
def mapL (l : List Fl) (most bytes : Nat) : List Fl := (l.take most).foldl (stepL bytes) []

theorem wrE_cases (f : Fl) : wrE f = 0 ∨ wrE f = 2 ∨ wrE f = 3 := by unfold wrE; split <;> (try split) <;> simp
theorem wrE_ok {f : Fl} (h : wrE f = 0) : nmOk f.1 = true ∧ f.2.length ≤ 4000 := by
  unfold wrE at h
  split at h
  · omega
  · split at h
    · omega
    · exact ⟨by simpa using ‹¬ nmOk f.1 = false›, by omega⟩
theorem putE_cases (fs : List Fl) (f : Fl) : putE fs f = 0 ∨ putE fs f = 2 ∨ putE fs f = 3 := by
  unfold putE
  rcases wrE_cases f with h | h | h
  · rw [if_neg (by simp [h])]; split <;> simp
  · rw [if_pos (by simp [h]), h]; simp
  · rw [if_pos (by simp [h]), h]; simp

theorem Sorted.nil : Sorted [] := List.Pairwise.nil
theorem Sorted.tail {f : Fl} {fs : List Fl} (h : Sorted (f :: fs)) : Sorted fs := (List.pairwise_cons.1 h).2
theorem Sorted.head {f : Fl} {fs : List Fl} (h : Sorted (f :: fs)) : ∀ g ∈ fs, Op.bytesLess f.1 g.1 = true := (List.pairwise_cons.1 h).1
theorem Sorted.at {fs : List Fl} (h : Sorted fs) {i j : Nat} (hij : i < j) (hj : j < fs.length) : Op.bytesLess (fs[i]'(by omega)).1 fs[j].1 = true :=
  List.pairwise_iff_getElem.1 h i j (by omega) hj hij
theorem Sorted.filter {fs : List Fl} (h : Sorted fs) (p : Fl → Bool) : Sorted (fs.filter p) := List.Pairwise.filter p h
theorem Sorted.sub {a b : List Fl} (h : Sorted b) (k : a.Sublist b) : Sorted a := List.Pairwise.sublist k h

theorem hasL_get (fs : List Fl) (n : List UInt8) : hasL fs n = (getL fs n).isSome := by
  unfold hasL getL
  induction fs with
  | nil => rfl
  | cons f r ih =>
    simp only [List.any_cons, List.find?_cons]
    cases h : f.1 == n <;> simp [ih]
theorem getL_nil (n : List UInt8) : getL [] n = none := rfl
theorem getL_cons (f : Fl) (r : List Fl) (n : List UInt8) : getL (f :: r) n = if f.1 = n then some f.2 else getL r n := by
  unfold getL
  rw [List.find?_cons]
  by_cases h : f.1 = n
  · simp [h]
  · have : (f.1 == n) = false := by simpa using h
    simp [this, h]
theorem getL_mem {fs : List Fl} {n t : List UInt8} (h : getL fs n = some t) : (n, t) ∈ fs := by
  induction fs with
  | nil => simp [getL] at h
  | cons f r ih =>
    rw [getL_cons] at h
    split at h
    · rename_i e
      simp only [Option.some.injEq] at h
      subst e; subst h; exact List.mem_cons_self
    · exact List.mem_cons_of_mem _ (ih h)
theorem getL_none {fs : List Fl} {n : List UInt8} (h : ∀ g ∈ fs, g.1 ≠ n) : getL fs n = none := by
  induction fs with
  | nil => rfl
  | cons f r ih => rw [getL_cons, if_neg (h f List.mem_cons_self)]; exact ih fun g hg => h g (List.mem_cons_of_mem _ hg)
theorem mem_getL {fs : List Fl} (hs : Sorted fs) {f : Fl} (h : f ∈ fs) : getL fs f.1 = some f.2 := by
  induction fs with
  | nil => cases h
  | cons g r ih =>
    rw [getL_cons]
    rcases List.mem_cons.1 h with rfl | h'
    · simp
    · rw [if_neg (bl_ne (hs.head f h'))]; exact ih hs.tail h'

theorem sorted_ext : ∀ {a b : List Fl}, Sorted a → Sorted b → (∀ n, getL a n = getL b n) → a = b
  | [], [], _, _, _ => rfl
  | [], y :: b, _, _, h => by have := h y.1; rw [getL_nil, getL_cons, if_pos rfl] at this; cases this
  | x :: a, [], _, _, h => by have := h x.1; rw [getL_nil, getL_cons, if_pos rfl] at this; cases this
  | x :: a, y :: b, ha, hb, h => by
    have hxy : x.1 = y.1 := by
      rcases bl_tri x.1 y.1 with k | k | k
      · have := h x.1
        rw [getL_cons, if_pos rfl, getL_cons, if_neg (fun e => bl_ne k e.symm), getL_none (fun g hg e => by
          have := bl_trans k (hb.head g hg); rw [e, bl_irrefl] at this; exact absurd this (by decide))] at this
        cases this
      · exact k
      · have := h y.1
        rw [getL_cons, if_neg (fun e => bl_ne k e.symm), getL_cons, if_pos rfl, getL_none (fun g hg e => by
          have := bl_trans k (ha.head g hg); rw [e, bl_irrefl] at this; exact absurd this (by decide))] at this
        cases this
    have h2 : x.2 = y.2 := by
      have := h x.1
      rw [getL_cons, if_pos rfl, getL_cons, if_pos hxy.symm] at this
      simpa using this
    have hx : x = y := Prod.ext hxy h2
    subst hx
    rw [sorted_ext ha.tail hb.tail fun n => by
      have := h n
      rw [getL_cons, getL_cons] at this
      by_cases e : x.1 = n
      · subst e
        rw [getL_none fun g hg e => bl_ne (ha.head g hg) e.symm, getL_none fun g hg e => bl_ne (hb.head g hg) e.symm]
      · rwa [if_neg e, if_neg e] at this]

/-! ### Drop -/
theorem getL_dropL (fs : List Fl) (m n : List UInt8) : getL (dropL fs m) n = if n = m then none else getL fs n := by
  unfold dropL
  induction fs with
  | nil => simp [getL_nil]
  | cons f r ih =>
    rw [List.filter_cons]
    by_cases h : f.1 = m
    · have e : (!(f.1 == m)) = false := by simp [h]
      rw [e]
      simp only [Bool.false_eq_true, if_false]
      rw [ih, getL_cons]
      by_cases k : n = m
      · simp [k]
      · rw [if_neg k, if_neg k, if_neg (fun e => k (by rw [← e, h]))]
    · have e : (!(f.1 == m)) = true := by simp [h]
      rw [e]
      simp only [if_true]
      rw [getL_cons, getL_cons, ih]
      by_cases k : n = m
      · subst k; rw [if_neg h, if_pos rfl, if_pos rfl]
      · rw [if_neg k, if_neg k]
theorem dropL_none {fs : List Fl} {n : List UInt8} (h : hasL fs n = false) : dropL fs n = fs := by
  unfold dropL
  rw [List.filter_eq_self]
  intro f hf
  have := (List.any_eq_false.1 h) f hf
  simpa using this
theorem dropL_sorted {fs : List Fl} (h : Sorted fs) (n : List UInt8) : Sorted (dropL fs n) := h.filter _
theorem dropL_len (fs : List Fl) (n : List UInt8) : (dropL fs n).length ≤ fs.length := List.length_filter_le _ _
theorem dropL_lt (fs : List Fl) (n : List UInt8) : decide ((dropL fs n).length < fs.length) = hasL fs n := by
  unfold dropL hasL
  induction fs with
  | nil => rfl
  | cons f r ih =>
    have hl : (r.filter fun f => !(f.1 == n)).length ≤ r.length := List.length_filter_le _ _
    rw [List.filter_cons, List.any_cons]
    cases h : f.1 == n
    · simp only [Bool.not_false, if_true, List.length_cons, Bool.false_or]
      rw [← ih]
      exact decide_eq_decide.2 (by omega)
    · simp only [Bool.not_true, Bool.false_eq_true, if_false, List.length_cons, Bool.true_or]
      exact decide_eq_true (by omega)
theorem dropL_good {fs : List Fl} (h : Good fs) (n : List UInt8) : Good (dropL fs n) :=
  ⟨dropL_sorted h.1 n, Nat.le_trans (dropL_len fs n) h.2.1, fun f hf => h.2.2 f ((List.mem_filter.1 hf).1)⟩

/-! ### The place -/
theorem plc_le (fs : List Fl) (n : List UInt8) : plc fs n ≤ fs.length := (List.takeWhile_prefix _).length_le
theorem plc_cons (f : Fl) (r : List Fl) (n : List UInt8) : plc (f :: r) n = if Op.bytesLess f.1 n = true then plc r n + 1 else 0 := by
  unfold plc
  rw [List.takeWhile_cons]
  split <;> simp
theorem plc_lt : ∀ {fs : List Fl} {n : List UInt8} {i : Nat} (_ : i < plc fs n) (h : i < fs.length), Op.bytesLess fs[i].1 n = true
  | [], _, _, _, h => absurd h (by simp)
  | f :: r, n, i, k, h => by
    rw [plc_cons] at k
    split at k
    · cases i with
      | zero => simpa
      | succ j => simpa using plc_lt (fs := r) (n := n) (i := j) (by omega) (by simpa using h)
    · omega
theorem plc_ge : ∀ {fs : List Fl} (_ : Sorted fs) {n : List UInt8} {i : Nat} (_ : plc fs n ≤ i) (h : i < fs.length), Op.bytesLess fs[i].1 n = false
  | [], _, _, _, _, h => absurd h (by simp)
  | f :: r, hs, n, i, k, h => by
    rw [plc_cons] at k
    split at k
    · cases i with
      | zero => omega
      | succ j => simpa using plc_ge hs.tail (n := n) (i := j) (by omega) (by simpa using h)
    · rename_i hf
      have hf' : Op.bytesLess f.1 n = false := by simpa using hf
      cases i with
      | zero => simpa
      | succ j =>
        have hj : j < r.length := by simpa using h
        have hfg := hs.head r[j] (List.getElem_mem hj)
        cases e : Op.bytesLess r[j].1 n
        · simpa using e
        · rw [bl_trans hfg e] at hf'; exact absurd hf' (by decide)
theorem plc_unique {fs : List Fl} (hs : Sorted fs) {n : List UInt8} {p : Nat} (hp : p ≤ fs.length) (h1 : ∀ i (h : i < fs.length), i < p → Op.bytesLess fs[i].1 n = true) (h2 : ∀ i (h : i < fs.length), p ≤ i → Op.bytesLess fs[i].1 n = false) : plc fs n = p := by
  have hl := plc_le fs n
  rcases Nat.lt_trichotomy (plc fs n) p with h | h | h
  · have a := h1 (plc fs n) (by omega) h
    rw [plc_ge hs (Nat.le_refl _) (by omega)] at a; exact absurd a (by decide)
  · exact h
  · have a := h2 p (by omega) (Nat.le_refl _)
    rw [plc_lt h (by omega)] at a; exact absurd a (by decide)
theorem hasL_plc {fs : List Fl} (hs : Sorted fs) {n : List UInt8} (h : plc fs n < fs.length) : hasL fs n = (fs[plc fs n].1 == n) := by
  cases e : fs[plc fs n].1 == n
  · cases k : hasL fs n
    · rfl
    · unfold hasL at k
      rw [List.any_eq_true] at k
      obtain ⟨f, hf, hn⟩ := k
      obtain ⟨i, hi, rfl⟩ := List.getElem_of_mem hf
      have hn' : fs[i].1 = n := by simpa using hn
      rcases Nat.lt_trichotomy i (plc fs n) with q | q | q
      · have := plc_lt q hi; rw [hn', bl_irrefl] at this; exact absurd this (by decide)
      · subst q; rw [hn] at e; exact absurd e (by decide)
      · have a := hs.at q hi
        rw [hn'] at a
        rw [plc_ge hs (Nat.le_refl _) h] at a; exact absurd a (by decide)
  · unfold hasL
    rw [List.any_eq_true]
    exact ⟨_, List.getElem_mem h, e⟩
theorem hasL_plc_end {fs : List Fl} {n : List UInt8} (h : plc fs n = fs.length) : hasL fs n = false := by
  unfold hasL
  rw [List.any_eq_false]
  intro f hf
  obtain ⟨i, hi, rfl⟩ := List.getElem_of_mem hf
  have := bl_ne (plc_lt (fs := fs) (n := n) (i := i) (by omega) hi)
  simpa using this
theorem getL_plc {fs : List Fl} (hs : Sorted fs) {n : List UInt8} (h : plc fs n < fs.length) (e : fs[plc fs n].1 = n) : getL fs n = some fs[plc fs n].2 := by
  have := mem_getL hs (List.getElem_mem h)
  rwa [e] at this
theorem takeWhile_plc (fs : List Fl) (n : List UInt8) : fs.takeWhile (fun f => Op.bytesLess f.1 n) = fs.take (plc fs n) := by
  unfold plc
  exact (List.prefix_iff_eq_take.1 (List.takeWhile_prefix _))
theorem dropWhile_plc (fs : List Fl) (n : List UInt8) : fs.dropWhile (fun f => Op.bytesLess f.1 n) = fs.drop (plc fs n) := by
  have h := List.takeWhile_append_dropWhile (p := fun f : Fl => Op.bytesLess f.1 n) (l := fs)
  have h2 : fs.drop (plc fs n) = (fs.takeWhile (fun f => Op.bytesLess f.1 n) ++ fs.dropWhile (fun f => Op.bytesLess f.1 n)).drop (plc fs n) := by rw [h]
  rw [h2]; unfold plc; exact (List.drop_left).symm

theorem dropL_has {fs : List Fl} (hs : Sorted fs) {n : List UInt8} (h : plc fs n < fs.length) (e : fs[plc fs n].1 = n) : dropL fs n = fs.take (plc fs n) ++ fs.drop (plc fs n + 1) := by
  have hsplit : fs = fs.take (plc fs n) ++ (fs[plc fs n] :: fs.drop (plc fs n + 1)) := by
    rw [← List.drop_eq_getElem_cons h, List.take_append_drop]
  have h1 : (fs.take (plc fs n)).filter (fun f => !(f.1 == n)) = fs.take (plc fs n) := by
    rw [List.filter_eq_self]
    intro f hf
    obtain ⟨i, hi, rfl⟩ := List.getElem_of_mem hf
    rw [List.getElem_take]
    have := bl_ne (plc_lt (fs := fs) (n := n) (i := i) (by simp at hi; omega) (by simp at hi; omega))
    simpa using this
  have h2 : (fs.drop (plc fs n + 1)).filter (fun f => !(f.1 == n)) = fs.drop (plc fs n + 1) := by
    rw [List.filter_eq_self]
    intro f hf
    obtain ⟨i, hi, rfl⟩ := List.getElem_of_mem hf
    rw [List.getElem_drop]
    have := hs.at (i := plc fs n) (j := plc fs n + 1 + i) (by omega) (by simp at hi; omega)
    rw [e] at this
    have := (bl_ne this).symm
    simpa using this
  unfold dropL
  conv => lhs; rw [hsplit]
  rw [List.filter_append, List.filter_cons, h1, h2]
  simp [e]
/-- Put, where a file of that name is. -/
theorem putL_has {fs : List Fl} (hs : Sorted fs) {f : Fl} (h : plc fs f.1 < fs.length) (e : fs[plc fs f.1].1 = f.1) :
    putL fs f = fs.take (plc fs f.1) ++ (f :: fs.drop (plc fs f.1 + 1)) := by
  have hd := dropL_has hs h e
  unfold putL
  rw [hd, takeWhile_plc, dropWhile_plc]
  have hp : plc (fs.take (plc fs f.1) ++ fs.drop (plc fs f.1 + 1)) f.1 = plc fs f.1 := by
    rw [← hd]
    refine plc_unique (dropL_sorted hs _) ?_ ?_ ?_
    · rw [hd]; simp; omega
    · intro i hi hip
      simp only [hd]
      rw [List.getElem_append_left (by simp; omega), List.getElem_take]
      exact plc_lt hip (by omega)
    · intro i hi hip
      simp only [hd]
      rw [List.getElem_append_right (by simp; omega), List.getElem_drop]
      refine plc_ge hs (by simp; omega) _
  rw [hp, List.take_append_of_le_length (by simp; omega), List.take_take, Nat.min_self, List.drop_append_of_le_length (by simp; omega)]
  simp
/-- Put, where none is. -/
theorem putL_new {fs : List Fl} {f : Fl} (h : hasL fs f.1 = false) : putL fs f = fs.take (plc fs f.1) ++ (f :: fs.drop (plc fs f.1)) := by
  unfold putL
  rw [dropL_none h, takeWhile_plc, dropWhile_plc]

/-! ### Put -/
theorem putL_sorted {fs : List Fl} (hs : Sorted fs) (f : Fl) : Sorted (putL fs f) := by
  unfold putL
  have hd := dropL_sorted hs f.1
  rw [takeWhile_plc, dropWhile_plc]
  obtain ⟨ds, hds⟩ : ∃ ds, ds = dropL fs f.1 := ⟨_, rfl⟩
  have hne : ∀ g ∈ ds, g.1 ≠ f.1 := fun g hg => by
    rw [hds] at hg
    have := (List.mem_filter.1 hg).2
    simpa using this
  rw [← hds] at hd ⊢
  unfold Sorted
  rw [List.pairwise_append, List.pairwise_cons]
  refine ⟨hd.sub (List.take_sublist _ _), ⟨fun g hg => ?_, hd.sub (List.drop_sublist _ _)⟩, fun a ha b hb => ?_⟩
  · obtain ⟨i, hi, rfl⟩ := List.getElem_of_mem hg
    rw [List.getElem_drop]
    have k := plc_ge hd (n := f.1) (i := plc ds f.1 + i) (by omega) (by simp at hi; omega)
    rcases bl_tri f.1 (ds[plc ds f.1 + i]'(by simp at hi; omega)).1 with q | q | q
    · exact q
    · exact absurd q.symm (hne _ (List.getElem_mem _))
    · rw [q] at k; exact absurd k (by decide)
  · obtain ⟨i, hi, rfl⟩ := List.getElem_of_mem ha
    rw [List.getElem_take]
    have k := plc_lt (fs := ds) (n := f.1) (i := i) (by simp at hi; omega) (by simp at hi; omega)
    rcases List.mem_cons.1 hb with rfl | hb
    · exact k
    · obtain ⟨j, hj, rfl⟩ := List.getElem_of_mem hb
      rw [List.getElem_drop]
      exact hd.at (i := i) (j := plc ds f.1 + j) (by simp at hi; omega) (by simp at hj; omega)
theorem getL_append (a b : List Fl) (n : List UInt8) : getL (a ++ b) n = match getL a n with | some t => some t | none => getL b n := by
  induction a with
  | nil => simp [getL_nil]
  | cons f r ih =>
    rw [List.cons_append, getL_cons, getL_cons]
    split
    · rfl
    · exact ih
theorem getL_putL (fs : List Fl) (f : Fl) (n : List UInt8) : getL (putL fs f) n = if n = f.1 then some f.2 else getL fs n := by
  have hd := getL_dropL fs f.1 n
  have h := List.takeWhile_append_dropWhile (p := fun g : Fl => Op.bytesLess g.1 f.1) (l := dropL fs f.1)
  rw [← h, getL_append] at hd
  unfold putL
  rw [getL_append, getL_cons]
  by_cases e : n = f.1
  · rw [if_pos e] at hd ⊢
    rw [if_pos e.symm]
    split at hd
    · cases hd
    · rename_i q; rfl
  · rw [if_neg e] at hd ⊢
    rw [if_neg (fun k => e k.symm)]
    exact hd
theorem putL_len (fs : List Fl) (f : Fl) : (putL fs f).length = (dropL fs f.1).length + 1 := by
  unfold putL
  have h := List.takeWhile_append_dropWhile (p := fun g : Fl => Op.bytesLess g.1 f.1) (l := dropL fs f.1)
  have h2 := congrArg List.length h
  rw [List.length_append] at h2
  rw [List.length_append, List.length_cons]
  omega
theorem putL_mem {fs : List Fl} {f g : Fl} (h : g ∈ putL fs f) : g = f ∨ g ∈ fs := by
  unfold putL at h
  rcases List.mem_append.1 h with h | h
  · exact .inr (List.mem_filter.1 ((List.takeWhile_sublist _).subset h)).1
  · rcases List.mem_cons.1 h with h | h
    · exact .inl h
    · exact .inr (List.mem_filter.1 ((List.dropWhile_sublist _).subset h)).1
theorem putE_zero {fs : List Fl} {f : Fl} (h : putE fs f = 0) : wrE f = 0 ∧ (hasL fs f.1 = true ∨ fs.length < 32) := by
  unfold putE at h
  split at h
  · rename_i q; exact absurd h q
  · rename_i q
    refine ⟨by simpa using q, ?_⟩
    split at h
    · cases h
    · rename_i k
      rcases Bool.eq_false_or_eq_true (hasL fs f.1) with e | e
      · exact .inl e
      · exact .inr (by rcases Nat.lt_or_ge fs.length 32 with q | q; exact q; exact absurd ⟨e, q⟩ k)
theorem putE_mk {fs : List Fl} {f : Fl} (h : wrE f = 0) (k : hasL fs f.1 = true ∨ fs.length < 32) : putE fs f = 0 := by
  unfold putE
  rw [if_neg (by simp [h]), if_neg]
  rintro ⟨a, b⟩
  rcases k with k | k
  · rw [k] at a; cases a
  · omega
theorem putL_good {fs : List Fl} {f : Fl} (h : Good fs) (he : putE fs f = 0) : Good (putL fs f) := by
  obtain ⟨h1, h2⟩ := putE_zero he
  refine ⟨putL_sorted h.1 f, ?_, fun g hg => ?_⟩
  · rw [putL_len]
    have := dropL_len fs f.1
    have h32 := h.2.1
    rcases h2 with h2 | h2
    · have := dropL_lt fs f.1
      rw [h2] at this
      have := of_decide_eq_true this
      omega
    · omega
  · rcases putL_mem hg with rfl | hg
    · exact h1
    · exact h.2.2 g hg
theorem Good.nil : Good [] := ⟨Sorted.nil, by simp, fun f hf => by cases hf⟩
theorem stepL_good {b : Nat} {out : List Fl} (h : Good out) (f : Fl) : Good (stepL b out f) := by
  unfold stepL
  split
  · exact putL_good h ‹_›
  · exact h
theorem foldl_good (b : Nat) : ∀ (l : List Fl) {out : List Fl}, Good out → Good (l.foldl (stepL b) out)
  | [], _, h => h
  | f :: r, _, h => foldl_good b r (stepL_good h f)
theorem mapL_good (l : List Fl) (m b : Nat) : Good (mapL l m b) := foldl_good b _ Good.nil
theorem foldl_len (b : Nat) : ∀ (l : List Fl) (out : List Fl), (l.foldl (stepL b) out).length ≤ out.length + l.length
  | [], _ => by simp
  | f :: r, out => by
    have := foldl_len b r (stepL b out f)
    have h1 : (stepL b out f).length ≤ out.length + 1 := by
      unfold stepL
      split
      · rw [putL_len]; have := dropL_len out f.1; simp; omega
      · omega
    simp only [List.foldl_cons, List.length_cons]
    omega
theorem mapL_len (l : List Fl) (m b : Nat) : (mapL l m b).length ≤ m := by
  have := foldl_len b (l.take m) []
  unfold mapL
  simp at this ⊢
  omega

/-! ### Right -/
theorem rightB_good {fs : List Fl} (h : Good fs) : rightB fs = true := by
  unfold rightB
  rw [Bool.and_eq_true]
  refine ⟨decide_eq_true h.2.1, ?_⟩
  rw [List.all_eq_true]
  intro i hi
  have hi' : i < fs.length := by simpa using hi
  unfold okAt
  rw [show fs.getD i ([], []) = fs[i] by simp [List.getD, hi'], h.2.2 _ (List.getElem_mem hi')]
  by_cases h0 : i = 0
  · simp [h0]
  · have := h.1.at (i := i - 1) (j := i) (by omega) hi'
    rw [show fs.getD (i - 1) ([], []) = fs[i - 1] by simp [List.getD, show i - 1 < fs.length by omega], this]
    simp
theorem rightB_stop {fs : List Fl} {i : Nat} (hi : i < fs.length) (h : okAt fs i = false) : rightB fs = false := by
  unfold rightB
  rw [Bool.and_eq_false_iff]
  right
  rw [List.all_eq_false]
  exact ⟨i, by simpa using hi, by simp [h]⟩
theorem rightB_end {fs : List Fl} (hl : fs.length ≤ 32) (h : ∀ i, i < fs.length → okAt fs i = true) : rightB fs = true := by
  unfold rightB
  rw [Bool.and_eq_true]
  exact ⟨decide_eq_true hl, by rw [List.all_eq_true]; intro i hi; exact h i (by simpa using hi)⟩
theorem rightB_long {fs : List Fl} (hl : 32 < fs.length) : rightB fs = false := by
  unfold rightB
  rw [Bool.and_eq_false_iff]
  left
  exact decide_eq_false (by omega)

/-! ### Diff -/
theorem diffL_symm : ∀ a b : List Fl, diffL a b = diffL b a
  | [], [] => rfl
  | [], _ :: _ => by simp [diffL]
  | _ :: _, [] => by simp [diffL]
  | x :: a, y :: b => by
    rw [diffL, diffL]
    rcases bl_tri x.1 y.1 with h | h | h
    · rw [if_pos h, if_neg (by rw [bl_asymm h]; decide), if_pos h, diffL_symm a (y :: b)]
    · rw [h, bl_irrefl]
      simp only [Bool.false_eq_true, if_false]
      rw [diffL_symm a b]
      by_cases k : x.2 = y.2
      · rw [if_pos k, if_pos k.symm]
      · rw [if_neg k, if_neg (fun e => k e.symm)]
    · rw [if_neg (by rw [bl_asymm h]; decide), if_pos h, if_pos h, diffL_symm (x :: a) b]
  termination_by a b => a.length + b.length
theorem diffL_self : ∀ a : List Fl, diffL a a = []
  | [] => by simp [diffL]
  | x :: a => by rw [diffL, bl_irrefl]; simp [diffL_self a]
theorem diffL_same : ∀ {a b : List Fl}, diffL a b = [] → a = b
  | [], [], _ => rfl
  | [], y :: b, h => by simp [diffL] at h
  | x :: a, [], h => by simp [diffL] at h
  | x :: a, y :: b, h => by
    rw [diffL] at h
    split at h
    · cases h
    · rename_i h1
      split at h
      · cases h
      · rename_i h2
        have e1 : x.1 = y.1 := by
          rcases bl_tri x.1 y.1 with k | k | k
          · exact absurd k h1
          · exact k
          · exact absurd k h2
        obtain ⟨h3, h4⟩ := List.append_eq_nil_iff.1 h
        have e2 : x.2 = y.2 := by
          by_cases k : x.2 = y.2
          · exact k
          · rw [if_neg k] at h3; cases h3
        rw [Prod.ext e1 e2, diffL_same h4]
  termination_by a b => a.length + b.length
theorem mem_diffL : ∀ {a b : List Fl} (_ : Sorted a) (_ : Sorted b) {n : List UInt8}, n ∈ diffL a b → getL a n ≠ getL b n
  | [], b, _, hb, n, h => by
    simp only [diffL, List.mem_map] at h
    obtain ⟨g, hg, rfl⟩ := h
    rw [getL_nil, mem_getL hb hg]; simp
  | x :: a, [], ha, _, n, h => by
    simp only [diffL, List.mem_map] at h
    obtain ⟨g, hg, rfl⟩ := h
    rw [getL_nil, mem_getL ha hg]; simp
  | x :: a, y :: b, ha, hb, n, h => by
    have nob : ∀ {z : List UInt8}, Op.bytesLess z y.1 = true → getL (y :: b) z = none := fun {z} hz => getL_none fun g hg => by
      rcases List.mem_cons.1 hg with rfl | hg
      · exact (bl_ne hz).symm
      · exact (bl_ne (bl_trans hz (hb.head g hg))).symm
    have noa : ∀ {z : List UInt8}, Op.bytesLess z x.1 = true → getL (x :: a) z = none := fun {z} hz => getL_none fun g hg => by
      rcases List.mem_cons.1 hg with rfl | hg
      · exact (bl_ne hz).symm
      · exact (bl_ne (bl_trans hz (ha.head g hg))).symm
    rw [diffL] at h
    split at h
    · rename_i h1
      rcases List.mem_cons.1 h with rfl | h
      · rw [nob h1, getL_cons, if_pos rfl]; simp
      · have ih := mem_diffL ha.tail hb h
        by_cases e : x.1 = n
        · subst e
          rw [nob h1, getL_cons, if_pos rfl]; simp
        · rw [getL_cons, if_neg e]; exact ih
    · rename_i h1
      split at h
      · rename_i h2
        rcases List.mem_cons.1 h with rfl | h
        · rw [noa h2, getL_cons, if_pos rfl]; simp
        · have ih := mem_diffL ha hb.tail h
          by_cases e : y.1 = n
          · subst e
            rw [noa h2, getL_cons, if_pos rfl]; simp
          · rw [getL_cons (f := y), if_neg e]; exact ih
      · rename_i h2
        have e1 : x.1 = y.1 := by
          rcases bl_tri x.1 y.1 with k | k | k
          · exact absurd k h1
          · exact k
          · exact absurd k h2
        rcases List.mem_append.1 h with h | h
        · by_cases k : x.2 = y.2
          · rw [if_pos k] at h; cases h
          · rw [if_neg k] at h
            simp only [List.mem_singleton] at h
            subst h
            rw [getL_cons, if_pos rfl, getL_cons, if_pos e1.symm]
            simpa using k
        · have ih := mem_diffL ha.tail hb.tail h
          by_cases e : x.1 = n
          · subst e
            rw [getL_none fun g hg => (bl_ne (ha.head g hg)).symm, getL_none fun g hg => (bl_ne (by rw [e1]; exact hb.head g hg)).symm] at ih
            exact absurd rfl ih
          · rw [getL_cons, if_neg e, getL_cons, if_neg (by rw [← e1]; exact e)]; exact ih
  termination_by a b => a.length + b.length

/-! ### Merge -/
theorem getL_mrg : ∀ (b a : List Fl), mrgE a b = 0 → Sorted b → ∀ n, getL (mrgL a b) n = match getL b n with | some t => some t | none => getL a n
  | [], a, _, _, n => by simp [mrgL, getL_nil]
  | f :: r, a, h, hs, n => by
    rw [mrgE] at h
    split at h
    · rename_i he
      rw [mrgL, if_pos he, getL_mrg r (putL a f) h hs.tail n, getL_putL, getL_cons]
      by_cases e : f.1 = n
      · subst e
        rw [getL_none fun g hg => (bl_ne (hs.head g hg)).symm, if_pos rfl, if_pos rfl]
      · rw [if_neg e, if_neg (fun k => e k.symm)]
    · rename_i he; exact absurd h he
theorem mrg_good : ∀ (b a : List Fl), Good a → mrgE a b = 0 → Good (mrgL a b)
  | [], _, h, _ => h
  | f :: r, a, h, he => by
    rw [mrgE] at he
    split at he
    · rename_i k
      rw [mrgL, if_pos k]
      exact mrg_good r _ (putL_good h k) he
    · rename_i k; exact absurd he k
theorem mrgE_zero : ∀ (b a : List Fl), Good a → (∀ f ∈ b, wrE f = 0) → a.length + b.length ≤ 32 → mrgE a b = 0
  | [], _, _, _, _ => rfl
  | f :: r, a, h, hb, hl => by
    have hl' : a.length + (r.length + 1) ≤ 32 := by simpa using hl
    have k : putE a f = 0 := putE_mk (hb f List.mem_cons_self) (.inr (by omega))
    rw [mrgE, if_pos k]
    refine mrgE_zero r _ (putL_good h k) (fun g hg => hb g (List.mem_cons_of_mem _ hg)) ?_
    rw [putL_len]
    have := dropL_len a f.1
    omega
/-- Files all of whose names are there already can be put once more. -/
theorem mrgE_again : ∀ (b a : List Fl), Good a → (∀ f ∈ b, wrE f = 0) → (∀ f ∈ b, hasL a f.1 = true) → mrgE a b = 0
  | [], _, _, _, _ => rfl
  | f :: r, a, h, hb, hl => by
    have k : putE a f = 0 := putE_mk (hb f List.mem_cons_self) (.inl (hl f List.mem_cons_self))
    rw [mrgE, if_pos k]
    refine mrgE_again r _ (putL_good h k) (fun g hg => hb g (List.mem_cons_of_mem _ hg)) fun g hg => ?_
    have := hl g (List.mem_cons_of_mem _ hg)
    rw [hasL_get] at this ⊢
    rw [getL_putL]
    split
    · rfl
    · exact this
theorem mrg_twice {a b : List Fl} (ha : Good a) (hb : Good b) (hl : a.length + b.length ≤ 32) : mrgE a b = 0 ∧ mrgE (mrgL a b) b = 0 ∧ mrgL (mrgL a b) b = mrgL a b := by
  have h1 := mrgE_zero b a ha hb.2.2 hl
  have g1 := mrg_good b a ha h1
  have h2 : mrgE (mrgL a b) b = 0 := mrgE_again b _ g1 hb.2.2 fun f hf => by
    rw [hasL_get, getL_mrg b a h1 hb.1, mem_getL hb.1 hf]; rfl
  refine ⟨h1, h2, sorted_ext (mrg_good b _ g1 h2).1 g1.1 fun n => ?_⟩
  rw [getL_mrg b _ h2 hb.1, getL_mrg b a h1 hb.1]
  cases getL b n <;> rfl
theorem diff_mrg {a b : List Fl} (ha : Good a) (hb : Good b) (he : mrgE a b = 0) {n : List UInt8} (h : n ∈ diffL a (mrgL a b)) : hasL b n = true := by
  have := mem_diffL ha.1 (mrg_good b a ha he).1 h
  rw [getL_mrg b a he hb.1] at this
  rw [hasL_get]
  cases k : getL b n with
  | none => rw [k] at this; exact absurd rfl this
  | some t => rfl

/-! ### In order -/
theorem take_snoc' {fs : List Fl} {i : Nat} (h : i < fs.length) : fs.take (i + 1) = fs.take i ++ [fs[i]] := by
  rw [List.take_succ_eq_append_getElem h]
theorem put_next {a : List Fl} (hs : Sorted a) {i : Nat} (hi : i < a.length) : putL (a.take i) a[i] = a.take (i + 1) := by
  have hlt : ∀ j (h : j < (a.take i).length), Op.bytesLess (a.take i)[j].1 a[i].1 = true := fun j h => by
    rw [List.getElem_take]; exact hs.at (by simp at h; omega) hi
  have hp : plc (a.take i) a[i].1 = (a.take i).length := plc_unique (hs.sub (List.take_sublist _ _)) (Nat.le_refl _) (fun j h _ => hlt j h) (fun j h k => by omega)
  rw [putL_new (hasL_plc_end hp), hp, take_snoc' hi, List.take_of_length_le (Nat.le_refl _), List.drop_of_length_le (Nat.le_refl _)]
theorem put_back {a : List Fl} (hs : Sorted a) {i : Nat} (hi : i < a.length) : putL (a.drop (i + 1)) a[i] = a.drop i := by
  have hlt : ∀ j (h : j < (a.drop (i + 1)).length), Op.bytesLess a[i].1 (a.drop (i + 1))[j].1 = true := fun j h => by
    rw [List.getElem_drop]; exact hs.at (by omega) (by simp at h; omega)
  have hp : plc (a.drop (i + 1)) a[i].1 = 0 := plc_unique (hs.sub (List.drop_sublist _ _)) (Nat.zero_le _) (fun j h k => by omega) (fun j h _ => bl_asymm (hlt j h))
  have hn : hasL (a.drop (i + 1)) a[i].1 = false := by
    unfold hasL
    rw [List.any_eq_false]
    intro f hf
    obtain ⟨j, hj, rfl⟩ := List.getElem_of_mem hf
    have := (bl_ne (hlt j hj)).symm
    simpa using this
  rw [putL_new hn, hp]
  simp
theorem good_take {a : List Fl} (h : Good a) (i : Nat) : Good (a.take i) :=
  ⟨h.1.sub (List.take_sublist _ _), by have := h.2.1; simp; omega, fun f hf => h.2.2 f (List.mem_of_mem_take hf)⟩
theorem good_drop {a : List Fl} (h : Good a) (i : Nat) : Good (a.drop i) :=
  ⟨h.1.sub (List.drop_sublist _ _), by have := h.2.1; simp; omega, fun f hf => h.2.2 f (List.mem_of_mem_drop hf)⟩
/-- The same files: all of a in b, as many: for sorted lists they are one. -/
theorem same_sorted {a b : List Fl} (ha : Sorted a) (hb : Sorted b) : ((a.all fun f => decide (f ∈ b)) && decide (a.length = b.length)) = decide (a = b) := by
  by_cases h : a = b
  · subst h; simp
  · rw [decide_eq_false h, Bool.and_eq_false_iff]
    by_cases hl : a.length = b.length
    · left
      cases k : a.all fun f => decide (f ∈ b)
      · rfl
      · exfalso
        rw [List.all_eq_true] at k
        have hsub : ∀ f ∈ a, f ∈ b := fun f hf => by simpa using k f hf
        exact h (sub_eq ha hb hl hsub)
    · right; exact decide_eq_false hl
  where
  sub_eq : ∀ {a b : List Fl}, Sorted a → Sorted b → a.length = b.length → (∀ f ∈ a, f ∈ b) → a = b
    | [], [], _, _, _, _ => rfl
    | [], _ :: _, _, _, h, _ => by simp at h
    | x :: a, b, ha, hb, hl, h => by
      -- without x's place b has one less
      have hx := h x List.mem_cons_self
      obtain ⟨l, r, rfl⟩ := List.append_of_mem hx
      have hs1 : Sorted (l ++ r) := hb.sub (List.Sublist.append (List.Sublist.refl l) (List.sublist_cons_self x r))
      have hmem : ∀ f ∈ a, f ∈ l ++ r := fun f hf => by
        have hne : f ≠ x := fun e => by
          have := ha.head f hf; rw [e, bl_irrefl] at this; exact absurd this (by decide)
        rcases List.mem_append.1 (h f (List.mem_cons_of_mem _ hf)) with q | q
        · exact List.mem_append_left _ q
        · rcases List.mem_cons.1 q with q | q
          · exact absurd q hne
          · exact List.mem_append_right _ q
      have e := sub_eq ha.tail hs1 (by simp at hl ⊢; omega) hmem
      cases l with
      | nil => rw [e]; rfl
      | cons y l =>
        exfalso
        have hy : y ∈ a := by rw [e]; exact List.mem_cons_self
        have h1 := ha.head y hy
        have h2 := hb.head x (List.mem_append_right _ List.mem_cons_self)
        rw [bl_asymm h1] at h2; exact absurd h2 (by decide)
end Go.Proofs.YtmnbepapgghdaaaGreat.Fl

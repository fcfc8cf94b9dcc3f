/-
  Plain mathematics of a store: the mark, the halves, what a stopped commit leaves; no program text in it.
-/
import Derived.Test.YtmggpockikcjjaaGreatDoorW
import Derived.Test.YtmggpockikcjjaaGreatDoorDM
namespace Go.Proofs.YtmggpockikcjjaaGreatDoor
open Dsk (DS Tx Wt lastOf doL keptL kept_mem Ok usedS pushS settleS syncS crashS liveB last_mem doL_snoc doL_nil writeS writeE syncE hasB)

def halfN (n : Nat) : Nat := (n - 2) / 2
def roomN (n : Nat) : Nat := if n < 4 then 0 else 64 * halfN (min n 4096)
def firstN (n h : Nat) : Nat := if h = 0 then 2 else 2 + halfN n
def mkT (h k : Nat) : Tx := wputL (Lib.decDigits h) ++ wputL (Lib.decDigits k)
def MarkIs (t : Tx) (h k : Nat) : Prop := (t = [] ∧ h = 0 ∧ k = 0) ∨ t = mkT h k
def catR (b : Nat → Tx) (f : Nat) : Nat → Tx
  | 0 => []
  | k + 1 => catR b f k ++ b (f + k)
theorem catR_eq {b b' : Nat → Tx} {f : Nat} : ∀ {k : Nat}, (∀ i, f ≤ i → i < f + k → b' i = b i) → catR b' f k = catR b f k
  | 0, _ => rfl
  | k + 1, h => by
    unfold catR
    rw [catR_eq (k := k) (fun i h1 h2 => h i h1 (by omega)), h (f + k) (by omega) (by omega)]
theorem catR_len {b : Nat → Tx} {f : Nat} (hb : ∀ i, (b i).length ≤ 64) : ∀ k, (catR b f k).length ≤ 64 * k
  | 0 => by simp [catR]
  | k + 1 => by
    have := catR_len (f := f) hb k
    have := hb (f + k)
    simp only [catR, List.length_append]; omega
structure Holds (b : Nat → Tx) (n h k : Nat) (fs : List Fl) : Prop where
  mark : MarkIs (b 0) h k
  h1 : h ≤ 1
  k1 : k ≤ halfN n
  text : catR b (firstN n h) k = filesL fs
  good : Good fs
theorem Holds.keep {b b' : Nat → Tx} {n h k : Nat} {fs : List Fl} (H : Holds b n h k fs) (h0 : b' 0 = b 0) (hb : ∀ i, firstN n h ≤ i → i < firstN n h + halfN n → b' i = b i) : Holds b' n h k fs :=
  ⟨by rw [h0]; exact H.mark, H.h1, H.k1, by rw [← H.text]; exact catR_eq (fun i q1 q2 => hb i q1 (by have := H.k1; omega)), H.good⟩
theorem first_two (n h : Nat) : 2 ≤ firstN n h := by unfold firstN; split <;> omega
theorem first_end {n h : Nat} (hn : 4 ≤ n) : firstN n h + halfN n ≤ n := by unfold firstN halfN; split <;> omega
theorem first_apart {n h : Nat} (h1 : h ≤ 1) (i : Nat) (k1 : firstN n h ≤ i) (k2 : i < firstN n h + halfN n) : ¬ (firstN n (1 - h) ≤ i ∧ i < firstN n (1 - h) + halfN n) := by
  unfold firstN at *
  rcases (show h = 0 ∨ h = 1 by omega) with rfl | rfl
  · simp at *; omega
  · simp at *; omega
theorem last_none {p : List Wt} {i : Nat} (h : ∀ x ∈ p, x.1 ≠ i) : lastOf p i = none := by
  cases hl : lastOf p i with
  | none => rfl
  | some t => exact absurd rfl (h _ (last_mem p i t hl))
theorem doL_other {b : Nat → Tx} {p : List Wt} {i : Nat} (h : ∀ x ∈ p, x.1 ≠ i) : doL b p i = b i := by unfold doL; rw [last_none h]; rfl

/-! ### a disk that holds a map, whole -/
structure Clean (n : Nat) (fs : List Fl) (st : DS) : Prop where
  num : st.n = n
  pend : st.pend = []
  is : ∃ h k, Holds st.base n h k fs
/-- Whatever a crash keeps of it: there is the one or the other. -/
def Torn (n : Nat) (old new : List Fl) (st : DS) : Prop := ∀ ks, Clean n old (crashS st ks) ∨ Clean n new (crashS st ks)
theorem Clean.crash {n : Nat} {fs : List Fl} {st : DS} (h : Clean n fs st) (ks : List Bool) : Clean n fs (crashS st ks) := by
  refine ⟨h.num, rfl, ?_⟩
  obtain ⟨a, b, H⟩ := h.is
  refine ⟨a, b, ?_⟩
  show Holds (doL st.base (keptL st.pend ks)) n a b fs
  rw [h.pend]
  rw [show keptL [] ks = [] from by cases ks <;> rfl, doL_nil]
  exact H
theorem Clean.torn {n : Nat} {fs gs : List Fl} {st : DS} (h : Clean n fs st) : Torn n fs gs st := fun ks => .inl (h.crash ks)

/-! ### filling the other half -/
structure FillI (st0 : DS) (first : Nat) (text : Tx) (j : Nat) (st : DS) : Prop where
  n : st.n = st0.n
  base : st.base = st0.base
  cnt : st.cnt = st0.cnt + j
  free : st0.lim = none → st.lim = none
  zero : st0.lim = some 0 → st = st0
  got : catR (doL st.base st.pend) first j = text.take (64 * j)
  wr : ∀ x ∈ st.pend, first ≤ x.1 ∧ x.1 < first + j
theorem FillI.start {st0 : DS} (first : Nat) (text : Tx) (h : st0.pend = []) : FillI st0 first text 0 st0 :=
  ⟨rfl, rfl, rfl, id, fun _ => rfl, by simp [catR], by rw [h]; simp⟩
theorem live_used {d : DS} (h : d.lim = none) : (usedS d).lim = none := by simp [usedS, h]
theorem FillI.step {st0 st : DS} {first j : Nat} {text piece : Tx} (h : FillI st0 first text j st) (hl : liveB st = true) (hp : (text.drop (64 * j)).take 64 = piece) :
    FillI st0 first text (j + 1) (pushS (usedS st) (first + j) piece) := by
  refine ⟨h.n, h.base, by simp [pushS, usedS, h.cnt]; omega, fun q => live_used (h.free q), fun q => ?_, ?_, ?_⟩
  · have := h.zero q
    subst this
    unfold liveB at hl
    rw [q] at hl
    cases hl
  · show catR (doL st.base (st.pend ++ [(first + j, piece)])) first (j + 1) = _
    unfold catR
    rw [catR_eq (b := doL st.base st.pend) (fun i h1 h2 => by rw [doL_snoc, if_neg (by simp; omega)]), h.got, doL_snoc, if_pos rfl, ← hp]
    rw [show 64 * (j + 1) = 64 * j + 64 by omega, List.take_add]
  · intro x hx
    rcases List.mem_append.1 (show x ∈ st.pend ++ [(first + j, piece)] from hx) with q | q
    · have := h.wr x q; omega
    · simp at q; subst q; simp
theorem FillI.keeps {st0 st : DS} {n h k j : Nat} {text : Tx} {fs : List Fl} (F : FillI st0 (firstN n (1 - h)) text j st) (hj : j ≤ halfN n) (H : Holds st0.base n h k fs) (p : List Wt) (hp : ∀ x ∈ p, x ∈ st.pend) : Holds (doL st.base p) n h k fs := by
  rw [F.base]
  refine H.keep (doL_other fun x hx e => ?_) (fun i h1 h2 => doL_other fun x hx e => ?_)
  · have := F.wr x (hp x hx); have := first_two n (1 - h); omega
  · have := F.wr x (hp x hx)
    exact first_apart H.h1 i h1 h2 ⟨by omega, by omega⟩
theorem FillI.torn {st0 st : DS} {n h k j : Nat} {text : Tx} {fs gs : List Fl} (F : FillI st0 (firstN n (1 - h)) text j st) (hj : j ≤ halfN n) (hn : st0.n = n) (H : Holds st0.base n h k fs) : Torn n fs gs st := fun ks =>
  .inl ⟨F.n.trans hn, rfl, h, k, F.keeps hj H _ (kept_mem _ _)⟩
/-- Behind the first sync. -/
theorem FillI.synced {st0 st : DS} {n h k j : Nat} {text : Tx} {fs : List Fl} (F : FillI st0 (firstN n (1 - h)) text j st) (hj : j ≤ halfN n) (hn : st0.n = n) (H : Holds st0.base n h k fs) (hl : liveB st = true) :
    (syncS st).n = n ∧ (syncS st).pend = [] ∧ Holds (syncS st).base n h k fs ∧ catR (syncS st).base (firstN n (1 - h)) j = text.take (64 * j) ∧ (syncS st).cnt = st0.cnt + j ∧ (st0.lim = none → (syncS st).lim = none) := by
  unfold syncS
  rw [if_pos hl]
  exact ⟨F.n.trans hn, rfl, F.keeps hj H _ (fun _ hx => hx), F.got, F.cnt, fun q => live_used (F.free q)⟩
theorem holds_marked {b : Nat → Tx} {n h j : Nat} {text : Tx} {gs : List Fl} (h1 : h ≤ 1) (hj : j ≤ halfN n) (hc : catR b (firstN n (1 - h)) j = text) (hg : Good gs) (ht : text = filesL gs) : Holds (doL b [(0, mkT (1 - h) j)]) n (1 - h) j gs := by
  refine ⟨.inr (by simp [doL, lastOf]), by omega, hj, ?_, hg⟩
  rw [← ht, ← hc]
  refine catR_eq fun i q1 q2 => doL_other fun x hx e => ?_
  simp at hx
  have := first_two n (1 - h)
  subst hx; simp at e; omega
theorem torn_marked {st : DS} {n h k j : Nat} {fs gs : List Fl} {text : Tx} (hn : st.n = n) (hp : st.pend = [(0, mkT (1 - h) j)]) (H : Holds st.base n h k fs) (hj : j ≤ halfN n) (hc : catR st.base (firstN n (1 - h)) j = text) (hg : Good gs) (ht : text = filesL gs) : Torn n fs gs st := fun ks => by
  have e : (crashS st ks).base = doL st.base (keptL [(0, mkT (1 - h) j)] ks) := by rw [← hp]; rfl
  rcases ks with _ | ⟨b, ks⟩
  · exact .inl ⟨hn, rfl, h, k, by rw [e]; simpa [keptL, doL_nil] using H⟩
  · cases b
    · exact .inl ⟨hn, rfl, h, k, by rw [e]; simpa [keptL, doL_nil] using H⟩
    · exact .inr ⟨hn, rfl, 1 - h, j, by rw [e]; exact (by simpa [keptL] using holds_marked H.h1 hj hc hg ht)⟩

/-! ### what a commit may leave -/
def CommitR (st : DS) (n : Nat) (old new : List Fl) (e : Int) (st' : DS) : Prop :=
  st'.cnt ≤ st.cnt + halfN n + 1 ∧ st'.n = n ∧ ((e = 0 ∧ Clean n new st' ∧ (st.lim = none → st'.lim = none) ∧ st.lim ≠ some 0) ∨ (e = 8 ∧ st.lim ≠ none ∧ Torn n old new st' ∧ (st.lim = some 0 → st' = st)))

/-! ### texts of numbers -/
theorem dec_len4 : ∀ (n : Nat), n ≤ 9999 → (Lib.decDigits n).length ≤ 4 := by
  intro n hn
  by_cases h1 : n < 10
  · rw [dec_small n h1]; simp
  · rw [dec_big n h1]
    by_cases h2 : n / 10 < 10
    · rw [dec_small _ h2]; simp
    · rw [dec_big _ h2]
      by_cases h3 : n / 10 / 10 < 10
      · rw [dec_small _ h3]; simp
      · rw [dec_big _ h3, dec_small _ (by omega)]; simp
theorem wput_short {s : Tx} (h : s.length ≤ 4) : (wputL s).length ≤ 10 := by
  rw [wput_len]
  have := dec_len4 s.length (by omega)
  omega
theorem mkT_len {h k : Nat} (h1 : h ≤ 1) (h2 : k ≤ 9999) : (mkT h k).length ≤ 20 := by
  unfold mkT
  have a := wput_short (dec_len4 h (by omega))
  have b := wput_short (dec_len4 k h2)
  simp; omega
theorem mkT_all {h k : Nat} (h1 : h ≤ 1) (h2 : k ≤ 9999) : allL (mkT h k) = (0, [Lib.decDigits h, Lib.decDigits k]) := by
  have := all_cat [Lib.decDigits h, Lib.decDigits k] (by
    intro t ht
    simp at ht
    rcases ht with rfl | rfl
    · have := dec_len4 h (by omega); omega
    · have := dec_len4 k h2; omega)
  rw [← this]
  unfold mkT catL
  simp
end Go.Proofs.YtmggpockikcjjaaGreatDoor

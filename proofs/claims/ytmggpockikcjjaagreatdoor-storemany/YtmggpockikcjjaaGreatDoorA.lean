/-
  Words for memory: a slice of files that reads as a list; what is kept behind calls.
-/
import Derived.Test.YtmggpockikcjjaaGreatDoorRows
import Derived.Test.YtmggpockikcjjaaGreatDoorP
import Derived.WalkKit
import Derived.WalkSpells
import Derived.WalkLawsBesides
import Derived.Lib.Hide
import Derived.Deep.AppendLies
import Derived.Deep.Draws
import Derived.Laws.OwnMore
namespace Go.Proofs.YtmggpockikcjjaaGreatDoor
open Go.RowKit

def fcells : List Fl → List Value
  | [] => []
  | f :: r => .string ⟨f.1.toArray⟩ :: .string ⟨f.2.toArray⟩ :: fcells r
theorem fcells_len : ∀ fs : List Fl, (fcells fs).length = fs.length * 2
  | [] => rfl
  | f :: r => by simp only [fcells, List.length_cons, fcells_len r]; omega
theorem fcells_app : ∀ a b : List Fl, fcells (a ++ b) = fcells a ++ fcells b
  | [], _ => rfl
  | f :: r, b => by simp only [List.cons_append, fcells, fcells_app r b]
theorem fcells_at : ∀ (fs : List Fl) (i : Nat) (f : Fl), fs[i]? = some f → (fcells fs)[i * 2]? = some (.string ⟨f.1.toArray⟩) ∧ (fcells fs)[i * 2 + 1]? = some (.string ⟨f.2.toArray⟩)
  | [], _, _, h => by simp at h
  | g :: r, 0, f, h => by simp at h; subst h; exact ⟨rfl, rfl⟩
  | g :: r, i + 1, f, h => by
    have := fcells_at r i f (by simpa using h)
    rw [show (i + 1) * 2 = i * 2 + 1 + 1 by omega]
    simpa [fcells] using this
theorem fcells_one : ∀ (fs : List Fl), ∀ u ∈ fcells fs, u.oneCell' = true
  | [], u, h => by cases h
  | f :: r, u, h => by
    simp only [fcells, List.mem_cons] at h
    rcases h with rfl | rfl | h
    · rfl
    · rfl
    · exact fcells_one r u h

/-- The slice at A reads as these files. -/
def Rd (w : World) (A : Option Addr) (fs : List Fl) : Prop :=
  0 < fs.length → ∃ b o, A = some ⟨b, o, none⟩ ∧ ∀ i f, fs[i]? = some f → w.cell? ⟨b, o + i * 2, none⟩ = some (.string ⟨f.1.toArray⟩) ∧ w.cell? ⟨b, o + i * 2 + 1, none⟩ = some (.string ⟨f.2.toArray⟩)
theorem Rd.keep {w w' : World} {A : Option Addr} {fs : List Fl} (h : Rd w A fs) (hk : ∀ (p : Addr) (v : Value), w.cell? p = some v → w'.cell? p = some v) : Rd w' A fs := fun h0 => by
  obtain ⟨b, o, e, hc⟩ := h h0
  exact ⟨b, o, e, fun i f hi => ⟨hk _ _ (hc i f hi).1, hk _ _ (hc i f hi).2⟩⟩
theorem cell_below {w w' : World} (hb : Below w.heap.size w w') {p : Addr} {v : Value} (h : w.cell? p = some v) : w'.cell? p = some v :=
  (hb.cell (World.block_lt_of_cell? w p h)).trans h
theorem Rd.below {w w' : World} {A : Option Addr} {fs : List Fl} (h : Rd w A fs) (hb : Below w.heap.size w w') : Rd w' A fs := h.keep fun _ _ hc => cell_below hb hc
theorem Rd.alloc {w : World} {A : Option Addr} {fs : List Fl} (h : Rd w A fs) (o : Obj) : Rd (w.alloc o) A fs := h.below ((Below.refl _ _).alloc (Nat.le_refl _) _)
theorem Rd.drewN {w : World} {A : Option Addr} {fs : List Fl} (h : Rd w A fs) (n : Nat) : Rd (w.drewN n) A fs := h
theorem Rd.drew {w : World} {A : Option Addr} {fs : List Fl} (h : Rd w A fs) : Rd w.drew A fs := h
theorem Rd.empty (w : World) (A : Option Addr) : Rd w A [] := fun h => absurd h (by simp)

/-- A slice of one's own that holds these files. -/
def Own (w : World) (base : Nat) (A : Option Addr) (c : Nat) (fs : List Fl) : Prop := w.ownsRow base 37 2 (.slice A fs.length c) fs.length (fcells fs)
theorem Own.rd {w : World} {base : Nat} {A : Option Addr} {c : Nat} {fs : List Fl} (h : Own w base A c fs) : Rd w A fs := fun h0 => by
  obtain ⟨g, cap, hv, _, _⟩ := World.ownsRow.form h h0
  simp only [Value.slice.injEq] at hv
  obtain ⟨rfl, _, _⟩ := hv
  refine ⟨g, 0, rfl, fun i f hi => ?_⟩
  have hlt : i < fs.length := by
    rcases Nat.lt_or_ge i fs.length with q | q
    · exact q
    · rw [List.getElem?_eq_none q] at hi; cases hi
  obtain ⟨h1, h2⟩ := fcells_at fs i f hi
  have c1 := World.ownsRow.cellAt h (i * 2) (by omega)
  have c2 := World.ownsRow.cellAt h (i * 2 + 1) (by omega)
  rw [Nat.zero_add]
  exact ⟨c1.trans h1, c2.trans h2⟩
theorem Own.cap {w : World} {base : Nat} {A : Option Addr} {c : Nat} {fs : List Fl} (h : Own w base A c fs) : fs.length ≤ c ∧ c ≤ 9223372036854775807 ∧ (A = none → c = 0) := by
  rcases h.2 with ⟨hv, h0⟩ | ⟨g, cap, cur, hv, _, _, h1, h2, _⟩
  · simp only [Value.slice.injEq] at hv
    obtain ⟨rfl, _, rfl⟩ := hv
    exact ⟨by omega, by omega, fun _ => rfl⟩
  · simp only [Value.slice.injEq] at hv
    obtain ⟨rfl, _, rfl⟩ := hv
    unfold maxLen at h2
    exact ⟨h1, by omega, fun e => by cases e⟩
theorem Own.mono {w : World} {base base' : Nat} {A : Option Addr} {c : Nat} {fs : List Fl} (h : Own w base A c fs) (hb : base' ≤ base) : Own w base' A c fs := by
  refine ⟨h.1, ?_⟩
  rcases h.2 with q | ⟨g, cap, cur, h1, h2, r⟩
  · exact .inl q
  · exact .inr ⟨g, cap, cur, h1, Nat.le_trans hb h2, r⟩
theorem Own.below {w w' : World} {base : Nat} {A : Option Addr} {c : Nat} {fs : List Fl} (h : Own w base A c fs) (hb : Below w.heap.size w w') : Own w' base A c fs := by
  refine ⟨h.1, ?_⟩
  rcases h.2 with q | ⟨g, cap, cur, h1, h2, h3, r⟩
  · exact .inl q
  · have hlt : g < w.heap.size := by
      rcases Nat.lt_or_ge g w.heap.size with hlt | hge
      · exact hlt
      · rw [Array.getElem?_eq_none hge] at h3; cases h3
    exact .inr ⟨g, cap, cur, h1, h2, (hb.block g hlt).trans h3, r⟩
theorem one_below (w : World) (o : Obj) : Below w.heap.size w (w.alloc o) := (Below.refl _ _).alloc (Nat.le_refl _) _
theorem drewN_below (w : World) (n : Nat) : Below w.heap.size w (w.drewN n) := ⟨rfl, rfl, rfl, Nat.le_refl _, fun _ _ => rfl⟩
theorem bch {a b c : World} (h : Below a.heap.size a b) (k : Below b.heap.size b c) : Below a.heap.size a c := h.trans (k.mono h.size)
theorem new_fst (w : World) (a b : Value) (t : TypeId) : (w.alloc (.cells #[a, b] t)).cell? ⟨w.heap.size, 0, none⟩ = some a := by rw [World.cell?_alloc_new]; rfl
theorem new_snd (w : World) (a b : Value) (t : TypeId) : (w.alloc (.cells #[a, b] t)).cell? ⟨w.heap.size, 1, none⟩ = some b := by rw [World.cell?_alloc_new]; rfl
end Go.Proofs.YtmggpockikcjjaaGreatDoor

/-
  Words for memory: a slice of tokens that reads as a list; a row of one's own; what is kept behind calls; results that lie in a cell.
-/
import Derived.Test.YtjneeikkakekjaaDoorC
import Derived.Laws.Rows
namespace Go.Proofs.YtjneeikkakekjaaDoor
open Go.RowKit

def fcells : List Tok → List Value
  | [] => []
  | f :: r => .int .i64 f.1 :: .string ⟨f.2.toArray⟩ :: fcells r
theorem fcells_len : ∀ fs : List Tok, (fcells fs).length = fs.length * 2
  | [] => rfl
  | f :: r => by simp only [fcells, List.length_cons, fcells_len r]; omega
theorem fcells_app : ∀ a b : List Tok, fcells (a ++ b) = fcells a ++ fcells b
  | [], _ => rfl
  | f :: r, b => by simp only [List.cons_append, fcells, fcells_app r b]
theorem fcells_at : ∀ (fs : List Tok) (i : Nat) (f : Tok), fs[i]? = some f → (fcells fs)[i * 2]? = some (.int .i64 f.1) ∧ (fcells fs)[i * 2 + 1]? = some (.string ⟨f.2.toArray⟩)
  | [], _, _, h => by simp at h
  | g :: r, 0, f, h => by simp at h; subst h; exact ⟨rfl, rfl⟩
  | g :: r, i + 1, f, h => by
    have := fcells_at r i f (by simpa using h)
    rw [show (i + 1) * 2 = i * 2 + 1 + 1 by omega]
    simpa [fcells] using this
theorem fcells_one : ∀ (fs : List Tok), ∀ u ∈ fcells fs, u.oneCell' = true
  | [], u, h => by cases h
  | f :: r, u, h => by
    simp only [fcells, List.mem_cons] at h
    rcases h with rfl | rfl | h
    · rfl
    · rfl
    · exact fcells_one r u h

/-- The slice at A reads as these files. -/
def Rd (w : World) (A : Option Addr) (fs : List Tok) : Prop :=
  0 < fs.length → ∃ b o, A = some ⟨b, o, none⟩ ∧ ∀ i f, fs[i]? = some f → w.cell? ⟨b, o + i * 2, none⟩ = some (.int .i64 f.1) ∧ w.cell? ⟨b, o + i * 2 + 1, none⟩ = some (.string ⟨f.2.toArray⟩)
theorem Rd.keep {w w' : World} {A : Option Addr} {fs : List Tok} (h : Rd w A fs) (hk : ∀ (p : Addr) (v : Value), w.cell? p = some v → w'.cell? p = some v) : Rd w' A fs := fun h0 => by
  obtain ⟨b, o, e, hc⟩ := h h0
  exact ⟨b, o, e, fun i f hi => ⟨hk _ _ (hc i f hi).1, hk _ _ (hc i f hi).2⟩⟩
theorem cell_below {w w' : World} (hb : Below w.heap.size w w') {p : Addr} {v : Value} (h : w.cell? p = some v) : w'.cell? p = some v :=
  (hb.cell (World.block_lt_of_cell? w p h)).trans h
theorem Rd.below {w w' : World} {A : Option Addr} {fs : List Tok} (h : Rd w A fs) (hb : Below w.heap.size w w') : Rd w' A fs := h.keep fun _ _ hc => cell_below hb hc
theorem Rd.alloc {w : World} {A : Option Addr} {fs : List Tok} (h : Rd w A fs) (o : Obj) : Rd (w.alloc o) A fs := h.below ((Below.refl _ _).alloc (Nat.le_refl _) _)
theorem Rd.drewN {w : World} {A : Option Addr} {fs : List Tok} (h : Rd w A fs) (n : Nat) : Rd (w.drewN n) A fs := h
theorem Rd.drew {w : World} {A : Option Addr} {fs : List Tok} (h : Rd w A fs) : Rd w.drew A fs := h
theorem Rd.empty (w : World) (A : Option Addr) : Rd w A [] := fun h => absurd h (by simp)

/-- A slice of one's own that holds these files. -/
def Own (t : TypeId) (w : World) (base : Nat) (A : Option Addr) (c : Nat) (fs : List Tok) : Prop := w.ownsRow base t 2 (.slice A fs.length c) fs.length (fcells fs)
theorem Own.rd {t : TypeId} {w : World} {base : Nat} {A : Option Addr} {c : Nat} {fs : List Tok} (h : Own t w base A c fs) : Rd w A fs := fun h0 => by
  obtain ⟨g, cap, hv, _, _⟩ := World.ownsRow.form h h0
  simp only [Value.slice.injEq] at hv
  obtain ⟨rfl, _, _⟩ := hv
  refine ⟨g, 0, rfl, fun i f hi => ?_⟩
  have hlt : i < fs.length := by
    rcases Nat.lt_or_ge i fs.length with q | q
    · exact q
    · rw [List.getElem?_eq_none q] at hi; cases hi
  obtain ⟨h1, h2⟩ := fcells_at fs i f hi
  have c1 := World.ownsRow.cellAt h (i * 2) (by omega)
  have c2 := World.ownsRow.cellAt h (i * 2 + 1) (by omega)
  rw [Nat.zero_add]
  exact ⟨c1.trans h1, c2.trans h2⟩
theorem Own.cap {t : TypeId} {w : World} {base : Nat} {A : Option Addr} {c : Nat} {fs : List Tok} (h : Own t w base A c fs) : fs.length ≤ c ∧ c ≤ 9223372036854775807 ∧ (A = none → c = 0) := by
  rcases h.2 with ⟨hv, h0⟩ | ⟨g, cap, cur, hv, _, _, h1, h2, _⟩
  · simp only [Value.slice.injEq] at hv
    obtain ⟨rfl, _, rfl⟩ := hv
    exact ⟨by omega, by omega, fun _ => rfl⟩
  · simp only [Value.slice.injEq] at hv
    obtain ⟨rfl, _, rfl⟩ := hv
    unfold maxLen at h2
    exact ⟨h1, by omega, fun e => by cases e⟩
theorem Own.mono {t : TypeId} {w : World} {base base' : Nat} {A : Option Addr} {c : Nat} {fs : List Tok} (h : Own t w base A c fs) (hb : base' ≤ base) : Own t w base' A c fs := by
  refine ⟨h.1, ?_⟩
  rcases h.2 with q | ⟨g, cap, cur, h1, h2, r⟩
  · exact .inl q
  · exact .inr ⟨g, cap, cur, h1, Nat.le_trans hb h2, r⟩
theorem Own.below {t : TypeId} {w w' : World} {base : Nat} {A : Option Addr} {c : Nat} {fs : List Tok} (h : Own t w base A c fs) (hb : Below w.heap.size w w') : Own t w' base A c fs := by
  refine ⟨h.1, ?_⟩
  rcases h.2 with q | ⟨g, cap, cur, h1, h2, h3, r⟩
  · exact .inl q
  · have hlt : g < w.heap.size := by
      rcases Nat.lt_or_ge g w.heap.size with hlt | hge
      · exact hlt
      · rw [Array.getElem?_eq_none hge] at h3; cases h3
    exact .inr ⟨g, cap, cur, h1, h2, (hb.block g hlt).trans h3, r⟩
theorem one_below (w : World) (o : Obj) : Below w.heap.size w (w.alloc o) := (Below.refl _ _).alloc (Nat.le_refl _) _
theorem drewN_below (w : World) (n : Nat) : Below w.heap.size w (w.drewN n) := ⟨rfl, rfl, rfl, Nat.le_refl _, fun _ _ => rfl⟩
theorem bch {a b c : World} (h : Below a.heap.size a b) (k : Below b.heap.size b c) : Below a.heap.size a c := h.trans (k.mono h.size)
theorem new_fst (w : World) (a b : Value) (t : TypeId) : (w.alloc (.cells #[a, b] t)).cell? ⟨w.heap.size, 0, none⟩ = some a := by rw [World.cell?_alloc_new]; rfl
theorem new_snd (w : World) (a b : Value) (t : TypeId) : (w.alloc (.cells #[a, b] t)).cell? ⟨w.heap.size, 1, none⟩ = some b := by rw [World.cell?_alloc_new]; rfl
theorem lt_of_blk {w : World} {b : Nat} {o : Obj} (h : w.heap[b]? = some o) : b < w.heap.size := (Array.getElem?_eq_some_iff.1 h).1
theorem cell_of {w : World} {b : Nat} {cs : Array Value} {t : TypeId} {fr : Nat × Nat} (h : w.heap[b]? = some (.cells cs t fr)) (i : Nat) : w.cell? ⟨b, i, none⟩ = cs[i]? := by simp [World.cell?, h]
theorem frozen_of {w : World} {b : Nat} {cs : Array Value} {t : TypeId} (h : w.heap[b]? = some (.cells cs t (0, 0))) (i : Nat) : w.frozen? ⟨b, i, none⟩ = false := by simp [World.frozen?, h]
theorem blk_set {w : World} {b : Nat} {cs : Array Value} {t : TypeId} {fr : Nat × Nat} (h : w.heap[b]? = some (.cells cs t fr)) (i : Nat) (v : Value) : (w.setCell ⟨b, i, none⟩ v).heap[b]? = some (.cells (cs.setIfInBounds i v) t fr) := by
  simp [World.setCell, Array.getElem?_modify, h]
theorem blk_below {w w' : World} (hb : Below w.heap.size w w') {b : Nat} {o : Obj} (h : w.heap[b]? = some o) : w'.heap[b]? = some o := (hb.block b (lt_of_blk h)).trans h
theorem results_cell_tmp {P : Program} {fn : Func} {p q : Tmp} {ty : TypeId} (h : fn.results = #[.cell p ty, .tmp q]) (tmps : Array Value) (w : World) (g : Nat) (t : TypeId) (cs : Array Value) (fr : Nat × Nat) (d : TypeDesc) (v : Value)
    (hp : tmps.getD p undef = .pointer (some ⟨g, 0, none⟩)) (hq : tmps.getD q undef = v) (hg : w.heap[g]? = some (.cells cs t fr))
    (hu : P.underlying ty = some d) (hd : (match d with | .struct _ | .array _ _ => true | _ => false) = true) (hi : (P.info? ty).map (·.size) = some cs.size) :
    (results fn tmps).run P w = .ok (.tuple #[.agg cs, v]) w := by
  have hp' : tmps[p]?.getD undef = .pointer (some ⟨g, 0, none⟩) := by simpa using hp
  have hq' : tmps[q]?.getD undef = v := by simpa using hq
  simp [results, h, hp', hq', asAddr, run_loadVar_row w g t ty cs fr d hg hu hd hi]
theorem str_of {t : ByteArray} {l : By} (h : t.data.toList = l) : t = ⟨l.toArray⟩ := by
  subst h; rfl
/-- How long a text is. -/
def strSz : Value → Nat
  | .string t => t.size
  | _ => 0
theorem ext_list (t : ByteArray) (a b : Nat) : (t.extract a b).data.toList = (t.data.toList.take b).drop a := by
  rw [ByteArray.data_extract, Array.toList_extract, List.extract_eq_take_drop, List.drop_take]
theorem ext_from (t : ByteArray) (a b : Nat) (h : t.size ≤ b) : (t.extract a b).data.toList = t.data.toList.drop a := by
  rw [ext_list, List.take_of_length_le (by rw [size_list]; exact h)]
theorem ext_size (t : ByteArray) (a b : Nat) (h : t.size ≤ b) : (t.extract a b).size = t.size - a := by
  rw [← size_list, ext_from t a b h, List.length_drop, size_list]
end Go.Proofs.YtjneeikkakekjaaDoor

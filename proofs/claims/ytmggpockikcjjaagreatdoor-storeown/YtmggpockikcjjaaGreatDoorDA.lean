/-
  Words for memory: what is kept behind calls (Kp), a map that holds texts (MapIs), rows of writes, of texts and of numbers of one's own; a disk (DiskAt) and the document's disk (RefAt) in memory, each with the blocks that it may reach.
-/
import Derived.Test.YtmggpockikcjjaaGreatDoorRows
import Derived.Test.YtmggpockikcjjaaGreatDoorDM
import Derived.WalkKit
import Derived.WalkSpells
import Derived.WalkLawsBesides
import Derived.Lib.Hide
import Derived.Deep.AppendLies
import Derived.Deep.Draws
import Derived.Laws.OwnMore
import Derived.Maps.StringElems
namespace Go.Proofs.YtmggpockikcjjaaGreatDoor.Dsk
open Go.RowKit

/-- The world is as it was but for the blocks F (and for new ones). -/
structure Kp (F : Nat → Prop) (w w' : World) : Prop where
  os : w'.os = w.os
  tape : w'.tape = w.tape
  output : w'.output = w.output
  size : w.heap.size ≤ w'.heap.size
  block : ∀ b, b < w.heap.size → ¬ F b → w'.heap[b]? = w.heap[b]?
theorem Kp.refl (F : Nat → Prop) (w : World) : Kp F w w := ⟨rfl, rfl, rfl, Nat.le_refl _, fun _ _ _ => rfl⟩
theorem Kp.trans {F G : Nat → Prop} {a b c : World} (h : Kp F a b) (k : Kp G b c) (hG : ∀ x, x < a.heap.size → G x → F x) : Kp F a c :=
  ⟨k.os.trans h.os, k.tape.trans h.tape, k.output.trans h.output, Nat.le_trans h.size k.size, fun i hi hf => (k.block i (Nat.lt_of_lt_of_le hi h.size) fun hg => hf (hG i hi hg)).trans (h.block i hi hf)⟩
theorem Kp.mono {F G : Nat → Prop} {a b : World} (h : Kp F a b) (hG : ∀ x, F x → G x) : Kp G a b := ⟨h.os, h.tape, h.output, h.size, fun i hi hf => h.block i hi fun hg => hf (hG i hg)⟩
theorem Kp.drewN {F : Nat → Prop} {a w : World} (h : Kp F a w) (n : Nat) : Kp F a (w.drewN n) := ⟨h.os, h.tape, h.output, h.size, h.block⟩
theorem Kp.drew {F : Nat → Prop} {a w : World} (h : Kp F a w) : Kp F a w.drew := ⟨h.os, h.tape, h.output, h.size, h.block⟩
theorem Kp.alloc {F : Nat → Prop} {a w : World} (h : Kp F a w) (o : Obj) : Kp F a (w.alloc o) :=
  ⟨h.os, h.tape, h.output, by have := h.size; simp; omega, fun i hi hf => (Below.heap_alloc w o i (Nat.lt_of_lt_of_le hi h.size)).trans (h.block i hi hf)⟩
theorem Kp.setCell {F : Nat → Prop} {a w : World} (h : Kp F a w) {p : Addr} (hp : F p.block ∨ a.heap.size ≤ p.block) (v : Value) : Kp F a (w.setCell p v) :=
  ⟨h.os, h.tape, h.output, by have := h.size; simpa [World.setCell] using this, fun i hi hf => (Below.heap_setCell w p v i (fun e => by subst e; rcases hp with q | q; exact hf q; omega)).trans (h.block i hi hf)⟩
theorem Kp.grown {F : Nat → Prop} {a w w' : World} {row : Option Nat} (h : Kp F a w) (hg : w.grownBy w' row) (hr : ∀ k, row = some k → F k ∨ a.heap.size ≤ k) : Kp F a w' :=
  ⟨hg.os.trans h.os, hg.tape.trans h.tape, hg.output.trans h.output, Nat.le_trans h.size hg.size, fun i hi hf => (hg.block i (Nat.lt_of_lt_of_le hi h.size) (fun e => by rcases hr i e.symm with q | q; exact hf q; omega)).trans (h.block i hi hf)⟩
theorem Kp.below {F : Nat → Prop} {w w' : World} (h : Kp F w w') {B : Nat} (hB : B ≤ w.heap.size) (hF : ∀ x, F x → B ≤ x) : Below B w w' :=
  ⟨h.os, h.tape, h.output, h.size, fun k hk => h.block k (by omega) (fun hf => by have := hF k hf; omega)⟩
theorem Kp.of_below {w w' : World} (h : Below w.heap.size w w') (F : Nat → Prop) : Kp F w w' := ⟨h.os, h.tape, h.output, h.size, fun i hi _ => h.block i hi⟩
theorem lt_of_blk {w : World} {b : Nat} {o : Obj} (h : w.heap[b]? = some o) : b < w.heap.size := (Array.getElem?_eq_some_iff.1 h).1
theorem Kp.keep {F : Nat → Prop} {w w' : World} (h : Kp F w w') {b : Nat} {o : Obj} (hb : w.heap[b]? = some o) (hf : ¬ F b) : w'.heap[b]? = some o := (h.block b (lt_of_blk hb) hf).trans hb

theorem cell_of {w : World} {b : Nat} {cs : Array Value} {t : TypeId} {fr : Nat × Nat} (h : w.heap[b]? = some (.cells cs t fr)) (i : Nat) : w.cell? ⟨b, i, none⟩ = cs[i]? := by simp [World.cell?, h]
theorem frozen_of {w : World} {b : Nat} {cs : Array Value} {t : TypeId} (h : w.heap[b]? = some (.cells cs t (0, 0))) (i : Nat) : w.frozen? ⟨b, i, none⟩ = false := by simp [World.frozen?, h]
theorem blk_set {w : World} {b : Nat} {cs : Array Value} {t : TypeId} {fr : Nat × Nat} (h : w.heap[b]? = some (.cells cs t fr)) (i : Nat) (v : Value) : (w.setCell ⟨b, i, none⟩ v).heap[b]? = some (.cells (cs.setIfInBounds i v) t fr) := by
  simp [World.setCell, Array.getElem?_modify, h]
theorem blk_set_far {w : World} {b : Nat} (p : Addr) (v : Value) (h : b ≠ p.block) : (w.setCell p v).heap[b]? = w.heap[b]? := Below.heap_setCell w p v b h
theorem blk_alloc {w : World} {b : Nat} {o : Obj} (h : w.heap[b]? = some o) (o' : Obj) : (w.alloc o').heap[b]? = some o := (Below.heap_alloc w o' b (lt_of_blk h)).trans h
theorem blk_new (w : World) (o : Obj) : (w.alloc o).heap[w.heap.size]? = some o := (MapKept.heap_alloc w _).1

/-! ### maps from numbers to texts -/
theorem law3 : Maps.Keyed Tryz.prog 3 := Maps.int_keyed Tryz.underlying3
theorem zero9 (w : World) : (zeroValue 9).run Tryz.prog w = .ok (.string ⟨#[]⟩) w := by kernel_rfl
def MapIs (w : World) (m N : Nat) (f : Nat → Option Tx) : Prop :=
  ∃ D : DataW Unit, w.ownsMap Tryz.prog 3 (plainElem Tryz.prog 9) m N D ∧ ∀ i : Nat, i < 4096 → D.atKey (.int .i64 i) (.lit (.string [])) = .lit (.string ((f i).getD [])) ∧ Maps.has D (.int .i64 i) = (f i).isSome
theorem wf_nat {i : Nat} (h : i < 4096) : (Lit.int .i64 (i : Int)).wf = true := WalkArith.wf_i64 (by omega)
theorem MapIs.block {w : World} {m N : Nat} {f : Nat → Option Tx} (h : MapIs w m N f) : ∃ es clock, w.heap[m]? = some (.map es clock) := by
  obtain ⟨D, ⟨es, clock, hb, _⟩, _⟩ := h
  exact ⟨es, clock, hb⟩
theorem MapIs.of_block {w w' : World} {m N : Nat} {f : Nat → Option Tx} (h : MapIs w m N f) (hb : w'.heap[m]? = w.heap[m]?) : MapIs w' m N f := by
  obtain ⟨D, ⟨es, clock, h1, h2⟩, h3⟩ := h
  exact ⟨D, ⟨es, clock, hb.trans h1, h2⟩, h3⟩
theorem MapIs.lt {w : World} {m N : Nat} {f : Nat → Option Tx} (h : MapIs w m N f) : m < w.heap.size := by obtain ⟨es, c, hb⟩ := h.block; exact lt_of_blk hb
theorem MapIs.kp {F : Nat → Prop} {w w' : World} {m N : Nat} {f : Nat → Option Tx} (h : MapIs w m N f) (hk : Kp F w w') (hf : ¬ F m) : MapIs w' m N f := h.of_block (hk.block m h.lt hf)
theorem MapIs.alloc {w : World} {m N : Nat} {f : Nat → Option Tx} (h : MapIs w m N f) (o : Obj) : MapIs (w.alloc o) m N f := h.kp ((Kp.refl (fun _ => False) w).alloc o) id
theorem MapIs.made (w : World) : MapIs (w.alloc (.map #[] 0)) w.heap.size 0 (fun _ => none) := ⟨.map [], World.ownsMap_made _ _ _ _, fun _ _ => ⟨rfl, rfl⟩⟩
theorem MapIs.ne_cells {w : World} {m N b : Nat} {f : Nat → Option Tx} {cs : Array Value} {t : TypeId} {fr : Nat × Nat} (h : MapIs w m N f) (hb : w.heap[b]? = some (.cells cs t fr)) : m ≠ b := fun e => by
  obtain ⟨es, c, hm⟩ := h.block
  rw [e, hb] at hm; cases hm
theorem str_of {s : ByteArray} {t : Tx} (h : s.data.toList = t) : s = ⟨t.toArray⟩ := by subst h; rfl
set_option maxRecDepth 100000 in
theorem MapIs.look {w : World} {m N : Nat} {f : Nat → Option Tx} (h : MapIs w m N f) {i : Nat} (hi : i < 4096) :
    (Instr.lookup 71 (.map (some m)) (.int .i64 i) false).run Tryz.prog w = .ok (.string ⟨((f i).getD []).toArray⟩) w := by
  obtain ⟨D, ho, hf⟩ := h
  obtain ⟨v, ps, hrun, hv⟩ := ho.lookup law3 Tryz.underlying71 (zero9 w) (plainElem_string (P := Tryz.prog) (s := ⟨#[]⟩) Tryz.underlying9 (by decide)) (Maps.keyOf_int_mk Tryz.underlying3 (wf_nat hi))
  obtain ⟨s, rfl, hz, _⟩ := plainElem_string_inv Tryz.underlying9 hv
  have := (Prod.mk.inj hz).1
  rw [show (DataW.lit (.string (ByteArray.mk #[]).data.toList) : DataW Unit) = .lit (.string []) from rfl, (hf i hi).1] at this
  injection this with e
  injection e with e
  rw [hrun, str_of e.symm]
set_option maxRecDepth 100000 in
theorem MapIs.look_ok {w : World} {m N : Nat} {f : Nat → Option Tx} (h : MapIs w m N f) {i : Nat} (hi : i < 4096) :
    (Instr.lookup 71 (.map (some m)) (.int .i64 i) true).run Tryz.prog w = .ok (.tuple #[.string ⟨((f i).getD []).toArray⟩, .bool (f i).isSome]) w := by
  obtain ⟨D, ho, hf⟩ := h
  obtain ⟨v, ps, hrun, hv⟩ := ho.look_ok law3 Tryz.underlying71 (zero9 w) (plainElem_string (P := Tryz.prog) (s := ⟨#[]⟩) Tryz.underlying9 (by decide)) (Maps.keyOf_int_mk Tryz.underlying3 (wf_nat hi))
  obtain ⟨s, rfl, hz, _⟩ := plainElem_string_inv Tryz.underlying9 hv
  have := (Prod.mk.inj hz).1
  rw [show (DataW.lit (.string (ByteArray.mk #[]).data.toList) : DataW Unit) = .lit (.string []) from rfl, (hf i hi).1] at this
  injection this with e
  injection e with e
  rw [hrun, str_of e.symm, (hf i hi).2]
theorem key_ne {i j : Nat} (h : i ≠ j) : (Lit.int .i64 (i : Int)) ≠ Lit.int .i64 (j : Int) := fun e => by injection e with _ e; exact h (by omega)
theorem MapIs.store {w : World} {m N : Nat} {f : Nat → Option Tx} (h : MapIs w m N f) {j : Nat} {s : Tx} (hj : j < 4096) (hs : s.length ≤ 64) (hN : N ≤ 100000) :
    ∃ w', (Instr.mapUpdate 71 (.map (some m)) (.int .i64 j) (.string ⟨s.toArray⟩)).run Tryz.prog w = .ok () w' ∧ MapIs w' m (N + 1) (fun i => if j = i then some s else f i) ∧ w.grownBy w' (some m) := by
  obtain ⟨D, ho, hf⟩ := h
  obtain ⟨w', hrun, hown, ht⟩ := ho.store law3 Tryz.underlying71 (by unfold maxLen; omega) (Maps.keyOf_int_mk Tryz.underlying3 (wf_nat hj)) (plainElem_string (P := Tryz.prog) (s := ⟨s.toArray⟩) Tryz.underlying9 (by show s.toArray.size ≤ maxLen; unfold maxLen; simp; omega))
  refine ⟨w', hrun, ⟨_, hown, fun i hi => ?_⟩, ht.grown⟩
  by_cases hij : j = i
  · subst hij
    rw [Maps.atKey_put_same ho.isMap (k := .int .i64 (j : Int)) trivial, Maps.has_put_same ho.isMap (k := .int .i64 (j : Int)) trivial]
    simp
  · rw [Maps.atKey_put_other (key_ne (Ne.symm hij)), Maps.has_put_other (key_ne (Ne.symm hij))]
    simp only [if_neg hij]
    exact hf i hi

/-! ### rows -/
def wcells : List Wt → List Value
  | [] => []
  | x :: r => .int .i64 x.1 :: .string ⟨x.2.toArray⟩ :: wcells r
theorem wcells_len : ∀ p : List Wt, (wcells p).length = p.length * 2
  | [] => rfl
  | f :: r => by simp only [wcells, List.length_cons, wcells_len r]; omega
theorem wcells_app : ∀ a b : List Wt, wcells (a ++ b) = wcells a ++ wcells b
  | [], _ => rfl
  | f :: r, b => by simp only [List.cons_append, wcells, wcells_app r b]
theorem wcells_at : ∀ (p : List Wt) (i : Nat) (x : Wt), p[i]? = some x → (wcells p)[i * 2]? = some (.int .i64 x.1) ∧ (wcells p)[i * 2 + 1]? = some (.string ⟨x.2.toArray⟩)
  | [], _, _, h => by simp at h
  | g :: r, 0, f, h => by simp at h; subst h; exact ⟨rfl, rfl⟩
  | g :: r, i + 1, f, h => by
    have := wcells_at r i f (by simpa using h)
    rw [show (i + 1) * 2 = i * 2 + 1 + 1 by omega]
    simpa [wcells] using this
theorem wcells_one : ∀ (p : List Wt), ∀ u ∈ wcells p, u.oneCell' = true
  | [], u, h => by cases h
  | f :: r, u, h => by
    simp only [wcells, List.mem_cons] at h
    rcases h with rfl | rfl | h
    · rfl
    · rfl
    · exact wcells_one r u h
def scells (l : List Tx) : List Value := l.map fun s => .string ⟨s.toArray⟩
def ncells (l : List Nat) : List Value := l.map fun (i : Nat) => .int .i64 (i : Int)
def bcells (l : List Bool) : List Value := l.map fun b => .bool b
/-- A row of one's own: elements of type e, k cells each. -/
def OwnR (w : World) (e k : Nat) (A : Option Addr) (n c : Nat) (xs : List Value) : Prop := w.ownsRow 0 e k (.slice A n c) n xs
def rowB (A : Option Addr) : Option Nat := A.map (·.block)
theorem OwnR.kp {F : Nat → Prop} {w w' : World} {e k n c : Nat} {A : Option Addr} {xs : List Value} (h : OwnR w e k A n c xs) (hk : Kp F w w') (hf : ∀ b, rowB A = some b → ¬ F b) : OwnR w' e k A n c xs := by
  refine ⟨h.1, ?_⟩
  rcases h.2 with q | ⟨g, cap, cur, h1, h2, h3, r⟩
  · exact .inl q
  · refine .inr ⟨g, cap, cur, h1, h2, hk.keep h3 (hf g ?_), r⟩
    simp only [Value.slice.injEq] at h1
    rw [h1.1]; rfl
theorem OwnR.block {w : World} {e k n c : Nat} {A : Option Addr} {xs : List Value} (h : OwnR w e k A n c xs) {b : Nat} (hb : rowB A = some b) : A = some ⟨b, 0, none⟩ ∧ ∃ cur, w.heap[b]? = some (.cells cur e (0, 0)) ∧ cur.toList.take (n * k) = xs ∧ cur.size = c * k ∧ n ≤ c := by
  rcases h.2 with ⟨q, _⟩ | ⟨g, cap, cur, h1, _, h3, h4, _, h6, h7⟩
  · simp only [Value.slice.injEq] at q
    rw [q.1] at hb; cases hb
  · simp only [Value.slice.injEq] at h1
    obtain ⟨rfl, _, rfl⟩ := h1
    simp [rowB] at hb
    subst hb
    exact ⟨rfl, cur, h3, h7, h6, h4⟩
theorem OwnR.lt {w : World} {e k n c : Nat} {A : Option Addr} {xs : List Value} (h : OwnR w e k A n c xs) {b : Nat} (hb : rowB A = some b) : b < w.heap.size := by
  obtain ⟨_, cur, h1, _⟩ := h.block hb
  exact lt_of_blk h1
theorem OwnR.cap {w : World} {e k n c : Nat} {A : Option Addr} {xs : List Value} (h : OwnR w e k A n c xs) : n ≤ c ∧ c ≤ 9223372036854775807 ∧ (A = none → n = 0 ∧ c = 0) := by
  rcases h.2 with ⟨hv, h0⟩ | ⟨g, cap, cur, hv, _, _, h1, h2, _⟩
  · simp only [Value.slice.injEq] at hv
    obtain ⟨rfl, _, rfl⟩ := hv
    exact ⟨by omega, by omega, fun _ => ⟨h0, rfl⟩⟩
  · simp only [Value.slice.injEq] at hv
    obtain ⟨rfl, _, rfl⟩ := hv
    unfold maxLen at h2
    exact ⟨h1, by omega, fun e => by cases e⟩
theorem OwnR.cell {w : World} {e k n c : Nat} {A : Option Addr} {xs : List Value} (h : OwnR w e k A n c xs) (h0 : 0 < n) : ∃ b, A = some ⟨b, 0, none⟩ ∧ ∀ i v, xs[i]? = some v → w.cell? ⟨b, i, none⟩ = some v := by
  obtain ⟨g, cap, hv, _, _⟩ := World.ownsRow.form h h0
  simp only [Value.slice.injEq] at hv
  obtain ⟨rfl, _, _⟩ := hv
  refine ⟨g, rfl, fun i v hi => ?_⟩
  have hlt : i < xs.length := (List.getElem?_eq_some_iff.1 hi).1
  rw [h.1] at hlt
  have c1 := World.ownsRow.cellAt h i hlt
  exact c1.trans hi
/-- Slices that are read: of writes, of texts, of bools. -/
def RdW (w : World) (A : Option Addr) (p : List Wt) : Prop :=
  0 < p.length → ∃ b o, A = some ⟨b, o, none⟩ ∧ ∀ i x, p[i]? = some x → w.cell? ⟨b, o + i * 2, none⟩ = some (.int .i64 x.1) ∧ w.cell? ⟨b, o + i * 2 + 1, none⟩ = some (.string ⟨x.2.toArray⟩)
def RdC (w : World) (A : Option Addr) (p : List Value) : Prop :=
  0 < p.length → ∃ b o, A = some ⟨b, o, none⟩ ∧ ∀ i x, p[i]? = some x → w.cell? ⟨b, o + i, none⟩ = some x
abbrev RdB (w : World) (A : Option Addr) (p : List Bool) : Prop := RdC w A (bcells p)
abbrev RdS (w : World) (A : Option Addr) (p : List Tx) : Prop := RdC w A (scells p)
abbrev OwnW (w : World) (A : Option Addr) (c : Nat) (p : List Wt) : Prop := OwnR w 75 2 A p.length c (wcells p)
theorem OwnR.rdW {w : World} {A : Option Addr} {c : Nat} {p : List Wt} (h : OwnW w A c p) : RdW w A p := fun h0 => by
  obtain ⟨b, rfl, hc⟩ := OwnR.cell h h0
  refine ⟨b, 0, rfl, fun i x hi => ?_⟩
  obtain ⟨h1, h2⟩ := wcells_at p i x hi
  rw [Nat.zero_add]
  exact ⟨hc _ _ h1, hc _ _ h2⟩
theorem RdW.kp {F : Nat → Prop} {w w' : World} {A : Option Addr} {p : List Wt} (h : RdW w A p) (hk : Kp F w w') (hf : ∀ b, rowB A = some b → ¬ F b) : RdW w' A p := fun h0 => by
  obtain ⟨b, o, rfl, hc⟩ := h h0
  have hb : ∀ i v, w.cell? ⟨b, i, none⟩ = some v → w'.cell? ⟨b, i, none⟩ = some v := fun i v hv =>
    (World.cell?_of_block (hk.block b (World.block_lt_of_cell? w _ hv) (hf b rfl))).trans hv
  exact ⟨b, o, rfl, fun i x hi => ⟨hb _ _ (hc i x hi).1, hb _ _ (hc i x hi).2⟩⟩
theorem RdC.below {w w' : World} {A : Option Addr} {p : List Value} (h : RdC w A p) (hb : Below w.heap.size w w') : RdC w' A p := fun h0 => by
  obtain ⟨b, o, e, hc⟩ := h h0
  exact ⟨b, o, e, fun i x hi => (hb.cell (World.block_lt_of_cell? w _ (hc i x hi))).trans (hc i x hi)⟩
theorem RdC.kp {F : Nat → Prop} {w w' : World} {A : Option Addr} {p : List Value} (h : RdC w A p) (hk : Kp F w w') (hf : ∀ b, rowB A = some b → ¬ F b) : RdC w' A p := fun h0 => by
  obtain ⟨b, o, rfl, hc⟩ := h h0
  exact ⟨b, o, rfl, fun i x hi => (World.cell?_of_block (hk.block b (World.block_lt_of_cell? w _ (hc i x hi)) (hf b rfl))).trans (hc i x hi)⟩
theorem OwnR.rdC {w : World} {e n c : Nat} {A : Option Addr} {xs : List Value} (h : OwnR w e 1 A n c xs) : RdC w A xs := fun h0 => by
  have hl := h.1
  obtain ⟨b, rfl, hc⟩ := OwnR.cell h (by omega)
  exact ⟨b, 0, rfl, fun i x hi => by rw [Nat.zero_add]; exact hc i x hi⟩

/-! ### a disk in memory -/
def LimIs (set : Bool) (left : Int) (l : Option Nat) : Prop := (set = false ∧ l = none) ∨ (set = true ∧ l = some left.toNat)
def dcells (set : Bool) (left : Int) (n m1 m2 : Nat) (A : Option Addr) (k c : Nat) : Array Value := #[.bool set, .int .i64 left, .int .i64 n, .map (some m1), .map (some m2), .slice A k c]
structure Dk (w : World) (s : Nat) (F : Nat → Prop) (st : DS) (set : Bool) (left : Int) (m1 m2 : Nat) (A : Option Addr) (c : Nat) (f1 f2 : Nat → Option Tx) (N1 N2 : Nat) : Prop where
  blk : w.heap[s]? = some (.cells (dcells set left st.n m1 m2 A st.pend.length c) 73)
  lim : LimIs set left st.lim
  l1 : -9223372036854775808 ≤ left
  l2 : left ≤ 9223372036854775807
  syn : MapIs w m1 N1 f1
  ahd : MapIs w m2 N2 f2
  ne : m1 ≠ m2
  bs : ∀ i, st.base i = (f1 i).getD []
  la : ∀ i, f2 i = lastOf st.pend i
  own : OwnW w A c st.pend
  F0 : F s
  F1 : F m1
  F2 : F m2
  F3 : ∀ b, rowB A = some b → F b
  n1 : N1 + st.pend.length ≤ st.cnt
  n2 : N2 ≤ st.cnt
  ok : Ok st
def DiskAt (w : World) (s : Nat) (F : Nat → Prop) (st : DS) : Prop := ∃ set left m1 m2 A c f1 f2 N1 N2, Dk w s F st set left m1 m2 A c f1 f2 N1 N2
theorem DiskAt.kp {w w' : World} {s : Nat} {F G : Nat → Prop} {st : DS} (h : DiskAt w s F st) (hk : Kp G w w') (hf : ∀ x, F x → ¬ G x) : DiskAt w' s F st := by
  obtain ⟨set, left, m1, m2, A, c, f1, f2, N1, N2, d⟩ := h
  exact ⟨set, left, m1, m2, A, c, f1, f2, N1, N2, hk.keep d.blk (hf _ d.F0), d.lim, d.l1, d.l2, d.syn.kp hk (hf _ d.F1), d.ahd.kp hk (hf _ d.F2), d.ne, d.bs, d.la, d.own.kp hk (fun b hb => hf _ (d.F3 b hb)), d.F0, d.F1, d.F2, d.F3, d.n1, d.n2, d.ok⟩
theorem DiskAt.ok {w : World} {s : Nat} {F : Nat → Prop} {st : DS} (h : DiskAt w s F st) : Ok st := by
  obtain ⟨set, left, m1, m2, A, c, f1, f2, N1, N2, d⟩ := h
  exact d.ok
/-- The blocks of a disk lie in the heap: so F may be cut there. -/
theorem DiskAt.within {w : World} {s : Nat} {F : Nat → Prop} {st : DS} (h : DiskAt w s F st) : DiskAt w s (fun x => F x ∧ x < w.heap.size) st := by
  obtain ⟨set, left, m1, m2, A, c, f1, f2, N1, N2, d⟩ := h
  exact ⟨set, left, m1, m2, A, c, f1, f2, N1, N2, d.blk, d.lim, d.l1, d.l2, d.syn, d.ahd, d.ne, d.bs, d.la, d.own, ⟨d.F0, lt_of_blk d.blk⟩, ⟨d.F1, d.syn.lt⟩, ⟨d.F2, d.ahd.lt⟩, fun b hb => ⟨d.F3 b hb, OwnR.lt d.own hb⟩, d.n1, d.n2, d.ok⟩
/-- What a method of a disk leaves. -/
def DPost (w : World) (s : Nat) (F : Nat → Prop) (st : DS) (v : Value) (e : Ending) (w' : World) : Prop := e = .returned v ∧ Kp F w w' ∧ ∃ F', DiskAt w' s F' st ∧ ∀ x, F' x → F x ∨ w.heap.size ≤ x

end Go.Proofs.YtmggpockikcjjaaGreatDoor.Dsk

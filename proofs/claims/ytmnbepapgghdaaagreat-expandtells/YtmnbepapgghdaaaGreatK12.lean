/-
  Rows that grow beside each other: the document's tokens, notes, texts.
  Memory of macros, each body in blocks that satisfy a predicate.
  The document's Drop and Get of macros, bodies in blocks that satisfy a predicate.
-/
import Derived.Test.YtmnbepapgghdaaaGreatK11
namespace Go.Proofs.YtmnbepapgghdaaaGreat
open Go.RowKit

theorem Tryz.info86 : (Tryz.prog.info? 86).map (fun i => (i.zero, i.size, i.bytes)) = some (some (.agg #[.int .i64 0, .string ⟨#[]⟩]), 2, 24) := by kernel_rfl
theorem Tryz.info9' : (Tryz.prog.info? 9).map (fun i => (i.zero, i.size, i.bytes)) = some (some (.string ⟨#[]⟩), 1, 16) := by kernel_rfl
/-- These blocks are kept. -/
def Kept (p : Nat → Prop) (w w' : World) : Prop := ∀ b, p b → b < w.heap.size → w'.heap[b]? = w.heap[b]?
theorem cell_keep {w w' : World} {p : Nat → Prop} (hk : Kept p w w') {q : Addr} {v : Value} (hp : p q.block) (h : w.cell? q = some v) : w'.cell? q = some v := by
  have hs := hk q.block hp (World.block_lt_of_cell? w q h)
  rw [← h]; simp only [World.cell?, hs]
theorem kept_below {w w' : World} (p : Nat → Prop) (hb : Below w.heap.size w w') : Kept p w w' := fun b _ h => hb.block b h
theorem kept_set (w : World) {p : Nat → Prop} {q : Addr} (v : Value) (hp : ¬ p q.block) : Kept p w (w.setCell q v) := fun b h _ => heap_setCell_other w q b v (fun e => hp (by rw [← e]; exact h))
theorem kept_grown {w w' : World} {row : Option Nat} {p : Nat → Prop} (h : w.grownBy w' row) (hp : ∀ b, p b → some b ≠ row) : Kept p w w' := fun b hb hl => by
  obtain ⟨_, _, _, _, hk⟩ := h
  exact hk b hl (hp b hb)
theorem run_append_dt (w : World) (base : Nat) (ty : TypeId) (C : Option Addr) (cc : Nat) (xs : List Tok) (hown : Own 82 w base C cc xs) (A : Option Addr) (c : Nat) (gs : List Tok) (hr : Rd w A gs)
    (hlen : xs.length + gs.length ≤ 200000) (hbase : base ≤ w.heap.size) :
    ∃ A' c' w', (Builtin.append_ #[35, 35] ty #[.slice C xs.length cc, .slice A gs.length c]).run Tryz.prog w = .ok (.slice A' (xs ++ gs).length c') w' ∧ Own 82 w' base A' c' (xs ++ gs) ∧ w.grownBy w' (Value.slice C xs.length cc).ownBlock ∧
      ((Value.slice A' (xs ++ gs).length c').ownBlock = (Value.slice C xs.length cc).ownBlock ∨ (Value.slice A' (xs ++ gs).length c').ownBlock = some w.heap.size) := by
  obtain ⟨i0, hi, hz0, hz1, hz2⟩ := info_parts Tryz.info82
  have main : ∀ (ad : Addr), (∀ j u, (fcells gs)[j]? = some u → w.cell? (ad.add j) = some u) →
      ∃ A' c' w', (Builtin.append_ #[35, 35] ty #[.slice C xs.length cc, .slice (some ad) gs.length c]).run Tryz.prog w = .ok (.slice A' (xs ++ gs).length c') w' ∧ Own 82 w' base A' c' (xs ++ gs) ∧ w.grownBy w' (Value.slice C xs.length cc).ownBlock ∧
      ((Value.slice A' (xs ++ gs).length c').ownBlock = (Value.slice C xs.length cc).ownBlock ∨ (Value.slice A' (xs ++ gs).length c').ownBlock = some w.heap.size) := fun ad hn => by
    obtain ⟨v', w', h1, h2, h3, _, h5⟩ := run_append_own_at (P := Tryz.prog) w base 35 ty 82 i0 _ 2 24 Tryz.underlying35 hi hz0 hz1 hz2 rfl (by decide) (.slice C xs.length cc) xs.length (fcells xs) hown ad gs.length c (fcells gs) (fcells_len gs) hn (fcells_one gs)
      (by unfold maxLen; omega) (by omega) hbase
    rw [← fcells_app] at h2
    obtain ⟨A', c', rfl⟩ := own_shape h2
    rw [← List.length_append] at h2 h1 h5
    exact ⟨A', c', w', h1, h2, h3, h5⟩
  cases A with
  | none =>
    have hg : gs = [] := by
      rcases Nat.eq_zero_or_pos gs.length with h | h
      · exact List.length_eq_zero_iff.1 h
      · obtain ⟨b, o, e, _⟩ := hr h; cases e
    subst hg
    refine ⟨C, cc, w, ?_, ?_, ⟨rfl, rfl, rfl, Nat.le_refl _, fun _ _ _ => rfl⟩, ?_⟩
    · rw [List.append_nil]; exact run_append_none w base 35 ty 82 i0 2 c Tryz.underlying35 hi _ _ _ hown
    · rw [List.append_nil]; exact hown
    · rw [List.append_nil]; exact .inl rfl
  | some ad =>
    rcases Nat.eq_zero_or_pos gs.length with h | h
    · have hg := List.length_eq_zero_iff.1 h
      subst hg
      exact main ad fun j u hu => by simp [fcells] at hu
    · obtain ⟨b, o, e, hc⟩ := hr h
      cases e
      exact main _ (Rd.news hc)
theorem wpList_append_dt {ops : Array Oper} {rest : List Oper} {o : Oper} {a : Act} {Q : Exit → Act → World → Prop} (w : World) (hgd : o.guard = none) (s x : Operand)
    (ho : o.op = .call { callee := .builtin .append, args := #[s, x], argTypes := #[35, 35] }) (base : Nat) (C : Option Addr) (cc : Nat) (xs : List Tok) (hs : a.eval s = .slice C xs.length cc) (hown : Own 82 w base C cc xs)
    (A : Option Addr) (m c : Nat) (gs : List Tok) (hm : m = gs.length) (hx : a.eval x = .slice A m c) (hr : Rd w A gs) (hlen : xs.length + gs.length ≤ 200000) (hbase : base ≤ w.heap.size) (r : List Tok) (hr0 : xs ++ gs = r)
    (h : ∀ A' c' w', Own 82 w' base A' c' r → w.grownBy w' (Value.slice C xs.length cc).ownBlock → ((Value.slice A' r.length c').ownBlock = (Value.slice C xs.length cc).ownBlock ∨ (Value.slice A' r.length c').ownBlock = some w.heap.size) → wpList Tryz.prog ops Q rest (a.put o.dst (.slice A' r.length c')) w') : wpList Tryz.prog ops Q (o :: rest) a w := by
  subst hm hr0
  refine wpList_plain hgd fun K hK => ?_
  obtain ⟨A', c', w', hrun, h2, h3, h4⟩ := run_append_dt w base o.type C cc xs hown A c gs hr hlen hbase
  unfold Oper.wp
  simp only [execOp, ho, resolve, invoke, builtin, Sem.run_bind, Sem.run_pure, Result.andThen_ok, List.map_toArray, List.map_cons, List.map_nil, hs, hx, hrun]
  exact hK _ _ (h A' c' w' h2 h3 h4)
theorem run_append_n (w : World) (base : Nat) (ty : TypeId) (C : Option Addr) (cc : Nat) (xs : List Tok) (hown : Own 86 w base C cc xs) (A : Option Addr) (c : Nat) (gs : List Tok) (hr : Rd w A gs)
    (hlen : xs.length + gs.length ≤ 200000) (hbase : base ≤ w.heap.size) :
    ∃ A' c' w', (Builtin.append_ #[29, 29] ty #[.slice C xs.length cc, .slice A gs.length c]).run Tryz.prog w = .ok (.slice A' (xs ++ gs).length c') w' ∧ Own 86 w' base A' c' (xs ++ gs) ∧ w.grownBy w' (Value.slice C xs.length cc).ownBlock ∧
      ((Value.slice A' (xs ++ gs).length c').ownBlock = (Value.slice C xs.length cc).ownBlock ∨ (Value.slice A' (xs ++ gs).length c').ownBlock = some w.heap.size) := by
  obtain ⟨i0, hi, hz0, hz1, hz2⟩ := info_parts Tryz.info86
  have main : ∀ (ad : Addr), (∀ j u, (fcells gs)[j]? = some u → w.cell? (ad.add j) = some u) →
      ∃ A' c' w', (Builtin.append_ #[29, 29] ty #[.slice C xs.length cc, .slice (some ad) gs.length c]).run Tryz.prog w = .ok (.slice A' (xs ++ gs).length c') w' ∧ Own 86 w' base A' c' (xs ++ gs) ∧ w.grownBy w' (Value.slice C xs.length cc).ownBlock ∧
      ((Value.slice A' (xs ++ gs).length c').ownBlock = (Value.slice C xs.length cc).ownBlock ∨ (Value.slice A' (xs ++ gs).length c').ownBlock = some w.heap.size) := fun ad hn => by
    obtain ⟨v', w', h1, h2, h3, _, h5⟩ := run_append_own_at (P := Tryz.prog) w base 29 ty 86 i0 _ 2 24 Tryz.underlying29 hi hz0 hz1 hz2 rfl (by decide) (.slice C xs.length cc) xs.length (fcells xs) hown ad gs.length c (fcells gs) (fcells_len gs) hn (fcells_one gs)
      (by unfold maxLen; omega) (by omega) hbase
    rw [← fcells_app] at h2
    obtain ⟨A', c', rfl⟩ := own_shape h2
    rw [← List.length_append] at h2 h1 h5
    exact ⟨A', c', w', h1, h2, h3, h5⟩
  cases A with
  | none =>
    have hg : gs = [] := by
      rcases Nat.eq_zero_or_pos gs.length with h | h
      · exact List.length_eq_zero_iff.1 h
      · obtain ⟨b, o, e, _⟩ := hr h; cases e
    subst hg
    refine ⟨C, cc, w, ?_, ?_, ⟨rfl, rfl, rfl, Nat.le_refl _, fun _ _ _ => rfl⟩, ?_⟩
    · rw [List.append_nil]; exact run_append_none w base 29 ty 86 i0 2 c Tryz.underlying29 hi _ _ _ hown
    · rw [List.append_nil]; exact hown
    · rw [List.append_nil]; exact .inl rfl
  | some ad =>
    rcases Nat.eq_zero_or_pos gs.length with h | h
    · have hg := List.length_eq_zero_iff.1 h
      subst hg
      exact main ad fun j u hu => by simp [fcells] at hu
    · obtain ⟨b, o, e, hc⟩ := hr h
      cases e
      exact main _ (Rd.news hc)
theorem wpList_append_n {ops : Array Oper} {rest : List Oper} {o : Oper} {a : Act} {Q : Exit → Act → World → Prop} (w : World) (hgd : o.guard = none) (s x : Operand)
    (ho : o.op = .call { callee := .builtin .append, args := #[s, x], argTypes := #[29, 29] }) (base : Nat) (C : Option Addr) (cc : Nat) (xs : List Tok) (hs : a.eval s = .slice C xs.length cc) (hown : Own 86 w base C cc xs)
    (A : Option Addr) (m c : Nat) (gs : List Tok) (hm : m = gs.length) (hx : a.eval x = .slice A m c) (hr : Rd w A gs) (hlen : xs.length + gs.length ≤ 200000) (hbase : base ≤ w.heap.size) (r : List Tok) (hr0 : xs ++ gs = r)
    (h : ∀ A' c' w', Own 86 w' base A' c' r → w.grownBy w' (Value.slice C xs.length cc).ownBlock → ((Value.slice A' r.length c').ownBlock = (Value.slice C xs.length cc).ownBlock ∨ (Value.slice A' r.length c').ownBlock = some w.heap.size) → wpList Tryz.prog ops Q rest (a.put o.dst (.slice A' r.length c')) w') : wpList Tryz.prog ops Q (o :: rest) a w := by
  subst hm hr0
  refine wpList_plain hgd fun K hK => ?_
  obtain ⟨A', c', w', hrun, h2, h3, h4⟩ := run_append_n w base o.type C cc xs hown A c gs hr hlen hbase
  unfold Oper.wp
  simp only [execOp, ho, resolve, invoke, builtin, Sem.run_bind, Sem.run_pure, Result.andThen_ok, List.map_toArray, List.map_cons, List.map_nil, hs, hx, hrun]
  exact hK _ _ (h A' c' w' h2 h3 h4)

def tcells (xs : List By) : List Value := xs.map fun x => .string ⟨x.toArray⟩
/-- A row of texts of one's own. -/
def OwnT (w : World) (base : Nat) (A : Option Addr) (c : Nat) (xs : List By) : Prop := w.ownsRow base 9 1 (.slice A xs.length c) xs.length (tcells xs)
theorem tcells_at {xs : List By} {i : Nat} {x : By} (h : xs[i]? = some x) : (tcells xs)[i]? = some (.string ⟨x.toArray⟩) := by unfold tcells; rw [List.getElem?_map, h]; rfl
theorem OwnT.rd {w : World} {base : Nat} {A : Option Addr} {c : Nat} {xs : List By} (h : OwnT w base A c xs) : RdS w A xs := fun h0 => by
  obtain ⟨g, cap, hv, _, _⟩ := World.ownsRow.form h h0
  simp only [Value.slice.injEq] at hv
  obtain ⟨rfl, _, _⟩ := hv
  refine ⟨g, 0, rfl, fun i f hi => ?_⟩
  have hlt : i < xs.length := (List.getElem?_eq_some_iff.1 hi).1
  have c1 := World.ownsRow.cellAt h i (by omega)
  rw [tcells_at hi] at c1
  simpa using c1
theorem run_append_t (w : World) (base : Nat) (ty : TypeId) (C : Option Addr) (cc : Nat) (xs : List By) (hown : OwnT w base C cc xs) (q : Nat) (c : Nat) (g : By) (hr : w.cell? ⟨q, 0, none⟩ = some (.string ⟨g.toArray⟩))
    (hlen : xs.length + 1 ≤ 200000) (hbase : base ≤ w.heap.size) :
    ∃ A' c' w', (Builtin.append_ #[28, 28] ty #[.slice C xs.length cc, .slice (some ⟨q, 0, none⟩) 1 c]).run Tryz.prog w = .ok (.slice A' (xs ++ [g]).length c') w' ∧ OwnT w' base A' c' (xs ++ [g]) ∧ w.grownBy w' (Value.slice C xs.length cc).ownBlock ∧
      ((Value.slice A' (xs ++ [g]).length c').ownBlock = (Value.slice C xs.length cc).ownBlock ∨ (Value.slice A' (xs ++ [g]).length c').ownBlock = some w.heap.size) := by
  obtain ⟨i0, hi, hz0, hz1, hz2⟩ := info_parts Tryz.info9'
  obtain ⟨v', w', h1, h2, h3, _, h5⟩ := run_append_own_at (P := Tryz.prog) w base 28 ty 9 i0 _ 1 16 Tryz.underlying28 hi hz0 hz1 hz2 rfl (by decide) (.slice C xs.length cc) xs.length (tcells xs) hown ⟨q, 0, none⟩ 1 c (tcells [g]) rfl
    (fun j u hu => by
      match j, hu with
      | 0, hu => simp [tcells] at hu; subst hu; simpa [Addr.add] using hr
      | j + 1, hu => simp [tcells] at hu) (fun u hu => by simp [tcells] at hu; subst hu; rfl)
    (by unfold maxLen; omega) (by omega) hbase
  have e : tcells xs ++ tcells [g] = tcells (xs ++ [g]) := by simp [tcells]
  rw [e] at h2
  obtain ⟨A', c', rfl⟩ := own_shape h2
  have e2 : xs.length + 1 = (xs ++ [g]).length := by simp
  rw [e2] at h2 h1 h5
  exact ⟨A', c', w', h1, h2, h3, h5⟩
theorem wpList_append_t {ops : Array Oper} {rest : List Oper} {o : Oper} {a : Act} {Q : Exit → Act → World → Prop} (w : World) (hgd : o.guard = none) (s x : Operand)
    (ho : o.op = .call { callee := .builtin .append, args := #[s, x], argTypes := #[28, 28] }) (base : Nat) (C : Option Addr) (cc : Nat) (xs : List By) (hs : a.eval s = .slice C xs.length cc) (hown : OwnT w base C cc xs)
    (q c : Nat) (g : By) (hx : a.eval x = .slice (some ⟨q, 0, none⟩) 1 c) (hr : w.cell? ⟨q, 0, none⟩ = some (.string ⟨g.toArray⟩)) (hlen : xs.length + 1 ≤ 200000) (hbase : base ≤ w.heap.size) (r : List By) (hr0 : xs ++ [g] = r)
    (h : ∀ A' c' w', OwnT w' base A' c' r → w.grownBy w' (Value.slice C xs.length cc).ownBlock → ((Value.slice A' r.length c').ownBlock = (Value.slice C xs.length cc).ownBlock ∨ (Value.slice A' r.length c').ownBlock = some w.heap.size) → wpList Tryz.prog ops Q rest (a.put o.dst (.slice A' r.length c')) w') : wpList Tryz.prog ops Q (o :: rest) a w := by
  subst hr0
  refine wpList_plain hgd fun K hK => ?_
  obtain ⟨A', c', w', hrun, h2, h3, h4⟩ := run_append_t w base o.type C cc xs hown q c g hr hlen hbase
  unfold Oper.wp
  simp only [execOp, ho, resolve, invoke, builtin, Sem.run_bind, Sem.run_pure, Result.andThen_ok, List.map_toArray, List.map_cons, List.map_nil, hs, hx, hrun]
  exact hK _ _ (h A' c' w' h2 h3 h4)
end Go.Proofs.YtmnbepapgghdaaaGreat

namespace Go.Proofs.YtmnbepapgghdaaaGreat.Pq
open Go.RowKit

/-- In another block than that one, and in such a block. -/
def Far (P : Nat → Prop) (g : Option Nat) (B : Option Addr) : Prop := ∀ a, B = some a → some a.block ≠ g ∧ P a.block
/-- Cells that hold these macros. -/
def HoldM (P : Nat → Prop) (w : World) (g : Option Nat) : List Ml → List Value → Prop
  | [], cs => cs = []
  | m :: r, cs => ∃ (B : Option Addr) (d : Nat) (cs' : List Value), cs = .string ⟨m.1.toArray⟩ :: .int .i64 m.2.1 :: .slice B m.2.2.length d :: cs' ∧ Rd w B m.2.2 ∧ (0 < m.2.2.length → Far P g B) ∧ HoldM P w g r cs'
theorem HoldM.len {P : Nat → Prop} {w : World} {g : Option Nat} : ∀ {ms : List Ml} {cs : List Value}, HoldM P w g ms cs → cs.length = ms.length * 3
  | [], cs, h => by
    have h' : cs = [] := h
    rw [h']; rfl
  | m :: r, cs, h => by
    obtain ⟨B, d, cs', rfl, _, _, h2⟩ := h
    have := h2.len
    simp only [List.length_cons, this]; omega
theorem HoldM.app {P : Nat → Prop} {w : World} {g : Option Nat} : ∀ {a b : List Ml} {ca cb : List Value}, HoldM P w g a ca → HoldM P w g b cb → HoldM P w g (a ++ b) (ca ++ cb)
  | [], b, ca, cb, h, k => by
    have h' : ca = [] := h
    subst h'; exact k
  | m :: r, b, ca, cb, h, k => by
    obtain ⟨B, d, cs', rfl, h1, h2, h3⟩ := h
    exact ⟨B, d, cs' ++ cb, rfl, h1, h2, h3.app k⟩
theorem HoldM.at {P : Nat → Prop} {w : World} {g : Option Nat} : ∀ {ms : List Ml} {cs : List Value} {i : Nat} {m : Ml}, HoldM P w g ms cs → ms[i]? = some m → ∃ (B : Option Addr) (d : Nat), cs[i * 3]? = some (.string ⟨m.1.toArray⟩) ∧ cs[i * 3 + 1]? = some (.int .i64 m.2.1) ∧ cs[i * 3 + 2]? = some (.slice B m.2.2.length d) ∧ Rd w B m.2.2 ∧ (0 < m.2.2.length → Far P g B)
  | [], _, i, m, _, hi => by simp at hi
  | a :: r, cs, 0, m, h, hi => by
    simp at hi; subst hi
    obtain ⟨B, d, cs', rfl, h1, h2, _⟩ := h
    exact ⟨B, d, rfl, rfl, rfl, h1, h2⟩
  | a :: r, cs, i + 1, m, h, hi => by
    obtain ⟨B0, d0, cs', rfl, _, _, h3⟩ := h
    obtain ⟨B, d, k1, k2, k3, k4, k5⟩ := h3.at (i := i) (by simpa using hi)
    refine ⟨B, d, ?_, ?_, ?_, k4, k5⟩
    · rw [show (i + 1) * 3 = i * 3 + 1 + 1 + 1 by omega]; simpa using k1
    · rw [show (i + 1) * 3 + 1 = i * 3 + 1 + 1 + 1 + 1 by omega]; simpa using k2
    · rw [show (i + 1) * 3 + 2 = i * 3 + 2 + 1 + 1 + 1 by omega]; simpa using k3
theorem HoldM.map {P : Nat → Prop} {w w' : World} {g g' : Option Nat} (k : ∀ B l, Rd w B l → (0 < l.length → Far P g B) → Rd w' B l ∧ (0 < l.length → Far P g' B)) : ∀ {ms : List Ml} {cs : List Value}, HoldM P w g ms cs → HoldM P w' g' ms cs
  | [], _, h => h
  | m :: r, _, h => by
    obtain ⟨B, d, cs', rfl, h1, h2, h3⟩ := h
    obtain ⟨q1, q2⟩ := k B m.2.2 h1 h2
    exact ⟨B, d, cs', rfl, q1, q2, h3.map k⟩
theorem HoldM.one {P : Nat → Prop} {w : World} {g : Option Nat} : ∀ {ms : List Ml} {cs : List Value}, HoldM P w g ms cs → ∀ u ∈ cs, u.oneCell' = true
  | [], _, h, u, hu => by
    have h' : _ = [] := h
    subst h'; cases hu
  | m :: r, _, h, u, hu => by
    obtain ⟨B, d, cs', rfl, h1, h2, h3⟩ := h
    simp only [List.mem_cons] at hu
    rcases hu with rfl | rfl | rfl | hu
    · rfl
    · rfl
    · rfl
    · exact h3.one u hu
theorem HoldM.drop {P : Nat → Prop} {w : World} {g : Option Nat} : ∀ (k : Nat) {ms : List Ml} {cs : List Value}, HoldM P w g ms cs → HoldM P w g (ms.drop k) (cs.drop (k * 3))
  | 0, ms, cs, h => by simpa using h
  | k + 1, [], cs, h => by
    have h' : cs = [] := h
    subst h'; simp; rfl
  | k + 1, m :: r, _, h => by
    obtain ⟨B, d, cs', rfl, h1, h2, h3⟩ := h
    rw [show (k + 1) * 3 = k * 3 + 1 + 1 + 1 by omega]
    simpa using h3.drop k
theorem HoldM.take {P : Nat → Prop} {w : World} {g : Option Nat} : ∀ (k : Nat) {ms : List Ml} {cs : List Value}, HoldM P w g ms cs → HoldM P w g (ms.take k) (cs.take (k * 3))
  | 0, ms, cs, h => by simp; rfl
  | k + 1, [], cs, h => by
    have h' : cs = [] := h
    subst h'; simp; rfl
  | k + 1, m :: r, _, h => by
    obtain ⟨B, d, cs', rfl, h1, h2, h3⟩ := h
    rw [show (k + 1) * 3 = k * 3 + 1 + 1 + 1 by omega]
    exact ⟨B, d, cs'.take (k * 3), by simp, h1, h2, h3.take k⟩
theorem HoldM.put {P : Nat → Prop} {w : World} {g : Option Nat} : ∀ {ms : List Ml} {cs : List Value} {i : Nat} {m : Ml} (B : Option Addr) (d : Nat), HoldM P w g ms cs → ms[i]? = some m → Rd w B m.2.2 → (0 < m.2.2.length → Far P g B) → HoldM P w g ms (cs.set (i * 3 + 2) (.slice B m.2.2.length d))
  | [], _, i, m, B, d, _, hi, _, _ => by simp at hi
  | a :: r, cs, 0, m, B, d, h, hi, hr, hf => by
    simp at hi; subst hi
    obtain ⟨B0, d0, cs', rfl, h1, h2, h3⟩ := h
    exact ⟨B, d, cs', rfl, hr, hf, h3⟩
  | a :: r, cs, i + 1, m, B, d, h, hi, hr, hf => by
    obtain ⟨B0, d0, cs', rfl, h1, h2, h3⟩ := h
    refine ⟨B0, d0, cs'.set (i * 3 + 2) (.slice B m.2.2.length d), ?_, h1, h2, h3.put B d (by simpa using hi) hr hf⟩
    rw [show (i + 1) * 3 + 2 = i * 3 + 2 + 1 + 1 + 1 by omega]; rfl

/-- The slice at A reads as these macros; no body lies in that block. -/
def RdMF (P : Nat → Prop) (w : World) (g : Option Nat) (A : Option Addr) (ms : List Ml) : Prop :=
  0 < ms.length → ∃ b o cs, A = some ⟨b, o, none⟩ ∧ HoldM P w g ms cs ∧ ∀ j u, cs[j]? = some u → w.cell? ⟨b, o + j, none⟩ = some u
abbrev RdM (P : Nat → Prop) (w : World) (A : Option Addr) (ms : List Ml) : Prop := RdMF P w none A ms
theorem RdMF.cells {P : Nat → Prop} {w : World} {g : Option Nat} {A : Option Addr} {ms : List Ml} (h : RdMF P w g A ms) (h0 : 0 < ms.length) :
    ∃ b o, A = some ⟨b, o, none⟩ ∧ ∀ i m, ms[i]? = some m → ∃ (B : Option Addr) (d : Nat), w.cell? ⟨b, o + i * 3, none⟩ = some (.string ⟨m.1.toArray⟩) ∧ w.cell? ⟨b, o + i * 3 + 1, none⟩ = some (.int .i64 m.2.1) ∧ w.cell? ⟨b, o + i * 3 + 2, none⟩ = some (.slice B m.2.2.length d) ∧ Rd w B m.2.2 ∧ (0 < m.2.2.length → ∀ a, B = some a → P a.block) := by
  obtain ⟨b, o, cs, rfl, hh, hc⟩ := h h0
  refine ⟨b, o, rfl, fun i m hi => ?_⟩
  obtain ⟨B, d, k1, k2, k3, k4, k5⟩ := hh.at hi
  exact ⟨B, d, hc _ _ k1, hc _ _ k2, hc _ _ k3, k4, fun h1 a ha => (k5 h1 a ha).2⟩
theorem RdMF.below {P : Nat → Prop} {w w' : World} {g : Option Nat} {A : Option Addr} {ms : List Ml} (h : RdMF P w g A ms) (hb : Below w.heap.size w w') : RdMF P w' g A ms := fun h0 => by
  obtain ⟨b, o, cs, e, hh, hc⟩ := h h0
  exact ⟨b, o, cs, e, hh.map fun B l r f => ⟨r.below hb, f⟩, fun j u hu => cell_below hb (hc j u hu)⟩
theorem RdMF.drewN {P : Nat → Prop} {w : World} {g : Option Nat} {A : Option Addr} {ms : List Ml} (h : RdMF P w g A ms) (n : Nat) : RdMF P (w.drewN n) g A ms := h.below (drewN_below w n)
theorem RdMF.plain {P : Nat → Prop} {w : World} {g : Option Nat} {A : Option Addr} {ms : List Ml} (h : RdMF P w g A ms) : RdM P w A ms := fun h0 => by
  obtain ⟨b, o, cs, e, hh, hc⟩ := h h0
  exact ⟨b, o, cs, e, hh.map fun B l r f => ⟨r, fun h1 a ha => ⟨fun e => (by cases e), (f h1 a ha).2⟩⟩, hc⟩
theorem RdMF.empty {P : Nat → Prop} (w : World) (g : Option Nat) (A : Option Addr) : RdMF P w g A [] := fun h => absurd h (by simp)

/-- What was there before a block was made lies in another one. -/
theorem RdMF.later {P : Nat → Prop} {w w' : World} {g g' : Option Nat} {A : Option Addr} {ms : List Ml} (h : RdMF P w g A ms) (hb : Below w.heap.size w w') (hg : ∀ k, g' = some k → w.heap.size ≤ k) : RdMF P w' g' A ms := fun h0 => by
  obtain ⟨b, o, cs, e, hh, hc⟩ := h h0
  refine ⟨b, o, cs, e, hh.map fun B l r f => ⟨r.below hb, fun h1 a ha => ⟨fun e => ?_, (f h1 a ha).2⟩⟩, fun j u hu => cell_below hb (hc j u hu)⟩
  have := rd_lt r h1 a ha
  have := hg _ e.symm
  omega
theorem RdMF.part {P : Nat → Prop} {w : World} {g : Option Nat} {A : Option Addr} {ms : List Ml} (h : RdMF P w g A ms) {l c : Nat} (hm : l ≤ ms.length) (hc : ms.length ≤ c) : RdMF P w g (cutS 3 A c l) (ms.drop l) := fun h0 => by
  rw [List.length_drop] at h0
  obtain ⟨b, o, cs, rfl, hh, hcell⟩ := h (by omega)
  unfold cutS
  rw [if_neg (by omega), Option.map_some, add_lit]
  refine ⟨b, o + l * 3, cs.drop (l * 3), rfl, hh.drop l, fun j u hu => ?_⟩
  rw [List.getElem?_drop] at hu
  rw [Nat.add_assoc]
  exact hcell _ _ hu
theorem RdMF.take {P : Nat → Prop} {w : World} {g : Option Nat} {A : Option Addr} {ms : List Ml} (h : RdMF P w g A ms) (k : Nat) : RdMF P w g A (ms.take k) := fun h0 => by
  rw [List.length_take] at h0
  obtain ⟨b, o, cs, rfl, hh, hcell⟩ := h (by omega)
  refine ⟨b, o, cs.take (k * 3), rfl, hh.take k, fun j u hu => ?_⟩
  rw [List.getElem?_take] at hu
  split at hu
  · exact hcell _ _ hu
  · cases hu
theorem one_readM {P : Nat → Prop} {w : World} {g : Option Nat} {b : Nat} {m : Ml} {B : Option Addr} {d : Nat} (h1 : w.cell? ⟨b, 0, none⟩ = some (.string ⟨m.1.toArray⟩)) (h2 : w.cell? ⟨b, 1, none⟩ = some (.int .i64 m.2.1)) (h3 : w.cell? ⟨b, 2, none⟩ = some (.slice B m.2.2.length d))
    (hr : Rd w B m.2.2) (hf : 0 < m.2.2.length → Far P g B) : RdMF P w g (some ⟨b, 0, none⟩) [m] := fun _ =>
  ⟨b, 0, [.string ⟨m.1.toArray⟩, .int .i64 m.2.1, .slice B m.2.2.length d], rfl, ⟨B, d, [], rfl, hr, hf, rfl⟩, fun j u hu => by
    rw [Nat.zero_add]
    match j, hu with
    | 0, hu => simp at hu; subst hu; exact h1
    | 1, hu => simp at hu; subst hu; exact h2
    | 2, hu => simp at hu; subst hu; exact h3
    | j + 3, hu => simp at hu⟩

/-- A row of one's own that holds these macros, each body in another block. -/
def OwnM (P : Nat → Prop) (t : TypeId) (w : World) (base : Nat) (A : Option Addr) (c : Nat) (ms : List Ml) : Prop :=
  ∃ cs : List Value, w.ownsRow base t 3 (Value.slice A ms.length c) ms.length cs ∧ HoldM P w (Value.slice A ms.length c).ownBlock ms cs
theorem OwnM.below {P : Nat → Prop} {t : TypeId} {w w' : World} {base : Nat} {A : Option Addr} {c : Nat} {ms : List Ml} (h : OwnM P t w base A c ms) (hb : Below w.heap.size w w') : OwnM P t w' base A c ms := by
  obtain ⟨cs, hown, hh⟩ := h
  exact ⟨cs, own_row_below hown hb, hh.map fun B l r f => ⟨r.below hb, f⟩⟩
theorem OwnM.lt {P : Nat → Prop} {t : TypeId} {w : World} {base : Nat} {A : Option Addr} {c : Nat} {ms : List Ml} (h : OwnM P t w base A c ms) : ∀ g, (Value.slice A ms.length c).ownBlock = some g → g < w.heap.size := fun g hg => by
  obtain ⟨cs, hown, _⟩ := h
  exact (hown.lt g hg).2
theorem OwnM.ge {P : Nat → Prop} {t : TypeId} {w : World} {base : Nat} {A : Option Addr} {c : Nat} {ms : List Ml} (h : OwnM P t w base A c ms) : ∀ g, (Value.slice A ms.length c).ownBlock = some g → base ≤ g := fun g hg => by
  obtain ⟨cs, hown, _⟩ := h
  exact (hown.lt g hg).1
theorem OwnM.mono {P : Nat → Prop} {t : TypeId} {w : World} {base base' : Nat} {A : Option Addr} {c : Nat} {ms : List Ml} (h : OwnM P t w base A c ms) (hb : base' ≤ base) : OwnM P t w base' A c ms := by
  obtain ⟨cs, ⟨h1, h2⟩, hh⟩ := h
  refine ⟨cs, ⟨h1, ?_⟩, hh⟩
  rcases h2 with q | ⟨g, cap, cur, k1, k2, r⟩
  · exact .inl q
  · exact .inr ⟨g, cap, cur, k1, Nat.le_trans hb k2, r⟩
theorem OwnM.rd {P : Nat → Prop} {t : TypeId} {w : World} {base : Nat} {A : Option Addr} {c : Nat} {ms : List Ml} (h : OwnM P t w base A c ms) : RdMF P w (Value.slice A ms.length c).ownBlock A ms := fun h0 => by
  obtain ⟨cs, hown, hh⟩ := h
  obtain ⟨g, cap, hv, _, _⟩ := World.ownsRow.form hown h0
  have hv0 := hv
  simp only [Value.slice.injEq] at hv
  obtain ⟨rfl, _, rfl⟩ := hv
  refine ⟨g, 0, cs, rfl, hh, fun j u hu => ?_⟩
  have hj : j < cs.length := (List.getElem?_eq_some_iff.1 hu).1
  rw [hh.len] at hj
  rw [Nat.zero_add]
  exact (World.ownsRow.cellAt hown j hj).trans hu
theorem OwnM.cap {P : Nat → Prop} {t : TypeId} {w : World} {base : Nat} {A : Option Addr} {c : Nat} {ms : List Ml} (h : OwnM P t w base A c ms) : ms.length ≤ c ∧ c ≤ 9223372036854775807 := by
  obtain ⟨cs, hown, _⟩ := h
  rcases hown.2 with ⟨hv, h0⟩ | ⟨g, cap, cur, hv, _, _, h1, h2, _⟩
  · simp only [Value.slice.injEq] at hv
    obtain ⟨rfl, _, rfl⟩ := hv
    exact ⟨by omega, by omega⟩
  · simp only [Value.slice.injEq] at hv
    obtain ⟨rfl, _, rfl⟩ := hv
    unfold maxLen at h2
    exact ⟨h1, by omega⟩
theorem ownM_empty {P : Nat → Prop} (t : TypeId) (w : World) : OwnM P t (w.alloc (.cells #[] t)) w.heap.size (some ⟨w.heap.size, 0, none⟩) 0 [] :=
  ⟨[], World.ownsRow_lit w #[] 0 (Nat.le_refl _) (by unfold maxLen; omega) (by simp), rfl⟩
theorem ownM_nil {P : Nat → Prop} (t : TypeId) (w : World) (base : Nat) : OwnM P t w base none 0 [] := ⟨[], ⟨rfl, .inl ⟨rfl, rfl⟩⟩, rfl⟩
theorem run_append_m {P : Nat → Prop} (T E : TypeId) (hT : Tryz.prog.underlying T = some (.slice E)) (hI : (Tryz.prog.info? E).map (fun i => (i.zero, i.size, i.bytes)) = some (some (.agg #[.string ⟨#[]⟩, .int .i64 0, .slice none 0 0]), 3, 48))
    (w : World) (base : Nat) (ty : TypeId) (A : Option Addr) (c : Nat) (ms : List Ml) (hown : OwnM P E w base A c ms) (D : Option Addr) (d : Nat) (gs : List Ml) (hr : RdMF P w (Value.slice A ms.length c).ownBlock D gs)
    (hlen : ms.length + gs.length ≤ 200000) (hbase : base ≤ w.heap.size) :
    ∃ A' c' w', (Builtin.append_ #[T, T] ty #[.slice A ms.length c, .slice D gs.length d]).run Tryz.prog w = .ok (.slice A' (ms ++ gs).length c') w' ∧ OwnM P E w' base A' c' (ms ++ gs) ∧ Below base w w' := by
  obtain ⟨i0, hi, hz0, hz1, hz2⟩ := info_parts hI
  obtain ⟨cs, ho, hcs⟩ := hown
  have main : ∀ (ad : Addr) (cs2 : List Value), HoldM P w (Value.slice A ms.length c).ownBlock gs cs2 → (∀ j u, cs2[j]? = some u → w.cell? (ad.add j) = some u) →
      ∃ A' c' w', (Builtin.append_ #[T, T] ty #[.slice A ms.length c, .slice (some ad) gs.length d]).run Tryz.prog w = .ok (.slice A' (ms ++ gs).length c') w' ∧ OwnM P E w' base A' c' (ms ++ gs) ∧ Below base w w' := fun ad cs2 hh hn => by
    obtain ⟨v', w', h1, h2, h3, _, h5⟩ := run_append_own_at (P := Tryz.prog) w base T ty E i0 _ 3 48 hT hi hz0 hz1 hz2 rfl (by decide) (.slice A ms.length c) ms.length cs ho ad gs.length d cs2 hh.len hn hh.one
      (by unfold maxLen; omega) (by omega) hbase
    obtain ⟨A', c', rfl⟩ := own_shape h2
    rw [← List.length_append] at h1 h2 h5
    refine ⟨A', c', w', h1, ⟨cs ++ cs2, h2, (hcs.app hh).map fun B l r f => ⟨r.grown h3 (fun h0 a ha => (f h0 a ha).1), fun h0 a ha => ⟨fun e => ?_, (f h0 a ha).2⟩⟩⟩, below_grown ho h3 hbase⟩
    rcases h5 with q | q
    · rw [q] at e; exact (f h0 a ha).1 e
    · rw [q] at e
      have hl := rd_lt r h0 a ha
      have := Option.some.inj e
      omega
  cases D with
  | none =>
    have hg : gs = [] := by
      rcases Nat.eq_zero_or_pos gs.length with h | h
      · exact List.length_eq_zero_iff.1 h
      · obtain ⟨b, o, _, e, _⟩ := hr h; cases e
    subst hg
    refine ⟨A, c, w, ?_, ?_, Below.refl _ _⟩
    · rw [List.append_nil]; exact run_append_none w base T ty E i0 3 d hT hi _ _ _ ho
    · rw [List.append_nil]; exact ⟨cs, ho, hcs⟩
  | some ad =>
    rcases Nat.eq_zero_or_pos gs.length with h | h
    · have hg := List.length_eq_zero_iff.1 h
      subst hg
      exact main ad [] rfl fun j u hu => by simp at hu
    · obtain ⟨b, o, cs2, e, hh, hc⟩ := hr h
      cases e
      exact main _ cs2 hh fun j u hu => by rw [add_lit]; exact hc j u hu
theorem wpList_append_m {P : Nat → Prop} (T E : TypeId) (hT : Tryz.prog.underlying T = some (.slice E)) (hI : (Tryz.prog.info? E).map (fun i => (i.zero, i.size, i.bytes)) = some (some (.agg #[.string ⟨#[]⟩, .int .i64 0, .slice none 0 0]), 3, 48))
    {ops : Array Oper} {rest : List Oper} {o : Oper} {a : Act} {Q : Exit → Act → World → Prop} (w : World) (hgd : o.guard = none) (s x : Operand)
    (ho : o.op = .call { callee := .builtin .append, args := #[s, x], argTypes := #[T, T] }) (base : Nat) (A : Option Addr) (c : Nat) (ms : List Ml) (hs : a.eval s = .slice A ms.length c) (hown : OwnM P E w base A c ms)
    (D : Option Addr) (n d : Nat) (gs : List Ml) (hn : n = gs.length) (hx : a.eval x = .slice D n d) (hr : RdMF P w (Value.slice A ms.length c).ownBlock D gs)
    (hlen : ms.length + gs.length ≤ 200000) (hbase : base ≤ w.heap.size) (r : List Ml) (hr0 : ms ++ gs = r)
    (h : ∀ A' c' w', OwnM P E w' base A' c' r → Below base w w' → wpList Tryz.prog ops Q rest (a.put o.dst (.slice A' r.length c')) w') : wpList Tryz.prog ops Q (o :: rest) a w := by
  subst hr0 hn
  refine wpList_plain hgd fun K hK => ?_
  obtain ⟨A', c', w', hrun, h2, h3⟩ := run_append_m T E hT hI w base o.type A c ms hown D d gs hr hlen hbase
  unfold Oper.wp
  simp only [execOp, ho, resolve, invoke, builtin, Sem.run_bind, Sem.run_pure, Result.andThen_ok, List.map_toArray, List.map_cons, List.map_nil, hs, hx, hrun]
  exact hK _ _ (h A' c' w' h2 h3)

/-- A new list of macros. -/
def ResM (P : Nat → Prop) (t : TypeId) (w : World) (ms : List Ml) (e : Ending) (w' : World) : Prop := ∃ A c, e = .returned (.slice A ms.length c) ∧ OwnM P t w' w.heap.size A c ms ∧ Below w.heap.size w w'

end Go.Proofs.YtmnbepapgghdaaaGreat.Pq

namespace Go.Proofs.YtmnbepapgghdaaaGreat.Pq
open Go.RowKit

theorem far_own {P : Nat → Prop} {t : TypeId} {w wr : World} {C : Option Addr} {cc : Nat} {xs : List Ml} {B : Option Addr} {l : List Tok} (h : Rd w B l) (hp : 0 < l.length → ∀ a, B = some a → P a.block) (ho : OwnM P t wr w.heap.size C cc xs) : 0 < l.length → Far P (Value.slice C xs.length cc).ownBlock B := fun h0 a ha => ⟨fun e => by
  have := rd_lt h h0 a ha
  have := ho.ge _ e.symm
  omega, hp h0 a ha⟩
set_option maxRecDepth 100000 in
set_option maxHeartbeats 2000000 in
theorem rdrop_any {P : Nat → Prop} (A : Option Addr) (c : Nat) (fs : List Ml) (n : By) (w : World) (hr : RdM P w A fs) (hc : fs.length ≤ 100000) :
    Calls Tryz.prog 58 #[.slice A fs.length c, .string ⟨n.toArray⟩] w (ResM P 110 w (dropL fs n)) := by
  have HO0 := Lib.hid (ownM_empty (P := P) 110 w)
  have HB0 := Lib.hid (one_below w (.cells #[] 110))
  go_enter Tryz.func58, Tryz.ntmps58
  go_wp2_with fail
  go_loopw [5, 6] (fun v i wr => ∃ (k : Nat) (C : Option Addr) (cc : Nat) (xs : List Ml), k ≤ fs.length ∧ i = .int .i64 k ∧ v = .slice C xs.length cc ∧ xs.length ≤ fs.length ∧ Hid (dropL (fs.take k) n = xs) ∧ Hid (OwnM P 110 wr w.heap.size C cc xs) ∧ Hid (Below w.heap.size w wr)) (fun _ i _ => fs.length - (intOf i).toNat)
  case atStart => exact ⟨0, _, 0, [], Nat.zero_le _, rfl, rfl, by simp, Lib.hid rfl, HO0, HB0⟩
  case round =>
    clear HO0 HB0
    obtain ⟨k, C, cc, xs, hk, rfl, rfl, hxl, HX, HO, HB⟩ := hrel
    by_cases hlt : k < fs.length
    · obtain ⟨b, o, rfl, hcell⟩ := hr.cells (by omega)
      obtain ⟨f, hf⟩ : ∃ f, fs[k]? = some f := ⟨_, List.getElem?_eq_getElem hlt⟩
      obtain ⟨B, d, c1, c2, c3, hrd, hpp⟩ := hcell k f hf
      have k1 := cell_below HB.out c1
      have k2 := cell_below HB.out c2
      have k3 := cell_below HB.out c3
      have i1 : (k : Int) < (fs.length : Int) := by omega
      cases hn : f.1 == n
      · have hst := drop_keep hf hn
        rw [HX.out] at hst
        obtain ⟨ys, hy⟩ : ∃ ys, xs ++ [f] = ys := ⟨_, rfl⟩
        rw [hy] at hst
        have hyl : ys.length ≤ fs.length := by rw [← hst]; have := dropL_len (fs.take (k + 1)) n; simp at this; omega
        have HN := Lib.hid hst
        have HY := Lib.hid hy
        have o1 := one_below wr (.cells #[.string ⟨f.1.toArray⟩, .int .i64 f.2.1, .slice B f.2.2.length d] 110)
        obtain ⟨q0, q1, q2⟩ := new_three wr (.string ⟨f.1.toArray⟩) (.int .i64 f.2.1) (.slice B f.2.2.length d) 110
        have HR1 := Lib.hid (one_readM (g := (Value.slice C xs.length cc).ownBlock) q0 q1 q2 (hrd.below (bch HB.out o1)) (far_own hrd hpp HO.out))
        have HO1 := Lib.hid (HO.out.below o1)
        have HB1 := Lib.hid (bch HB.out o1)
        clear hst hy hf hcell c1 c2 c3 hrd hpp q0 q1 q2 o1 HO HB HX
        go_wp2_with (at_builtin; refine wpList_append_m 75 110 Tryz.underlying75 Tryz.infoM110 _ rfl _ _ rfl w.heap.size C cc xs rfl HO1.out (some ⟨wr.heap.size, 0, none⟩) 1 1 [f] rfl rfl HR1.out (by show xs.length + 1 ≤ _; omega) HB1.out.size ys HY.out ?_; intro N2 nc2 w3 hown2 hb3)
        have HB2 := Lib.hid (HB1.out.trans hb3)
        have HO2 := Lib.hid hown2
        clear hb3 hown2 HO1 HB1
        go_roundw
        case rel => exact ⟨k + 1, N2, nc2, ys, by omega, by go_num, rfl, hyl, HN, HO2, HB2⟩
        case measure => simp [intOf]; omega
      · have HN := Lib.hid ((drop_skip hf hn).trans HX.out)
        clear hf hcell c1 c2 c3 hrd hpp HX
        go_wp2
        go_roundw
        case rel => exact ⟨k + 1, C, cc, xs, by omega, by go_num, rfl, hxl, HN, HO, HB⟩
        case measure => simp [intOf]; omega
    · have hfin := HX.out
      rw [List.take_of_length_le (by omega)] at hfin
      have HF := Lib.hid hfin
      have i1 : ¬ (k : Int) < (fs.length : Int) := by omega
      clear hfin HX
      go_wp2
      go_ret
      rw [HF.out]
      exact ⟨C, cc, rfl, HO.out, HB.out⟩
def GetPost (P : Nat → Prop) (w : World) (m : Ml) (b : Bool) (e : Ending) (w' : World) : Prop :=
  ∃ B d, e = .returned (.tuple #[.agg #[.string ⟨m.1.toArray⟩, .int .i64 m.2.1, .slice B m.2.2.length d], .bool b]) ∧ Rd w' B m.2.2 ∧ (0 < m.2.2.length → ∀ a, B = some a → P a.block) ∧ Below w.heap.size w w'
set_option maxRecDepth 100000 in
set_option maxHeartbeats 2000000 in
theorem rget_any {P : Nat → Prop} (A : Option Addr) (c : Nat) (fs : List Ml) (n : By) (w : World) (hr : RdM P w A fs) (hc : fs.length ≤ 100000) :
    Calls Tryz.prog 55 #[.slice A fs.length c, .string ⟨n.toArray⟩] w (GetPost P w (getM fs n) (hasL fs n)) := by
  obtain ⟨w0, hw0⟩ : ∃ w0, w.alloc (.cells #[.string ⟨#[]⟩, .int .i64 0, .slice none 0 0] 110) = w0 := ⟨_, rfl⟩
  have hb0 : Below w.heap.size w w0 := by rw [← hw0]; exact one_below _ _
  have hk : w0.heap[w.heap.size]? = some (.cells #[.string ⟨#[]⟩, .int .i64 0, .slice none 0 0] 110) := by rw [← hw0]; exact heap_alloc_new _ _
  have c0 : w0.cell? ⟨w.heap.size, 0, none⟩ = some (.string ⟨#[]⟩) := cell_of hk 0
  have c1 : w0.cell? ⟨w.heap.size, 1, none⟩ = some (.int .i64 0) := cell_of hk 1
  have c2 : w0.cell? ⟨w.heap.size, 2, none⟩ = some (.slice none 0 0) := cell_of hk 2
  have f0 := frozen_of hk 0
  have f1 := frozen_of hk 1
  have f2 := frozen_of hk 2
  have HK := Lib.hid hk
  have HB := Lib.hid hb0
  have HR := Lib.hid hr
  clear hk hb0 hr
  go_enter Tryz.func55, Tryz.ntmps55
  go_wp2_with fail
  clear hw0
  go_loop [6] (fun i => ∃ k : Nat, k ≤ fs.length ∧ i = .int .i64 k ∧ Hid (∀ g ∈ fs.take k, g.1 ≠ n)) (fun i => fs.length - (intOf i).toNat)
  case atStart => exact ⟨0, Nat.zero_le _, rfl, Lib.hid (by simp)⟩
  case round =>
    obtain ⟨k, hk, rfl, HA⟩ := hrel
    by_cases hlt : k < fs.length
    · obtain ⟨b, o, rfl, hcell⟩ := HR.out.cells (by omega)
      obtain ⟨f, hf⟩ : ∃ f, fs[k]? = some f := ⟨_, List.getElem?_eq_getElem hlt⟩
      obtain ⟨B, d, a1, a2, a3, hrd, hpp⟩ := hcell k f hf
      have k1 := cell_below HB.out a1
      have k2 := cell_below HB.out a2
      have k3 := cell_below HB.out a3
      have i1 : (k : Int) < (fs.length : Int) := by omega
      cases hn : f.1 == n
      · have HN := Lib.hid (ne_step HA.out hf hn)
        clear hf hcell a1 a2 a3 hrd hpp HA
        go_wp2
        go_round
        case rel => exact ⟨k + 1, by omega, by go_num, HN⟩
        case measure => simp [intOf]; omega
      · have e : f.1 = n := by simpa using hn
        obtain ⟨g1, g2⟩ := get_at HA.out hf e
        rw [getM_some g1, g2]
        have E := Lib.hid e
        have BK := Lib.hid (blk_set (blk_set (blk_set HK.out 0 (.string ⟨f.1.toArray⟩)) 1 (.int .i64 f.2.1)) 2 (.slice B f.2.2.length d))
        have HB1 := Lib.hid (((HB.out.setCell (Nat.le_refl _) (p := ⟨w.heap.size, 0, none⟩) (.string ⟨f.1.toArray⟩)).setCell (Nat.le_refl _) (p := ⟨w.heap.size, 1, none⟩) (.int .i64 f.2.1)).setCell (Nat.le_refl _) (p := ⟨w.heap.size, 2, none⟩) (.slice B f.2.2.length d))
        have HRD := Lib.hid (hrd.below HB1.out)
        have HPP := Lib.hid hpp
        clear hf hcell a1 a2 a3 hrd hpp HA g1 g2 e
        go_wp2
        refine bodyPost_ret (results_cell_tmp (P := Tryz.prog) rfl _ _ w.heap.size 110 #[.string ⟨f.1.toArray⟩, .int .i64 f.2.1, .slice B f.2.2.length d] (0, 0) _ _ (by rfl) (by rfl) BK.out Tryz.underlying110 rfl (by kernel_rfl)) rfl ?_
        exact ⟨B, d, by have e := E.out; subst e; rfl, HRD.out, HPP.out, HB1.out⟩
    · have hfin := HA.out
      rw [List.take_of_length_le (by omega)] at hfin
      have hno := get_end hfin
      have HG := Lib.hid (getM_none hno)
      have HN := Lib.hid hno
      have i1 : ¬ (k : Int) < (fs.length : Int) := by omega
      have BK := Lib.hid (blk_set (blk_set (blk_set HK.out 0 (.string ⟨#[]⟩)) 1 (.int .i64 0)) 2 (.slice none 0 0))
      have HB1 := Lib.hid (((HB.out.setCell (Nat.le_refl _) (p := ⟨w.heap.size, 0, none⟩) (.string ⟨#[]⟩)).setCell (Nat.le_refl _) (p := ⟨w.heap.size, 1, none⟩) (.int .i64 0)).setCell (Nat.le_refl _) (p := ⟨w.heap.size, 2, none⟩) (.slice none 0 0))
      clear hfin hno HA
      go_wp2
      refine bodyPost_ret (results_cell_tmp (P := Tryz.prog) rfl _ _ w.heap.size 110 #[.string ⟨#[]⟩, .int .i64 0, .slice none 0 0] (0, 0) _ _ (by rfl) (by rfl) BK.out Tryz.underlying110 rfl (by kernel_rfl)) rfl ?_
      rw [HG.out, HN.out]
      exact ⟨none, 0, rfl, Rd.empty _ _, fun h => absurd h (by simp), HB1.out⟩
end Go.Proofs.YtmnbepapgghdaaaGreat.Pq

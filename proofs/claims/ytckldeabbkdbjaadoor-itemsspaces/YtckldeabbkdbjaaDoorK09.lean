/-
  Rows that grow beside each other: the document's tokens, notes, texts.
  Words for memory: a store into a row of tokens of one's own; lists of lists that lie behind a place; how long what is filled in is.
  Two rows of one's own beside each other: items, notes.
  Words: a 64-bit int; the library's variable bytealg.MaxLen holds some int.
  Maps of whatever values, by texts and by ints, that the call itself has made: read, written.
  Package items: commands.
  Package items: forms.
-/
import Derived.Test.YtckldeabbkdbjaaDoorK08
import Derived.Test.YtckldeabbkdbjaaDoorK06
import Derived.Test.YtckldeabbkdbjaaDoorK01
import Derived.Maps.RangeWalk
import Derived.StringKeys
import Derived.WideKeyEntry
namespace Go.Proofs.YtckldeabbkdbjaaDoor
open Go.RowKit

theorem Tryd.info9' : (Tryd.prog.info? 9).map (fun i => (i.zero, i.size, i.bytes)) = some (some (.string ⟨#[]⟩), 1, 16) := by kernel_rfl
/-- These blocks are kept. -/
def Kept (p : Nat → Prop) (w w' : World) : Prop := ∀ b, p b → b < w.heap.size → w'.heap[b]? = w.heap[b]?
theorem cell_keep {w w' : World} {p : Nat → Prop} (hk : Kept p w w') {q : Addr} {v : Value} (hp : p q.block) (h : w.cell? q = some v) : w'.cell? q = some v := by
  have hs := hk q.block hp (World.block_lt_of_cell? w q h)
  rw [← h]; simp only [World.cell?, hs]
theorem kept_below {w w' : World} (p : Nat → Prop) (hb : Below w.heap.size w w') : Kept p w w' := fun b _ h => hb.block b h
theorem kept_set (w : World) {p : Nat → Prop} {q : Addr} (v : Value) (hp : ¬ p q.block) : Kept p w (w.setCell q v) := fun b h _ => heap_setCell_other w q b v (fun e => hp (by rw [← e]; exact h))
theorem kept_grown {w w' : World} {row : Option Nat} {p : Nat → Prop} (h : w.grownBy w' row) (hp : ∀ b, p b → some b ≠ row) : Kept p w w' := fun b hb hl => by
  obtain ⟨_, _, _, _, hk⟩ := h
  exact hk b hl (hp b hb)
theorem run_append_dt (w : World) (base : Nat) (ty : TypeId) (C : Option Addr) (cc : Nat) (xs : List Tok) (hown : Own 65 w base C cc xs) (A : Option Addr) (c : Nat) (gs : List Tok) (hr : Rd w A gs)
    (hlen : xs.length + gs.length ≤ 200000) (hbase : base ≤ w.heap.size) :
    ∃ A' c' w', (Builtin.append_ #[32, 32] ty #[.slice C xs.length cc, .slice A gs.length c]).run Tryd.prog w = .ok (.slice A' (xs ++ gs).length c') w' ∧ Own 65 w' base A' c' (xs ++ gs) ∧ w.grownBy w' (Value.slice C xs.length cc).ownBlock ∧
      ((Value.slice A' (xs ++ gs).length c').ownBlock = (Value.slice C xs.length cc).ownBlock ∨ (Value.slice A' (xs ++ gs).length c').ownBlock = some w.heap.size) := by
  obtain ⟨i0, hi, hz0, hz1, hz2⟩ := info_parts Tryd.info65
  have main : ∀ (ad : Addr), (∀ j u, (fcells gs)[j]? = some u → w.cell? (ad.add j) = some u) →
      ∃ A' c' w', (Builtin.append_ #[32, 32] ty #[.slice C xs.length cc, .slice (some ad) gs.length c]).run Tryd.prog w = .ok (.slice A' (xs ++ gs).length c') w' ∧ Own 65 w' base A' c' (xs ++ gs) ∧ w.grownBy w' (Value.slice C xs.length cc).ownBlock ∧
      ((Value.slice A' (xs ++ gs).length c').ownBlock = (Value.slice C xs.length cc).ownBlock ∨ (Value.slice A' (xs ++ gs).length c').ownBlock = some w.heap.size) := fun ad hn => by
    obtain ⟨v', w', h1, h2, h3, _, h5⟩ := run_append_own_at (P := Tryd.prog) w base 32 ty 65 i0 _ 2 24 Tryd.underlying32 hi hz0 hz1 hz2 rfl (by decide) (.slice C xs.length cc) xs.length (fcells xs) hown ad gs.length c (fcells gs) (fcells_len gs) hn (fcells_one gs)
      (by unfold maxLen; omega) (by omega) hbase
    rw [← fcells_app] at h2
    obtain ⟨A', c', rfl⟩ := own_shape h2
    rw [← List.length_append] at h2 h1 h5
    exact ⟨A', c', w', h1, h2, h3, h5⟩
  cases A with
  | none =>
    have hg : gs = [] := by
      rcases Nat.eq_zero_or_pos gs.length with h | h
      · exact List.length_eq_zero_iff.1 h
      · obtain ⟨b, o, e, _⟩ := hr h; cases e
    subst hg
    refine ⟨C, cc, w, ?_, ?_, ⟨rfl, rfl, rfl, Nat.le_refl _, fun _ _ _ => rfl⟩, ?_⟩
    · rw [List.append_nil]; exact run_append_none w base 32 ty 65 i0 2 c Tryd.underlying32 hi _ _ _ hown
    · rw [List.append_nil]; exact hown
    · rw [List.append_nil]; exact .inl rfl
  | some ad =>
    rcases Nat.eq_zero_or_pos gs.length with h | h
    · have hg := List.length_eq_zero_iff.1 h
      subst hg
      exact main ad fun j u hu => by simp [fcells] at hu
    · obtain ⟨b, o, e, hc⟩ := hr h
      cases e
      exact main _ (Rd.news hc)
theorem wpList_append_dt {ops : Array Oper} {rest : List Oper} {o : Oper} {a : Act} {Q : Exit → Act → World → Prop} (w : World) (hgd : o.guard = none) (s x : Operand)
    (ho : o.op = .call { callee := .builtin .append, args := #[s, x], argTypes := #[32, 32] }) (base : Nat) (C : Option Addr) (cc : Nat) (xs : List Tok) (hs : a.eval s = .slice C xs.length cc) (hown : Own 65 w base C cc xs)
    (A : Option Addr) (m c : Nat) (gs : List Tok) (hm : m = gs.length) (hx : a.eval x = .slice A m c) (hr : Rd w A gs) (hlen : xs.length + gs.length ≤ 200000) (hbase : base ≤ w.heap.size) (r : List Tok) (hr0 : xs ++ gs = r)
    (h : ∀ A' c' w', Own 65 w' base A' c' r → w.grownBy w' (Value.slice C xs.length cc).ownBlock → ((Value.slice A' r.length c').ownBlock = (Value.slice C xs.length cc).ownBlock ∨ (Value.slice A' r.length c').ownBlock = some w.heap.size) → wpList Tryd.prog ops Q rest (a.put o.dst (.slice A' r.length c')) w') : wpList Tryd.prog ops Q (o :: rest) a w := by
  subst hm hr0
  refine wpList_plain hgd fun K hK => ?_
  obtain ⟨A', c', w', hrun, h2, h3, h4⟩ := run_append_dt w base o.type C cc xs hown A c gs hr hlen hbase
  unfold Oper.wp
  simp only [execOp, ho, resolve, invoke, builtin, Sem.run_bind, Sem.run_pure, Result.andThen_ok, List.map_toArray, List.map_cons, List.map_nil, hs, hx, hrun]
  exact hK _ _ (h A' c' w' h2 h3 h4)
theorem run_append_n (w : World) (base : Nat) (ty : TypeId) (C : Option Addr) (cc : Nat) (xs : List Tok) (hown : Own 64 w base C cc xs) (A : Option Addr) (c : Nat) (gs : List Tok) (hr : Rd w A gs)
    (hlen : xs.length + gs.length ≤ 200000) (hbase : base ≤ w.heap.size) :
    ∃ A' c' w', (Builtin.append_ #[26, 26] ty #[.slice C xs.length cc, .slice A gs.length c]).run Tryd.prog w = .ok (.slice A' (xs ++ gs).length c') w' ∧ Own 64 w' base A' c' (xs ++ gs) ∧ w.grownBy w' (Value.slice C xs.length cc).ownBlock ∧
      ((Value.slice A' (xs ++ gs).length c').ownBlock = (Value.slice C xs.length cc).ownBlock ∨ (Value.slice A' (xs ++ gs).length c').ownBlock = some w.heap.size) := by
  obtain ⟨i0, hi, hz0, hz1, hz2⟩ := info_parts Tryd.info64
  have main : ∀ (ad : Addr), (∀ j u, (fcells gs)[j]? = some u → w.cell? (ad.add j) = some u) →
      ∃ A' c' w', (Builtin.append_ #[26, 26] ty #[.slice C xs.length cc, .slice (some ad) gs.length c]).run Tryd.prog w = .ok (.slice A' (xs ++ gs).length c') w' ∧ Own 64 w' base A' c' (xs ++ gs) ∧ w.grownBy w' (Value.slice C xs.length cc).ownBlock ∧
      ((Value.slice A' (xs ++ gs).length c').ownBlock = (Value.slice C xs.length cc).ownBlock ∨ (Value.slice A' (xs ++ gs).length c').ownBlock = some w.heap.size) := fun ad hn => by
    obtain ⟨v', w', h1, h2, h3, _, h5⟩ := run_append_own_at (P := Tryd.prog) w base 26 ty 64 i0 _ 2 24 Tryd.underlying26 hi hz0 hz1 hz2 rfl (by decide) (.slice C xs.length cc) xs.length (fcells xs) hown ad gs.length c (fcells gs) (fcells_len gs) hn (fcells_one gs)
      (by unfold maxLen; omega) (by omega) hbase
    rw [← fcells_app] at h2
    obtain ⟨A', c', rfl⟩ := own_shape h2
    rw [← List.length_append] at h2 h1 h5
    exact ⟨A', c', w', h1, h2, h3, h5⟩
  cases A with
  | none =>
    have hg : gs = [] := by
      rcases Nat.eq_zero_or_pos gs.length with h | h
      · exact List.length_eq_zero_iff.1 h
      · obtain ⟨b, o, e, _⟩ := hr h; cases e
    subst hg
    refine ⟨C, cc, w, ?_, ?_, ⟨rfl, rfl, rfl, Nat.le_refl _, fun _ _ _ => rfl⟩, ?_⟩
    · rw [List.append_nil]; exact run_append_none w base 26 ty 64 i0 2 c Tryd.underlying26 hi _ _ _ hown
    · rw [List.append_nil]; exact hown
    · rw [List.append_nil]; exact .inl rfl
  | some ad =>
    rcases Nat.eq_zero_or_pos gs.length with h | h
    · have hg := List.length_eq_zero_iff.1 h
      subst hg
      exact main ad fun j u hu => by simp [fcells] at hu
    · obtain ⟨b, o, e, hc⟩ := hr h
      cases e
      exact main _ (Rd.news hc)
theorem wpList_append_n {ops : Array Oper} {rest : List Oper} {o : Oper} {a : Act} {Q : Exit → Act → World → Prop} (w : World) (hgd : o.guard = none) (s x : Operand)
    (ho : o.op = .call { callee := .builtin .append, args := #[s, x], argTypes := #[26, 26] }) (base : Nat) (C : Option Addr) (cc : Nat) (xs : List Tok) (hs : a.eval s = .slice C xs.length cc) (hown : Own 64 w base C cc xs)
    (A : Option Addr) (m c : Nat) (gs : List Tok) (hm : m = gs.length) (hx : a.eval x = .slice A m c) (hr : Rd w A gs) (hlen : xs.length + gs.length ≤ 200000) (hbase : base ≤ w.heap.size) (r : List Tok) (hr0 : xs ++ gs = r)
    (h : ∀ A' c' w', Own 64 w' base A' c' r → w.grownBy w' (Value.slice C xs.length cc).ownBlock → ((Value.slice A' r.length c').ownBlock = (Value.slice C xs.length cc).ownBlock ∨ (Value.slice A' r.length c').ownBlock = some w.heap.size) → wpList Tryd.prog ops Q rest (a.put o.dst (.slice A' r.length c')) w') : wpList Tryd.prog ops Q (o :: rest) a w := by
  subst hm hr0
  refine wpList_plain hgd fun K hK => ?_
  obtain ⟨A', c', w', hrun, h2, h3, h4⟩ := run_append_n w base o.type C cc xs hown A c gs hr hlen hbase
  unfold Oper.wp
  simp only [execOp, ho, resolve, invoke, builtin, Sem.run_bind, Sem.run_pure, Result.andThen_ok, List.map_toArray, List.map_cons, List.map_nil, hs, hx, hrun]
  exact hK _ _ (h A' c' w' h2 h3 h4)

def tcells (xs : List By) : List Value := xs.map fun x => .string ⟨x.toArray⟩
/-- A row of texts of one's own. -/
def OwnT (w : World) (base : Nat) (A : Option Addr) (c : Nat) (xs : List By) : Prop := w.ownsRow base 9 1 (.slice A xs.length c) xs.length (tcells xs)
theorem tcells_at {xs : List By} {i : Nat} {x : By} (h : xs[i]? = some x) : (tcells xs)[i]? = some (.string ⟨x.toArray⟩) := by unfold tcells; rw [List.getElem?_map, h]; rfl
theorem OwnT.rd {w : World} {base : Nat} {A : Option Addr} {c : Nat} {xs : List By} (h : OwnT w base A c xs) : RdS w A xs := fun h0 => by
  obtain ⟨g, cap, hv, _, _⟩ := World.ownsRow.form h h0
  simp only [Value.slice.injEq] at hv
  obtain ⟨rfl, _, _⟩ := hv
  refine ⟨g, 0, rfl, fun i f hi => ?_⟩
  have hlt : i < xs.length := (List.getElem?_eq_some_iff.1 hi).1
  have c1 := World.ownsRow.cellAt h i (by omega)
  rw [tcells_at hi] at c1
  simpa using c1
theorem run_append_t (w : World) (base : Nat) (ty : TypeId) (C : Option Addr) (cc : Nat) (xs : List By) (hown : OwnT w base C cc xs) (q : Nat) (c : Nat) (g : By) (hr : w.cell? ⟨q, 0, none⟩ = some (.string ⟨g.toArray⟩))
    (hlen : xs.length + 1 ≤ 200000) (hbase : base ≤ w.heap.size) :
    ∃ A' c' w', (Builtin.append_ #[52, 52] ty #[.slice C xs.length cc, .slice (some ⟨q, 0, none⟩) 1 c]).run Tryd.prog w = .ok (.slice A' (xs ++ [g]).length c') w' ∧ OwnT w' base A' c' (xs ++ [g]) ∧ w.grownBy w' (Value.slice C xs.length cc).ownBlock ∧
      ((Value.slice A' (xs ++ [g]).length c').ownBlock = (Value.slice C xs.length cc).ownBlock ∨ (Value.slice A' (xs ++ [g]).length c').ownBlock = some w.heap.size) := by
  obtain ⟨i0, hi, hz0, hz1, hz2⟩ := info_parts Tryd.info9'
  obtain ⟨v', w', h1, h2, h3, _, h5⟩ := run_append_own_at (P := Tryd.prog) w base 52 ty 9 i0 _ 1 16 Tryd.underlying52 hi hz0 hz1 hz2 rfl (by decide) (.slice C xs.length cc) xs.length (tcells xs) hown ⟨q, 0, none⟩ 1 c (tcells [g]) rfl
    (fun j u hu => by
      match j, hu with
      | 0, hu => simp [tcells] at hu; subst hu; simpa [Addr.add] using hr
      | j + 1, hu => simp [tcells] at hu) (fun u hu => by simp [tcells] at hu; subst hu; rfl)
    (by unfold maxLen; omega) (by omega) hbase
  have e : tcells xs ++ tcells [g] = tcells (xs ++ [g]) := by simp [tcells]
  rw [e] at h2
  obtain ⟨A', c', rfl⟩ := own_shape h2
  have e2 : xs.length + 1 = (xs ++ [g]).length := by simp
  rw [e2] at h2 h1 h5
  exact ⟨A', c', w', h1, h2, h3, h5⟩
theorem wpList_append_t {ops : Array Oper} {rest : List Oper} {o : Oper} {a : Act} {Q : Exit → Act → World → Prop} (w : World) (hgd : o.guard = none) (s x : Operand)
    (ho : o.op = .call { callee := .builtin .append, args := #[s, x], argTypes := #[52, 52] }) (base : Nat) (C : Option Addr) (cc : Nat) (xs : List By) (hs : a.eval s = .slice C xs.length cc) (hown : OwnT w base C cc xs)
    (q c : Nat) (g : By) (hx : a.eval x = .slice (some ⟨q, 0, none⟩) 1 c) (hr : w.cell? ⟨q, 0, none⟩ = some (.string ⟨g.toArray⟩)) (hlen : xs.length + 1 ≤ 200000) (hbase : base ≤ w.heap.size) (r : List By) (hr0 : xs ++ [g] = r)
    (h : ∀ A' c' w', OwnT w' base A' c' r → w.grownBy w' (Value.slice C xs.length cc).ownBlock → ((Value.slice A' r.length c').ownBlock = (Value.slice C xs.length cc).ownBlock ∨ (Value.slice A' r.length c').ownBlock = some w.heap.size) → wpList Tryd.prog ops Q rest (a.put o.dst (.slice A' r.length c')) w') : wpList Tryd.prog ops Q (o :: rest) a w := by
  subst hr0
  refine wpList_plain hgd fun K hK => ?_
  obtain ⟨A', c', w', hrun, h2, h3, h4⟩ := run_append_t w base o.type C cc xs hown q c g hr hlen hbase
  unfold Oper.wp
  simp only [execOp, ho, resolve, invoke, builtin, Sem.run_bind, Sem.run_pure, Result.andThen_ok, List.map_toArray, List.map_cons, List.map_nil, hs, hx, hrun]
  exact hK _ _ (h A' c' w' h2 h3 h4)
end Go.Proofs.YtckldeabbkdbjaaDoor

namespace Go.Proofs.YtckldeabbkdbjaaDoor
open Go.RowKit

theorem fset1 : ∀ (fs : List Tok) (i : Nat) (f : Tok) (k : Int), fs[i]? = some f → (fcells fs).set (i * 2) (.int .i64 k) = fcells (fs.set i (k, f.2))
  | [], i, f, k, h => by simp at h
  | g :: r, 0, f, k, h => by simp at h; subst h; rfl
  | g :: r, i + 1, f, k, h => by
    have ih := fset1 r i f k (by simpa using h)
    rw [show (i + 1) * 2 = i * 2 + 1 + 1 by omega, List.set_cons_succ]
    simp only [fcells, List.set_cons_succ, ih]
theorem fset2 : ∀ (fs : List Tok) (i : Nat) (f : Tok) (s : By), fs[i]? = some f → (fcells fs).set (i * 2 + 1) (.string ⟨s.toArray⟩) = fcells (fs.set i (f.1, s))
  | [], i, f, k, h => by simp at h
  | g :: r, 0, f, k, h => by simp at h; subst h; rfl
  | g :: r, i + 1, f, k, h => by
    have ih := fset2 r i f k (by simpa using h)
    rw [show (i + 1) * 2 + 1 = i * 2 + 1 + 1 + 1 by omega, List.set_cons_succ]
    simp only [fcells, List.set_cons_succ, ih]
theorem Own.addr {t : TypeId} {w : World} {base c : Nat} {A : Option Addr} {fs : List Tok} (h : Own t w base A c fs) (h0 : 0 < fs.length) : ∃ g, A = some ⟨g, 0, none⟩ ∧ base ≤ g ∧ g < w.heap.size := by
  obtain ⟨g, cap, hv, h1, h2⟩ := World.ownsRow.form h h0
  simp only [Value.slice.injEq] at hv
  exact ⟨g, hv.1, h1, h2⟩
theorem Own.store1 {t : TypeId} {w : World} {base g c : Nat} {fs : List Tok} (h : Own t w base (some ⟨g, 0, none⟩) c fs) {i : Nat} {f : Tok} (hi : fs[i]? = some f) (k : Int) {r : List Tok} (hr : fs.set i (k, f.2) = r) :
    Own t (w.setCell ⟨g, i * 2, none⟩ (.int .i64 k)) base (some ⟨g, 0, none⟩) c r := by
  have := (World.ownsRow.stored h (i * 2) (.int .i64 k)).1
  rw [fset1 fs i f k hi, hr] at this
  have hl : r.length = fs.length := by rw [← hr]; simp
  unfold Own; rw [hl]; exact this
theorem Own.store2 {t : TypeId} {w : World} {base g c : Nat} {fs : List Tok} (h : Own t w base (some ⟨g, 0, none⟩) c fs) {i : Nat} {f : Tok} (hi : fs[i]? = some f) (s : By) {r : List Tok} (hr : fs.set i (f.1, s) = r) :
    Own t (w.setCell ⟨g, i * 2 + 1, none⟩ (.string ⟨s.toArray⟩)) base (some ⟨g, 0, none⟩) c r := by
  have := (World.ownsRow.stored h (i * 2 + 1) (.string ⟨s.toArray⟩)).1
  rw [fset2 fs i f s hi, hr] at this
  have hl : r.length = fs.length := by rw [← hr]; simp
  unfold Own; rw [hl]; exact this
theorem Own.frozen {t : TypeId} {w : World} {base g c : Nat} {fs : List Tok} (h : Own t w base (some ⟨g, 0, none⟩) c fs) (j : Nat) : w.frozen? ⟨g, j, none⟩ = false := World.ownsRow.frozenAt h j
theorem Own.cells2 {t : TypeId} {w : World} {base g c : Nat} {fs : List Tok} (h : Own t w base (some ⟨g, 0, none⟩) c fs) {i : Nat} {f : Tok} (hi : fs[i]? = some f) :
    w.cell? ⟨g, i * 2, none⟩ = some (.int .i64 f.1) ∧ w.cell? ⟨g, i * 2 + 1, none⟩ = some (.string ⟨f.2.toArray⟩) := by
  have hl := (List.getElem?_eq_some_iff.1 hi).1
  obtain ⟨h1, h2⟩ := fcells_at fs i f hi
  exact ⟨(World.ownsRow.cellAt h (i * 2) (by omega)).trans h1, (World.ownsRow.cellAt h (i * 2 + 1) (by omega)).trans h2⟩
theorem cell_set {w : World} {p q : Addr} {v u : Value} (hb : p.block ≠ q.block) (h : w.cell? p = some u) : (w.setCell q v).cell? p = some u := by
  have hs := heap_setCell_other w q p.block v hb
  rw [← h]; simp only [World.cell?, hs]
theorem Rd.set {w : World} {B : Option Addr} {l : List Tok} (h : Rd w B l) {q : Addr} (hf : 0 < l.length → ∀ a, B = some a → a.block ≠ q.block) (v : Value) : Rd (w.setCell q v) B l := fun h0 => by
  obtain ⟨b, o, e, hc⟩ := h h0
  have hne := hf h0 _ e
  exact ⟨b, o, e, fun i f hi => ⟨cell_set hne (hc i f hi).1, cell_set hne (hc i f hi).2⟩⟩

/-- A row of one's own that holds these lists, each in another block, all of it behind that place. -/
def OwnLG (t : TypeId) (w : World) (base : Nat) (A : Option Addr) (c : Nat) (ll : List (List Tok)) : Prop :=
  ∃ cs : List Value, w.ownsRow base t 1 (Value.slice A ll.length c) ll.length cs ∧ ∀ (i : Nat) (l : List Tok), ll[i]? = some l → ∃ (B : Option Addr) (d : Nat), cs[i]? = some (Value.slice B l.length d) ∧ Rd w B l ∧ (0 < l.length → Far (Value.slice A ll.length c).ownBlock B) ∧ (0 < l.length → ∀ a, B = some a → base ≤ a.block)
/-- The slice at A reads as these lists, all of it behind that place. -/
def RdLG (w : World) (base : Nat) (A : Option Addr) (ll : List (List Tok)) : Prop :=
  0 < ll.length → ∃ b o, A = some ⟨b, o, none⟩ ∧ base ≤ b ∧ ∀ i l, ll[i]? = some l → ∃ (B : Option Addr) (d : Nat), w.cell? ⟨b, o + i, none⟩ = some (.slice B l.length d) ∧ Rd w B l ∧ (0 < l.length → ∀ a, B = some a → base ≤ a.block)
theorem RdLG.plain {w : World} {base : Nat} {A : Option Addr} {ll : List (List Tok)} (h : RdLG w base A ll) : RdL w A ll := fun h0 => by
  obtain ⟨b, o, e, _, hc⟩ := h h0
  refine ⟨b, o, e, fun i l hi => ?_⟩
  obtain ⟨B, d, h1, h2, _⟩ := hc i l hi
  exact ⟨B, d, h1, h2⟩
theorem RdLG.below {w w' : World} {base : Nat} {A : Option Addr} {ll : List (List Tok)} (h : RdLG w base A ll) (hb : Below w.heap.size w w') : RdLG w' base A ll := fun h0 => by
  obtain ⟨b, o, e, h1, hc⟩ := h h0
  refine ⟨b, o, e, h1, fun i l hi => ?_⟩
  obtain ⟨B, d, h1, h2, h3⟩ := hc i l hi
  exact ⟨B, d, cell_below hb h1, h2.below hb, h3⟩
theorem RdLG.set {w : World} {base : Nat} {A : Option Addr} {ll : List (List Tok)} (h : RdLG w base A ll) {q : Addr} (hq : q.block < base) (v : Value) : RdLG (w.setCell q v) base A ll := fun h0 => by
  obtain ⟨b, o, e, h1, hc⟩ := h h0
  refine ⟨b, o, e, h1, fun i l hi => ?_⟩
  obtain ⟨B, d, h2, h3, h4⟩ := hc i l hi
  exact ⟨B, d, cell_set (p := ⟨b, o + i, none⟩) (by show b ≠ q.block; omega) h2, h3.set (fun h0 a ha => by have := h4 h0 a ha; omega) v, h4⟩
theorem OwnLG.rd {t : TypeId} {w : World} {base : Nat} {A : Option Addr} {c : Nat} {ll : List (List Tok)} (h : OwnLG t w base A c ll) : RdLG w base A ll := fun h0 => by
  obtain ⟨cs, hown, hc⟩ := h
  obtain ⟨g, cap, hv, hg, _⟩ := World.ownsRow.form hown h0
  simp only [Value.slice.injEq] at hv
  obtain ⟨rfl, _, _⟩ := hv
  refine ⟨g, 0, rfl, hg, fun i l hi => ?_⟩
  obtain ⟨B, d, h1, h2, _, h4⟩ := hc i l hi
  have hlt : i < ll.length := (List.getElem?_eq_some_iff.1 hi).1
  have c1 := World.ownsRow.cellAt hown i (by omega)
  rw [Nat.zero_add]
  exact ⟨B, d, c1.trans h1, h2, h4⟩
theorem OwnLG.below {t : TypeId} {w w' : World} {base : Nat} {A : Option Addr} {c : Nat} {ll : List (List Tok)} (h : OwnLG t w base A c ll) (hb : Below w.heap.size w w') : OwnLG t w' base A c ll := by
  obtain ⟨cs, hown, hc⟩ := h
  refine ⟨cs, own_row_below hown hb, fun i l hi => ?_⟩
  obtain ⟨B, d, h1, h2, h3⟩ := hc i l hi
  exact ⟨B, d, h1, h2.below hb, h3⟩
theorem OwnLG.lt {t : TypeId} {w : World} {base : Nat} {A : Option Addr} {c : Nat} {ll : List (List Tok)} (h : OwnLG t w base A c ll) : ∀ g, (Value.slice A ll.length c).ownBlock = some g → g < w.heap.size := fun g hg => by
  obtain ⟨cs, hown, _⟩ := h
  exact (hown.lt g hg).2
theorem ownLG_empty (t : TypeId) (w : World) : OwnLG t (w.alloc (.cells #[] t)) w.heap.size (some ⟨w.heap.size, 0, none⟩) 0 [] :=
  ⟨[], World.ownsRow_lit w #[] 0 (Nat.le_refl _) (by unfold maxLen; omega) (by simp), fun i l hi => by simp at hi⟩
theorem own_ge {t : TypeId} {w : World} {base : Nat} {B : Option Addr} {d : Nat} {l : List Tok} (h : Own t w base B d l) : 0 < l.length → ∀ a, B = some a → base ≤ a.block := fun h0 a ha => by
  obtain ⟨g, e, h1, _⟩ := h.addr h0
  rw [e] at ha; cases ha; exact h1
end Go.Proofs.YtckldeabbkdbjaaDoor

namespace Go.Proofs.YtckldeabbkdbjaaDoor
open Go.RowKit

theorem run_append_di (w : World) (base : Nat) (ty : TypeId) (C : Option Addr) (cc : Nat) (xs : List Tok) (hown : Own 66 w base C cc xs) (A : Option Addr) (c : Nat) (gs : List Tok) (hr : Rd w A gs)
    (hlen : xs.length + gs.length ≤ 200000) (hbase : base ≤ w.heap.size) :
    ∃ A' c' w', (Builtin.append_ #[29, 29] ty #[.slice C xs.length cc, .slice A gs.length c]).run Tryd.prog w = .ok (.slice A' (xs ++ gs).length c') w' ∧ Own 66 w' base A' c' (xs ++ gs) ∧ w.grownBy w' (Value.slice C xs.length cc).ownBlock ∧
      ((Value.slice A' (xs ++ gs).length c').ownBlock = (Value.slice C xs.length cc).ownBlock ∨ (Value.slice A' (xs ++ gs).length c').ownBlock = some w.heap.size) := by
  obtain ⟨i0, hi, hz0, hz1, hz2⟩ := info_parts Tryd.info66
  have main : ∀ (ad : Addr), (∀ j u, (fcells gs)[j]? = some u → w.cell? (ad.add j) = some u) →
      ∃ A' c' w', (Builtin.append_ #[29, 29] ty #[.slice C xs.length cc, .slice (some ad) gs.length c]).run Tryd.prog w = .ok (.slice A' (xs ++ gs).length c') w' ∧ Own 66 w' base A' c' (xs ++ gs) ∧ w.grownBy w' (Value.slice C xs.length cc).ownBlock ∧
      ((Value.slice A' (xs ++ gs).length c').ownBlock = (Value.slice C xs.length cc).ownBlock ∨ (Value.slice A' (xs ++ gs).length c').ownBlock = some w.heap.size) := fun ad hn => by
    obtain ⟨v', w', h1, h2, h3, _, h5⟩ := run_append_own_at (P := Tryd.prog) w base 29 ty 66 i0 _ 2 24 Tryd.underlying29 hi hz0 hz1 hz2 rfl (by decide) (.slice C xs.length cc) xs.length (fcells xs) hown ad gs.length c (fcells gs) (fcells_len gs) hn (fcells_one gs)
      (by unfold maxLen; omega) (by omega) hbase
    rw [← fcells_app] at h2
    obtain ⟨A', c', rfl⟩ := own_shape h2
    rw [← List.length_append] at h2 h1 h5
    exact ⟨A', c', w', h1, h2, h3, h5⟩
  cases A with
  | none =>
    have hg : gs = [] := by
      rcases Nat.eq_zero_or_pos gs.length with h | h
      · exact List.length_eq_zero_iff.1 h
      · obtain ⟨b, o, e, _⟩ := hr h; cases e
    subst hg
    refine ⟨C, cc, w, ?_, ?_, ⟨rfl, rfl, rfl, Nat.le_refl _, fun _ _ _ => rfl⟩, ?_⟩
    · rw [List.append_nil]; exact run_append_none w base 29 ty 66 i0 2 c Tryd.underlying29 hi _ _ _ hown
    · rw [List.append_nil]; exact hown
    · rw [List.append_nil]; exact .inl rfl
  | some ad =>
    rcases Nat.eq_zero_or_pos gs.length with h | h
    · have hg := List.length_eq_zero_iff.1 h
      subst hg
      exact main ad fun j u hu => by simp [fcells] at hu
    · obtain ⟨b, o, e, hc⟩ := hr h
      cases e
      exact main _ (Rd.news hc)
theorem wpList_append_di {ops : Array Oper} {rest : List Oper} {o : Oper} {a : Act} {Q : Exit → Act → World → Prop} (w : World) (hgd : o.guard = none) (s x : Operand)
    (ho : o.op = .call { callee := .builtin .append, args := #[s, x], argTypes := #[29, 29] }) (base : Nat) (C : Option Addr) (cc : Nat) (xs : List Tok) (hs : a.eval s = .slice C xs.length cc) (hown : Own 66 w base C cc xs)
    (A : Option Addr) (m c : Nat) (gs : List Tok) (hm : m = gs.length) (hx : a.eval x = .slice A m c) (hr : Rd w A gs) (hlen : xs.length + gs.length ≤ 200000) (hbase : base ≤ w.heap.size) (r : List Tok) (hr0 : xs ++ gs = r)
    (h : ∀ A' c' w', Own 66 w' base A' c' r → w.grownBy w' (Value.slice C xs.length cc).ownBlock → ((Value.slice A' r.length c').ownBlock = (Value.slice C xs.length cc).ownBlock ∨ (Value.slice A' r.length c').ownBlock = some w.heap.size) → wpList Tryd.prog ops Q rest (a.put o.dst (.slice A' r.length c')) w') : wpList Tryd.prog ops Q (o :: rest) a w := by
  subst hm hr0
  refine wpList_plain hgd fun K hK => ?_
  obtain ⟨A', c', w', hrun, h2, h3, h4⟩ := run_append_di w base o.type C cc xs hown A c gs hr hlen hbase
  unfold Oper.wp
  simp only [execOp, ho, resolve, invoke, builtin, Sem.run_bind, Sem.run_pure, Result.andThen_ok, List.map_toArray, List.map_cons, List.map_nil, hs, hx, hrun]
  exact hK _ _ (h A' c' w' h2 h3 h4)

theorem rows_apartI {w : World} {b1 b2 t1 t2 s1 s2 n1 n2 : Nat} {v1 v2 : Value} {xs1 xs2 : List Value} (h1 : w.ownsRow b1 t1 s1 v1 n1 xs1) (h2 : w.ownsRow b2 t2 s2 v2 n2 xs2) (ht : t1 ≠ t2) : ∀ g, v1.ownBlock = some g → v2.ownBlock ≠ some g := fun g hg e => by
  rcases h1.2 with ⟨rfl, _⟩ | ⟨g1, cap1, cur1, rfl, _, hg1, _⟩
  · cases hg
  · rcases h2.2 with ⟨rfl, _⟩ | ⟨g2, cap2, cur2, rfl, _, hg2, _⟩
    · cases e
    · cases hg
      cases e
      rw [hg1] at hg2
      simp only [Option.some.injEq, Obj.cells.injEq] at hg2
      exact ht hg2.2.1
theorem row_keepI {w w' : World} {base t s n : Nat} {v : Value} {xs : List Value} (h : w.ownsRow base t s v n xs) (hk : ∀ g, v.ownBlock = some g → w'.heap[g]? = w.heap[g]?) : w'.ownsRow base t s v n xs := by
  refine ⟨h.1, ?_⟩
  rcases h.2 with q | ⟨g, cap, cur, rfl, h2, h3, r⟩
  · exact .inl q
  · exact .inr ⟨g, cap, cur, rfl, h2, (hk g rfl).trans h3, r⟩
structure Two (w V : World) (A : Option Addr) (c : Nat) (out : List Tok) (B : Option Addr) (d : Nat) (notes : List Tok) : Prop where
  out : Own 66 V w.heap.size A c out
  notes : Own 64 V w.heap.size B d notes
  low : Below w.heap.size w V
theorem Two.below {w V V' : World} {A B : Option Addr} {c d : Nat} {out notes : List Tok} (h : Two w V A c out B d notes) (hb : Below V.heap.size V V') : Two w V' A c out B d notes := ⟨h.out.below hb, h.notes.below hb, bch h.low hb⟩
theorem two_out {ops : Array Oper} {rest : List Oper} {o : Oper} {a : Act} {Q : Exit → Act → World → Prop} (w V : World) (A B : Option Addr) (c d : Nat) (out notes : List Tok) (κ : Int) (z : By) (hgd : o.guard = none) (s x : Operand)
    (ho : o.op = .call { callee := .builtin .append, args := #[s, x], argTypes := #[29, 29] }) (hs : a.eval s = .slice A out.length c) (hT : Two w V A c out B d notes) (hx : a.eval x = .slice (some ⟨V.heap.size, 0, none⟩) 1 1) (hlen : out.length ≤ 190000) (r : List Tok) (hr0 : out ++ [(κ, z)] = r)
    (h : ∀ A' c' V', Hid (Two w V' A' c' r B d notes) → wpList Tryd.prog ops Q rest (a.put o.dst (.slice A' r.length c')) V') : wpList Tryd.prog ops Q (o :: rest) a (V.alloc (.cells #[.int .i64 κ, .string ⟨z.toArray⟩] 66)) := by
  have b1 := one_below V (.cells #[.int .i64 κ, .string ⟨z.toArray⟩] 66)
  have hT1 := hT.below b1
  refine wpList_append_di _ hgd s x ho w.heap.size A c out hs hT1.out (some ⟨V.heap.size, 0, none⟩) 1 1 [(κ, z)] rfl hx (one_read (new_fst V _ _ _) (new_snd V _ _ _)) (by show out.length + 1 ≤ _; omega) hT1.low.size r hr0 fun A' c' V' ho' hg _ => ?_
  refine h A' c' V' (Lib.hid ⟨ho', ?_, hT1.low.trans (below_grown hT1.out hg hT1.low.size)⟩)
  have hap := rows_apartI hT1.notes hT1.out (by decide)
  obtain ⟨_, _, _, _, hkeep⟩ := hg
  exact row_keepI hT1.notes fun g hgg => hkeep g (World.ownsRow.lt hT1.notes g hgg).2 fun e => hap g hgg e.symm
theorem two_note {ops : Array Oper} {rest : List Oper} {o : Oper} {a : Act} {Q : Exit → Act → World → Prop} (w V : World) (A B : Option Addr) (c d : Nat) (out notes : List Tok) (κ : Int) (z : By) (hgd : o.guard = none) (s x : Operand)
    (ho : o.op = .call { callee := .builtin .append, args := #[s, x], argTypes := #[26, 26] }) (hs : a.eval s = .slice B notes.length d) (hT : Two w V A c out B d notes) (hx : a.eval x = .slice (some ⟨V.heap.size, 0, none⟩) 1 1) (hlen : notes.length ≤ 190000) (r : List Tok) (hr0 : notes ++ [(κ, z)] = r)
    (h : ∀ B' d' V', Hid (Two w V' A c out B' d' r) → wpList Tryd.prog ops Q rest (a.put o.dst (.slice B' r.length d')) V') : wpList Tryd.prog ops Q (o :: rest) a (V.alloc (.cells #[.int .i64 κ, .string ⟨z.toArray⟩] 64)) := by
  have b1 := one_below V (.cells #[.int .i64 κ, .string ⟨z.toArray⟩] 64)
  have hT1 := hT.below b1
  refine wpList_append_n _ hgd s x ho w.heap.size B d notes hs hT1.notes (some ⟨V.heap.size, 0, none⟩) 1 1 [(κ, z)] rfl hx (one_read (new_fst V _ _ _) (new_snd V _ _ _)) (by show notes.length + 1 ≤ _; omega) hT1.low.size r hr0 fun B' d' V' ho' hg _ => ?_
  refine h B' d' V' (Lib.hid ⟨?_, ho', hT1.low.trans (below_grown hT1.notes hg hT1.low.size)⟩)
  have hap := rows_apartI hT1.out hT1.notes (by decide)
  obtain ⟨_, _, _, _, hkeep⟩ := hg
  exact row_keepI hT1.out fun g hgg => hkeep g (World.ownsRow.lt hT1.out g hgg).2 fun e => hap g hgg e.symm
/-- The last item's text is stored anew. -/
theorem two_store {w V : World} {A B : Option Addr} {c d : Nat} {pre notes : List Tok} {f : Tok} (h : Two w V A c (pre ++ [f]) B d notes) (s : By) :
    ∃ g, A = some ⟨g, 0, none⟩ ∧ V.cell? ⟨g, pre.length * 2, none⟩ = some (.int .i64 f.1) ∧ V.cell? ⟨g, pre.length * 2 + 1, none⟩ = some (.string ⟨f.2.toArray⟩) ∧ V.frozen? ⟨g, pre.length * 2 + 1, none⟩ = false ∧ Hid (Two w (V.setCell ⟨g, pre.length * 2 + 1, none⟩ (.string ⟨s.toArray⟩)) A c (pre ++ [(f.1, s)]) B d notes) := by
  obtain ⟨g, rfl, h1, h2⟩ := h.out.addr (by simp)
  have hi : (pre ++ [f])[pre.length]? = some f := by simp
  have hc := h.out.cells2 hi
  have hs := h.out.store2 hi s (r := pre ++ [(f.1, s)]) (by simp)
  have hap := rows_apartI h.notes h.out (by decide)
  refine ⟨g, rfl, hc.1, hc.2, h.out.frozen _, Lib.hid ⟨?_, row_keepI h.notes fun q hq => Below.heap_setCell V ⟨g, pre.length * 2 + 1, none⟩ _ q fun e => hap q hq (by rw [e]; rfl), h.low.setCell h1 (p := ⟨g, pre.length * 2 + 1, none⟩) _⟩⟩
  have e : (pre ++ [(f.1, s)]).length = (pre ++ [f]).length := by simp
  exact hs
end Go.Proofs.YtckldeabbkdbjaaDoor

namespace Go.Proofs.YtckldeabbkdbjaaDoor
open Go.RowKit

/-- Is it a 64-bit int? -/
def W64 (s : Int) : Prop := -9223372036854775808 ≤ s ∧ s ≤ 9223372036854775807
/-- The library's variable bytealg.MaxLen holds some int. -/
def M0 (w : World) : Prop := ∃ m : Int, w.cell? ⟨0, 0, none⟩ = some (.int .i64 m)
theorem M0.below {w w' : World} (h : M0 w) (hb : Below w.heap.size w w') : M0 w' := by
  obtain ⟨m, hm⟩ := h
  exact ⟨m, cell_below hb hm⟩
end Go.Proofs.YtckldeabbkdbjaaDoor

namespace Go.Proofs.YtckldeabbkdbjaaDoor
open Go.RowKit

/-- How a value that a map holds reads: as itself. -/
def anyElem (v : Value) : Option (DataW Value × List MemPlace) := some (.held v, [])
theorem law9 : Maps.Keyed Tryd.prog 9 := Maps.string_keyed Tryd.underlying9
def BM (w : World) (m N : Nat) (f : By → Option Value) : Prop :=
  ∃ D : DataW Value, w.ownsMap Tryd.prog 9 anyElem m N D ∧ ∀ (s : By) (z : Value), D.atKey (.string s) (.held z) = .held ((f s).getD z) ∧ Maps.has D (.string s) = (f s).isSome
theorem BM.block {w : World} {m N : Nat} {f : By → Option Value} (h : BM w m N f) : ∃ es clock, w.heap[m]? = some (.map es clock) := by
  obtain ⟨D, ⟨es, clock, hb, _⟩, _⟩ := h
  exact ⟨es, clock, hb⟩
theorem BM.of_block {w w' : World} {m N : Nat} {f : By → Option Value} (h : BM w m N f) (hb : w'.heap[m]? = w.heap[m]?) : BM w' m N f := by
  obtain ⟨D, ⟨es, clock, h1, h2⟩, h3⟩ := h
  exact ⟨D, ⟨es, clock, hb.trans h1, h2⟩, h3⟩
theorem BM.lt {w : World} {m N : Nat} {f : By → Option Value} (h : BM w m N f) : m < w.heap.size := by obtain ⟨es, c, hb⟩ := h.block; exact lt_of_blk hb
theorem BM.made (w : World) : BM (w.alloc (.map #[] 0)) w.heap.size 0 (fun _ => none) := ⟨.map [], World.ownsMap_made _ _ _ _, fun _ _ => ⟨rfl, rfl⟩⟩
theorem key_of {s : By} (hs : s.length ≤ 100000) : keyOf Tryd.prog 9 (.string ⟨s.toArray⟩) = some (.string s) := by
  have := WideMaps.keyOf_string_mk (P := Tryd.prog) (k := 9) Tryd.underlying9 (s := ⟨s.toArray⟩) (by show s.toArray.size ≤ maxLen; unfold maxLen; simp; omega)
  simpa using this
theorem held_inj {a b : Value} (h : (DataW.held a : DataW Value) = .held b) : a = b := by injection h
theorem BM.look {w : World} {m N : Nat} {f : By → Option Value} (h : BM w m N f) {t e : TypeId} (ht : Tryd.prog.underlying t = some (.map 9 e)) {z : Value} (hz : (zeroValue e).run Tryd.prog w = .ok z w) {s : By} (hs : s.length ≤ 100000) :
    (Instr.lookup t (.map (some m)) (.string ⟨s.toArray⟩) true).run Tryd.prog w = .ok (.tuple #[(f s).getD z, .bool (f s).isSome]) w := by
  obtain ⟨D, ho, hf⟩ := h
  obtain ⟨v, ps, hrun, hv⟩ := ho.look_ok law9 ht hz (zd := .held z) (zp := []) rfl (key_of hs)
  rw [(hf s z).1] at hv
  have := held_inj (Prod.mk.inj (Option.some.inj hv)).1
  rw [hrun, this, (hf s z).2]
theorem BM.look1 {w : World} {m N : Nat} {f : By → Option Value} (h : BM w m N f) {t e : TypeId} (ht : Tryd.prog.underlying t = some (.map 9 e)) {z : Value} (hz : (zeroValue e).run Tryd.prog w = .ok z w) {s : By} (hs : s.length ≤ 100000) :
    (Instr.lookup t (.map (some m)) (.string ⟨s.toArray⟩) false).run Tryd.prog w = .ok ((f s).getD z) w := by
  obtain ⟨D, ho, hf⟩ := h
  obtain ⟨v, ps, hrun, hv⟩ := ho.lookup law9 ht hz (zd := .held z) (zp := []) rfl (key_of hs)
  rw [(hf s z).1] at hv
  have := held_inj (Prod.mk.inj (Option.some.inj hv)).1
  rw [hrun, this]
theorem lit_ne {s r : By} (h : s ≠ r) : (Lit.string s) ≠ Lit.string r := fun e => h (by injection e)
theorem put_fun {D : DataW Value} {f : By → Option Value} (hm : Maps.IsMap D) (hf : ∀ (s : By) (z : Value), D.atKey (.string s) (.held z) = .held ((f s).getD z) ∧ Maps.has D (.string s) = (f s).isSome) (r : By) (v : Value) :
    ∀ (s : By) (z : Value), (D.put (.string r) (.held v)).atKey (.string s) (.held z) = .held (((fun i => if i = r then some v else f i) s).getD z) ∧ Maps.has (D.put (.string r) (.held v)) (.string s) = ((fun i => if i = r then some v else f i) s).isSome := fun s z => by
  by_cases hsr : s = r
  · subst hsr
    rw [Maps.atKey_put_same hm (k := .string s) trivial, Maps.has_put_same hm (k := .string s) trivial]
    simp
  · rw [Maps.atKey_put_other (lit_ne hsr), Maps.has_put_other (lit_ne hsr)]
    simp only [if_neg hsr]
    exact hf s z
theorem BM.store {w : World} {m N : Nat} {f : By → Option Value} (h : BM w m N f) {t e : TypeId} (ht : Tryd.prog.underlying t = some (.map 9 e)) {r : By} (v : Value) (hr : r.length ≤ 100000) (hN : N ≤ 1000000) :
    ∃ w', (Instr.mapUpdate t (.map (some m)) (.string ⟨r.toArray⟩) v).run Tryd.prog w = .ok () w' ∧ BM w' m (N + 1) (fun i => if i = r then some v else f i) ∧ w.grownBy w' (some m) := by
  obtain ⟨D, ho, hf⟩ := h
  obtain ⟨w', hrun, hown, hturn⟩ := ho.store law9 ht (by unfold maxLen; omega) (key_of hr) (val := v) (d := .held v) (ps := []) rfl
  exact ⟨w', hrun, ⟨_, hown, put_fun ho.isMap hf r v⟩, hturn.grown⟩
theorem law3 : Maps.Keyed Tryd.prog 3 := Maps.int_keyed Tryd.underlying3
def BI (w : World) (m N : Nat) (f : Int → Option Value) : Prop :=
  ∃ D : DataW Value, w.ownsMap Tryd.prog 3 anyElem m N D ∧ ∀ (s : Int) (z : Value), D.atKey (.int .i64 s) (.held z) = .held ((f s).getD z) ∧ Maps.has D (.int .i64 s) = (f s).isSome
theorem BI.block {w : World} {m N : Nat} {f : Int → Option Value} (h : BI w m N f) : ∃ es clock, w.heap[m]? = some (.map es clock) := by
  obtain ⟨D, ⟨es, clock, hb, _⟩, _⟩ := h
  exact ⟨es, clock, hb⟩
theorem BI.of_block {w w' : World} {m N : Nat} {f : Int → Option Value} (h : BI w m N f) (hb : w'.heap[m]? = w.heap[m]?) : BI w' m N f := by
  obtain ⟨D, ⟨es, clock, h1, h2⟩, h3⟩ := h
  exact ⟨D, ⟨es, clock, hb.trans h1, h2⟩, h3⟩
theorem BI.lt {w : World} {m N : Nat} {f : Int → Option Value} (h : BI w m N f) : m < w.heap.size := by obtain ⟨es, c, hb⟩ := h.block; exact lt_of_blk hb
theorem BI.made (w : World) : BI (w.alloc (.map #[] 0)) w.heap.size 0 (fun _ => none) := ⟨.map [], World.ownsMap_made _ _ _ _, fun _ _ => ⟨rfl, rfl⟩⟩
theorem ikey_of {s : Int} (hs : W64 s) : keyOf Tryd.prog 3 (.int .i64 s) = some (.int .i64 s) := by
  refine Maps.keyOf_int_mk (P := Tryd.prog) (k := 3) Tryd.underlying3 ?_
  have h1 : IntKind.i64.min = -9223372036854775808 := rfl
  have h2 : IntKind.i64.max = 9223372036854775807 := rfl
  simp only [Lit.wf, h1, h2, Bool.and_eq_true, decide_eq_true_eq]
  exact hs
theorem BI.look {w : World} {m N : Nat} {f : Int → Option Value} (h : BI w m N f) {t e : TypeId} (ht : Tryd.prog.underlying t = some (.map 3 e)) {z : Value} (hz : (zeroValue e).run Tryd.prog w = .ok z w) {s : Int} (hs : W64 s) :
    (Instr.lookup t (.map (some m)) (.int .i64 s) true).run Tryd.prog w = .ok (.tuple #[(f s).getD z, .bool (f s).isSome]) w := by
  obtain ⟨D, ho, hf⟩ := h
  obtain ⟨v, ps, hrun, hv⟩ := ho.look_ok law3 ht hz (zd := .held z) (zp := []) rfl (ikey_of hs)
  rw [(hf s z).1] at hv
  have := held_inj (Prod.mk.inj (Option.some.inj hv)).1
  rw [hrun, this, (hf s z).2]
theorem BI.look1 {w : World} {m N : Nat} {f : Int → Option Value} (h : BI w m N f) {t e : TypeId} (ht : Tryd.prog.underlying t = some (.map 3 e)) {z : Value} (hz : (zeroValue e).run Tryd.prog w = .ok z w) {s : Int} (hs : W64 s) :
    (Instr.lookup t (.map (some m)) (.int .i64 s) false).run Tryd.prog w = .ok ((f s).getD z) w := by
  obtain ⟨D, ho, hf⟩ := h
  obtain ⟨v, ps, hrun, hv⟩ := ho.lookup law3 ht hz (zd := .held z) (zp := []) rfl (ikey_of hs)
  rw [(hf s z).1] at hv
  have := held_inj (Prod.mk.inj (Option.some.inj hv)).1
  rw [hrun, this]
theorem ilit_ne {s r : Int} (h : s ≠ r) : (Lit.int .i64 s) ≠ Lit.int .i64 r := fun e => h (by injection e)
theorem iput_fun {D : DataW Value} {f : Int → Option Value} (hm : Maps.IsMap D) (hf : ∀ (s : Int) (z : Value), D.atKey (.int .i64 s) (.held z) = .held ((f s).getD z) ∧ Maps.has D (.int .i64 s) = (f s).isSome) (r : Int) (v : Value) :
    ∀ (s : Int) (z : Value), (D.put (.int .i64 r) (.held v)).atKey (.int .i64 s) (.held z) = .held (((fun i => if i = r then some v else f i) s).getD z) ∧ Maps.has (D.put (.int .i64 r) (.held v)) (.int .i64 s) = ((fun i => if i = r then some v else f i) s).isSome := fun s z => by
  by_cases hsr : s = r
  · subst hsr
    rw [Maps.atKey_put_same hm (k := .int .i64 s) trivial, Maps.has_put_same hm (k := .int .i64 s) trivial]
    simp
  · rw [Maps.atKey_put_other (ilit_ne hsr), Maps.has_put_other (ilit_ne hsr)]
    simp only [if_neg hsr]
    exact hf s z
theorem BI.store {w : World} {m N : Nat} {f : Int → Option Value} (h : BI w m N f) {t e : TypeId} (ht : Tryd.prog.underlying t = some (.map 3 e)) {r : Int} (v : Value) (hr : W64 r) (hN : N ≤ 1000000) :
    ∃ w', (Instr.mapUpdate t (.map (some m)) (.int .i64 r) v).run Tryd.prog w = .ok () w' ∧ BI w' m (N + 1) (fun i => if i = r then some v else f i) ∧ w.grownBy w' (some m) := by
  obtain ⟨D, ho, hf⟩ := h
  obtain ⟨w', hrun, hown, hturn⟩ := ho.store law3 ht (by unfold maxLen; omega) (ikey_of hr) (val := v) (d := .held v) (ps := []) rfl
  exact ⟨w', hrun, ⟨_, hown, iput_fun ho.isMap hf r v⟩, hturn.grown⟩
theorem turned_size {w w' : World} {b : Nat} (h : w.mapTurned w' b) : w'.heap.size = w.heap.size := by
  obtain ⟨es, clock, es', clock', hb, rfl⟩ := h
  simp [ChangeMaps.setBlock]
theorem BM.store_z {w : World} {m N : Nat} {f : By → Option Value} (h : BM w m N f) {t e : TypeId} (ht : Tryd.prog.underlying t = some (.map 9 e)) {r : By} (v : Value) (hr : r.length ≤ 100000) (hN : N ≤ 1000000) :
    ∃ w', (Instr.mapUpdate t (.map (some m)) (.string ⟨r.toArray⟩) v).run Tryd.prog w = .ok () w' ∧ BM w' m (N + 1) (fun i => if i = r then some v else f i) ∧ w.grownBy w' (some m) ∧ w'.heap.size = w.heap.size := by
  obtain ⟨D, ho, hf⟩ := h
  obtain ⟨w', hrun, hown, hturn⟩ := ho.store law9 ht (by unfold maxLen; omega) (key_of hr) (val := v) (d := .held v) (ps := []) rfl
  exact ⟨w', hrun, ⟨_, hown, put_fun ho.isMap hf r v⟩, hturn.grown, turned_size hturn⟩
theorem BI.store_z {w : World} {m N : Nat} {f : Int → Option Value} (h : BI w m N f) {t e : TypeId} (ht : Tryd.prog.underlying t = some (.map 3 e)) {r : Int} (v : Value) (hr : W64 r) (hN : N ≤ 1000000) :
    ∃ w', (Instr.mapUpdate t (.map (some m)) (.int .i64 r) v).run Tryd.prog w = .ok () w' ∧ BI w' m (N + 1) (fun i => if i = r then some v else f i) ∧ w.grownBy w' (some m) ∧ w'.heap.size = w.heap.size := by
  obtain ⟨D, ho, hf⟩ := h
  obtain ⟨w', hrun, hown, hturn⟩ := ho.store law3 ht (by unfold maxLen; omega) (ikey_of hr) (val := v) (d := .held v) (ps := []) rfl
  exact ⟨w', hrun, ⟨_, hown, iput_fun ho.isMap hf r v⟩, hturn.grown, turned_size hturn⟩
end Go.Proofs.YtckldeabbkdbjaaDoor

namespace Go.Proofs.YtckldeabbkdbjaaDoor
open Go.RowKit

/-- A command's item, and whether a group belongs to it. -/
def comV (k : Nat) (g : Bool) : Value := .agg #[.int .i64 (k : Int), .bool g]
def comF (s : By) : Option Value := if kindI s = 0 then none else some (comV (kindI s) (decide (kindI s ≤ 13)))
theorem und58 : Tryd.prog.underlying 58 = some (.map 9 94) := by kernel_rfl
theorem zero94 (w : World) : (zeroValue 94).run Tryd.prog w = .ok (.agg #[.int .i64 0, .bool false]) w := by kernel_rfl
theorem below_map {w w1 w2 : World} {m : Nat} (h : Below w.heap.size w w1) (hg : w1.grownBy w2 (some m)) (hm : w.heap.size ≤ m) : Below w.heap.size w w2 :=
  ⟨hg.os.trans h.os, hg.tape.trans h.tape, hg.output.trans h.output, Nat.le_trans h.size hg.size, fun k hk => (hg.block k (Nat.lt_of_lt_of_le hk h.size) (fun e => by have := Option.some.inj e; omega)).trans (h.block k hk)⟩
theorem com_is (s : By) : (if s = [110, 101, 119, 112, 97, 103, 101] then some (comV 16 false) else (if s = [112, 114, 105, 110, 116, 105, 110, 100, 101, 120] then some (comV 15 false) else (if s = [116, 111, 99] then some (comV 14 false) else (if s = [98, 105, 98] then some (comV 13 true) else (if s = [118, 97, 108, 117, 101] then some (comV 12 true) else (if s = [115, 116, 101, 112] then some (comV 11 true) else (if s = [105, 110, 100, 101, 120] then some (comV 10 true) else (if s = [99, 105, 116, 101] then some (comV 9 true) else (if s = [112, 97, 103, 101, 114, 101, 102] then some (comV 8 true) else (if s = [114, 101, 102] then some (comV 7 true) else (if s = [108, 97, 98, 101, 108] then some (comV 6 true) else (if s = [115, 117, 98] then some (comV 5 true) else (if s = [115, 101, 99, 116, 105, 111, 110] then some (comV 4 true) else none))))))))))))) = comF s := by
  by_cases h0 : s = [115, 101, 99, 116, 105, 111, 110]
  · subst h0; kernel_rfl
  by_cases h1 : s = [115, 117, 98]
  · subst h1; kernel_rfl
  by_cases h2 : s = [108, 97, 98, 101, 108]
  · subst h2; kernel_rfl
  by_cases h3 : s = [114, 101, 102]
  · subst h3; kernel_rfl
  by_cases h4 : s = [112, 97, 103, 101, 114, 101, 102]
  · subst h4; kernel_rfl
  by_cases h5 : s = [99, 105, 116, 101]
  · subst h5; kernel_rfl
  by_cases h6 : s = [105, 110, 100, 101, 120]
  · subst h6; kernel_rfl
  by_cases h7 : s = [115, 116, 101, 112]
  · subst h7; kernel_rfl
  by_cases h8 : s = [118, 97, 108, 117, 101]
  · subst h8; kernel_rfl
  by_cases h9 : s = [98, 105, 98]
  · subst h9; kernel_rfl
  by_cases h10 : s = [116, 111, 99]
  · subst h10; kernel_rfl
  by_cases h11 : s = [112, 114, 105, 110, 116, 105, 110, 100, 101, 120]
  · subst h11; kernel_rfl
  by_cases h12 : s = [110, 101, 119, 112, 97, 103, 101]
  · subst h12; kernel_rfl
  simp only [if_neg h0, if_neg h1, if_neg h2, if_neg h3, if_neg h4, if_neg h5, if_neg h6, if_neg h7, if_neg h8, if_neg h9, if_neg h10, if_neg h11, if_neg h12]
  have h : kindI s = 0 := by
    have : namesL.findIdx? (· == s) = none := by
      rw [List.findIdx?_eq_none_iff]
      intro x hx
      simp only [namesL, List.mem_cons, List.not_mem_nil, or_false] at hx
      have : x ≠ s := by
        rintro rfl
        rcases hx with h | h | h | h | h | h | h | h | h | h | h | h | h
        · exact h0 h
        · exact h1 h
        · exact h2 h
        · exact h3 h
        · exact h4 h
        · exact h5 h
        · exact h6 h
        · exact h7 h
        · exact h8 h
        · exact h9 h
        · exact h10 h
        · exact h11 h
        · exact h12 h
      simpa using this
    unfold kindI
    rw [this]
  unfold comF
  rw [if_pos h]
set_option maxRecDepth 100000 in
set_option maxHeartbeats 4000000 in
theorem commands_any (w : World) : Calls Tryd.prog 26 #[] w fun en w' => en = .returned (.map (some w.heap.size)) ∧ BM w' w.heap.size 13 comF ∧ Below w.heap.size w w' ∧ w'.heap.size = w.heap.size + 1 := by
  have b0 := BM.made w
  have hb0 := one_below w (.map #[] 0)
  obtain ⟨w1, r1, b1, g1, z1⟩ := b0.store_z und58 (r := [115, 101, 99, 116, 105, 111, 110]) (.agg #[.int .i64 4, .bool true]) (by decide) (by omega)
  obtain ⟨w2, r2, b2, g2, z2⟩ := b1.store_z und58 (r := [115, 117, 98]) (.agg #[.int .i64 5, .bool true]) (by decide) (by omega)
  obtain ⟨w3, r3, b3, g3, z3⟩ := b2.store_z und58 (r := [108, 97, 98, 101, 108]) (.agg #[.int .i64 6, .bool true]) (by decide) (by omega)
  obtain ⟨w4, r4, b4, g4, z4⟩ := b3.store_z und58 (r := [114, 101, 102]) (.agg #[.int .i64 7, .bool true]) (by decide) (by omega)
  obtain ⟨w5, r5, b5, g5, z5⟩ := b4.store_z und58 (r := [112, 97, 103, 101, 114, 101, 102]) (.agg #[.int .i64 8, .bool true]) (by decide) (by omega)
  obtain ⟨w6, r6, b6, g6, z6⟩ := b5.store_z und58 (r := [99, 105, 116, 101]) (.agg #[.int .i64 9, .bool true]) (by decide) (by omega)
  obtain ⟨w7, r7, b7, g7, z7⟩ := b6.store_z und58 (r := [105, 110, 100, 101, 120]) (.agg #[.int .i64 10, .bool true]) (by decide) (by omega)
  obtain ⟨w8, r8, b8, g8, z8⟩ := b7.store_z und58 (r := [115, 116, 101, 112]) (.agg #[.int .i64 11, .bool true]) (by decide) (by omega)
  obtain ⟨w9, r9, b9, g9, z9⟩ := b8.store_z und58 (r := [118, 97, 108, 117, 101]) (.agg #[.int .i64 12, .bool true]) (by decide) (by omega)
  obtain ⟨w10, r10, b10, g10, z10⟩ := b9.store_z und58 (r := [98, 105, 98]) (.agg #[.int .i64 13, .bool true]) (by decide) (by omega)
  obtain ⟨w11, r11, b11, g11, z11⟩ := b10.store_z und58 (r := [116, 111, 99]) (.agg #[.int .i64 14, .bool false]) (by decide) (by omega)
  obtain ⟨w12, r12, b12, g12, z12⟩ := b11.store_z und58 (r := [112, 114, 105, 110, 116, 105, 110, 100, 101, 120]) (.agg #[.int .i64 15, .bool false]) (by decide) (by omega)
  obtain ⟨w13, r13, b13, g13, z13⟩ := b12.store_z und58 (r := [110, 101, 119, 112, 97, 103, 101]) (.agg #[.int .i64 16, .bool false]) (by decide) (by omega)
  have hz : w13.heap.size = w.heap.size + 1 := by rw [z13, z12, z11, z10, z9, z8, z7, z6, z5, z4, z3, z2, z1]; simp
  have HB := Lib.hid (below_map (below_map (below_map (below_map (below_map (below_map (below_map (below_map (below_map (below_map (below_map (below_map (below_map hb0 g1 (Nat.le_refl _)) g2 (Nat.le_refl _)) g3 (Nat.le_refl _)) g4 (Nat.le_refl _)) g5 (Nat.le_refl _)) g6 (Nat.le_refl _)) g7 (Nat.le_refl _)) g8 (Nat.le_refl _)) g9 (Nat.le_refl _)) g10 (Nat.le_refl _)) g11 (Nat.le_refl _)) g12 (Nat.le_refl _)) g13 (Nat.le_refl _))
  have HM := Lib.hid (show BM w13 w.heap.size 13 comF from (funext com_is : _ = comF) ▸ b13)
  clear b0 b1 g1 z1 b2 g2 z2 b3 g3 z3 b4 g4 z4 b5 g5 z5 b6 g6 z6 b7 g7 z7 b8 g8 z8 b9 g9 z9 b10 g10 z10 b11 g11 z11 b12 g12 z12 b13 g13 z13 hb0
  have hmk : ∀ w, (Instr.makeMap 58 none).run Tryd.prog w = .ok (.map (some w.heap.size)) (w.alloc (.map #[] 0)) := fun _ => rfl
  go_enter Tryd.func26, Tryd.ntmps26
  go_wp2
  go_ret
  exact ⟨rfl, HM.out, HB.out, hz⟩
end Go.Proofs.YtckldeabbkdbjaaDoor

namespace Go.Proofs.YtckldeabbkdbjaaDoor
open Go.RowKit

/-- How an item is told: a command's name, and whether a group belongs to it. -/
def formV (k : Nat) : Value := .agg #[.string ⟨(nameI k).toArray⟩, .bool (decide (k ≤ 13))]
def formF (k : Int) : Option Value := if 4 ≤ k ∧ k ≤ 16 then some (formV k.toNat) else none
/-- Those that are no more to come. -/
def partF (left : Lit → Bool) (k : Int) : Option Value := if (4 ≤ k ∧ k ≤ 16) ∧ left (.string (nameI k.toNat)) = false then some (formV k.toNat) else none
theorem und73 : Tryd.prog.underlying 73 = some (.map 3 103) := by kernel_rfl
theorem zero103 (w : World) : (zeroValue 103).run Tryd.prog w = .ok (.agg #[.string ⟨#[]⟩, .bool false]) w := by kernel_rfl
theorem str_key_inv {key : Value} {kl : Lit} (h : keyOf Tryd.prog 9 key = some kl) : ∃ x : By, key = .string ⟨x.toArray⟩ ∧ kl = .string x := by
  cases key <;> simp [keyOf, Tryd.underlying9, mapKey] at h
  rename_i x
  exact ⟨x.data.toList, by simp, h.2.symm⟩
theorem name_kind {s : By} (h : kindI s ≠ 0) : nameI (kindI s) = s := by
  unfold kindI at h ⊢
  cases hf : namesL.findIdx? (· == s) with
  | none => rw [hf] at h; exact absurd rfl h
  | some i =>
    obtain ⟨h1, h2, _⟩ := List.findIdx?_eq_some_iff_getElem.1 hf
    show namesL.getD (i + 4 - 4) [] = s
    rw [Nat.add_sub_cancel, List.getD_eq_getElem?_getD, List.getElem?_eq_getElem h1]
    simpa using h2
theorem part_start (left : Lit → Bool) (hl : ∀ s : By, left (.string s) = (comF s).isSome) : partF left = fun _ => none := by
  funext s
  unfold partF
  by_cases h : 4 ≤ s ∧ s ≤ 16
  · have hk := kind_name (k := s.toNat) (by omega) (by omega)
    have : (comF (nameI s.toNat)).isSome = true := by
      unfold comF
      rw [hk, if_neg (by omega)]
      rfl
    rw [if_neg]
    rintro ⟨_, q⟩
    rw [hl, this] at q
    cases q
  · rw [if_neg]
    rintro ⟨q, _⟩
    exact h q
theorem part_end (left : Lit → Bool) (h : ∀ kl, left kl = false) : partF left = formF := by
  funext s
  unfold partF formF
  rw [h]
  simp
theorem part_step (left : Lit → Bool) (s : By) (h : kindI s ≠ 0) : (fun i : Int => if i = (kindI s : Int) then some (.agg #[.string ⟨s.toArray⟩, .bool (decide (kindI s ≤ 13))]) else partF left i) = partF (fun z => left z && !z.sameKey (.string s)) := by
  funext i
  have hk := kind_le s
  have hn := name_kind h
  by_cases hi : i = (kindI s : Int)
  · subst hi
    rw [if_pos rfl]
    unfold partF
    have e : ((kindI s : Nat) : Int).toNat = kindI s := by omega
    rw [e, hn, if_pos]
    · unfold formV
      rw [hn]
    · refine ⟨by omega, ?_⟩
      have : (Lit.string s).sameKey (.string s) = true := WideAt.sameKey_self trivial
      show (left (.string s) && !(Lit.string s).sameKey (.string s)) = false
      rw [this]
      simp
  · rw [if_neg hi]
    unfold partF
    by_cases hr : 4 ≤ i ∧ i ≤ 16
    · have hne : (Lit.string (nameI i.toNat)).sameKey (.string s) = false := by
        refine Maps.sameKey_ne fun e => hi ?_
        injection e with e
        have := kind_name (k := i.toNat) (by omega) (by omega)
        rw [e] at this
        omega
      show _ = if (4 ≤ i ∧ i ≤ 16) ∧ (left (.string (nameI i.toNat)) && !(Lit.string (nameI i.toNat)).sameKey (.string s)) = false then _ else _
      rw [hne]
      simp
    · rw [if_neg (fun q => hr q.1), if_neg (fun q => hr q.1)]
theorem BI.kept {w w' : World} {m N : Nat} {f : Int → Option Value} {row : Option Nat} (h : BI w m N f) (hg : w.grownBy w' row) (hm : some m ≠ row) : BI w' m N f := h.of_block (hg.block m h.lt hm)
theorem BI13 {w : World} {m N : Nat} {f : Int → Option Value} (h : BI w m N f) (hN : N ≤ 13) : BI w m 13 f := by
  obtain ⟨D, ⟨es, clock, hb, F, hs, hD⟩, h3⟩ := h
  exact ⟨D, ⟨es, clock, hb, F, Nat.le_trans hs hN, hD⟩, h3⟩
set_option maxRecDepth 100000 in
set_option maxHeartbeats 4000000 in
theorem forms_any (w : World) : Calls Tryd.prog 32 #[] w fun en w' => en = .returned (.map (some w.heap.size)) ∧ BI w' w.heap.size 13 formF ∧ Below w.heap.size w w' := by
  have hmk : ∀ w, (Instr.makeMap 73 none).run Tryd.prog w = .ok (.map (some w.heap.size)) (w.alloc (.map #[] 0)) := fun _ => rfl
  have C := Lib.hid (commands_any (w.alloc (.map #[] 0)))
  have BB := Lib.hid (one_below w (.map #[] 0))
  have BI0 := Lib.hid (BI.made w)
  have hz0 : (w.alloc (.map #[] 0)).heap.size = w.heap.size + 1 := by simp
  have HZ0 := Lib.hid hz0
  clear hz0
  go_enter Tryd.func32, Tryd.ntmps32
  go_wp2_with fail
  refine C.out.mono ?_
  rintro en w1 ⟨rfl, hbm, hb1, hs1⟩
  have HB1 := Lib.hid (bch BB.out hb1)
  have BI1 := Lib.hid (BI0.out.of_block (hb1.block _ (by rw [HZ0.out]; omega)))
  rw [HZ0.out] at hbm hs1 ⊢
  clear hb1 C BB BI0
  obtain ⟨D, ho, hf⟩ := hbm
  have HF := Lib.hid hf
  clear hf
  have hd := ho.size_le
  go_wp2_with (at_range; refine wpList_range_own _ rfl _ 58 rfl 9 94 law9 und58 anyElem (w.heap.size + 1) 13 D rfl ho ?_; intro w0 hrg0 hg0 hs0)
  go_frame
  have BI2 := Lib.hid (BI1.out.kept hg0 (by simp))
  have HB2 := Lib.hid (show Below w.heap.size w w0 from ⟨hg0.os.trans HB1.out.os, hg0.tape.trans HB1.out.tape, hg0.output.trans HB1.out.output, Nat.le_trans HB1.out.size hg0.size, fun k hk => (hg0.block k (Nat.lt_of_lt_of_le hk HB1.out.size) (by simp)).trans (HB1.out.block k hk)⟩)
  have P0 := Lib.hid (part_start (Maps.has D) fun s => (HF.out s .nilFunc).2)
  have hr0 : w1.heap.size = w.heap.size + 2 := hs1
  rw [hr0] at hrg0 hs0 ⊢
  clear BI1 HB1 hg0 ho hmk hs1 hr0
  go_loopw [2] (fun _ wr => ∃ (left : Lit → Bool) (cnt N : Nat), wr.ranges Tryd.prog 9 anyElem (w.heap.size + 1) (w.heap.size + 2) 13 D left cnt ∧ Hid (BI wr w.heap.size N (partF left)) ∧ N + cnt ≤ 13 ∧ Hid (Below w.heap.size w wr)) (fun _ wr => wr.rangeLeft (w.heap.size + 1) (w.heap.size + 2))
  case atStart => exact ⟨_, _, 0, hrg0, by rw [P0.out]; exact BI2, by omega, HB2⟩
  case round =>
    obtain ⟨left, cnt, N, hrg, HI, hN, HB⟩ := hrel
    clear hrg0 BI2 HB2 P0 hd hs0 w0
    go_wp2_with (at_next; refine wpList_next_ranges _ rfl _ rfl 9 law9 anyElem (fun x : By => Value.string ⟨x.toArray⟩) (fun c : Value => c) (fun key kl hkey => by obtain ⟨x, h1, _⟩ := str_key_inv hkey; exact ⟨x, h1⟩) (fun v y _ => ⟨v, rfl⟩) (w.heap.size + 1) (w.heap.size + 2) 13 D left cnt rfl hrg ?_ ?_)
    · intro h0 hl0
      have HE := Lib.hid hl0
      clear hl0
      have HI2 := Lib.hid (BI13 HI.out (by omega))
      rw [part_end left HE.out] at HI2
      go_wp2_with fail
      go_ret
      exact ⟨rfl, HI2.out, HB.out⟩
    · intro x c kl y yp w2 cnt1 hkey hlk hy hat hrg1 hlt hg1 hs1 hen
      obtain ⟨x', ex, rfl⟩ := str_key_inv hkey
      obtain rfl : x' = x := by
        have := Value.string.inj ex
        simpa using this.symm
      obtain ⟨hx0, rfl⟩ : kindI x' ≠ 0 ∧ c = .agg #[.int .i64 (kindI x' : Nat), .bool (decide (kindI x' ≤ 13))] := by
        have hy' : y = .held c := congrArg Prod.fst (Option.some.inj hy).symm
        subst hy'
        have e1 := (hat (.held .nilFunc)).symm.trans (HF.out x' .nilFunc).1
        have e2 := (hat (.held .nilIface)).symm.trans (HF.out x' .nilIface).1
        have e1 := held_inj e1
        have e2 := held_inj e2
        unfold comF at e1 e2
        by_cases h0 : kindI x' = 0
        · rw [if_pos h0] at e1 e2
          simp only [Option.getD_none] at e1 e2
          rw [e1] at e2
          cases e2
        · rw [if_neg h0] at e1
          exact ⟨h0, e1⟩
      have hk := kind_le x'
      have HP := Lib.hid (part_step left x' hx0)
      have HXN := Lib.hid hx0
      have HI2 := HI.out.kept hg1 (by simp)
      have HB2 := HB.out.trans (show Below w.heap.size wr w2 from ⟨hg1.os, hg1.tape, hg1.output, hg1.size, fun k hk => hg1.block k (Nat.lt_of_lt_of_le hk HB.out.size) (by simp; omega)⟩)
      obtain ⟨j, hj⟩ : ∃ j, kindI x' = j := ⟨_, rfl⟩
      rw [hj] at hen hk HP
      obtain ⟨g, hg⟩ : ∃ g, decide (j ≤ 13) = g := ⟨_, rfl⟩
      rw [hg] at hen HP
      have hba := one_below w2 (.cells #[.int .i64 (j : Int), .bool g] 94)
      have HI3 := HI2.of_block (hba.block _ HI2.lt)
      obtain ⟨w4, hst, HI4, hg4, hz4⟩ := HI3.store_z und73 (r := (j : Int)) (.agg #[.string ⟨x'.toArray⟩, .bool g]) (by unfold W64; omega) (by omega)
      have hrg3 := (hrg1.alloc (.cells #[.int .i64 (j : Int), .bool g] 94)).kept hg4 (by simp) (by simp)
      have HB4 := below_map (bch HB2 hba) hg4 (Nat.le_refl _)
      rw [HP.out] at HI4
      have HBB := Lib.hid HB4
      have HII := Lib.hid HI4
      have q0 := new_fst w2 (.int .i64 (j : Int)) (.bool g) 94
      have q1 := new_snd w2 (.int .i64 (j : Int)) (.bool g) 94
      clear hat hy hkey ex HP HI2 HB2 hj hg hba HI3 HB4 HI4 HI HB HF hg4 hg1
      go_wp2_with fail
      go_roundw
      case rel => exact ⟨_, cnt1, N + 1, hrg3, HII, by omega, HBB⟩
      case measure => rw [hrg3.left_eq, hrg.left_eq]; omega
end Go.Proofs.YtckldeabbkdbjaaDoor

/-
  Words for memory: a store into a row of tokens of one's own; lists of lists that lie behind a place; how long what is filled in is.
-/
import Derived.Test.YtjneeikkakekjaaDoorNU
namespace Go.Proofs.YtjneeikkakekjaaDoor
open Go.RowKit

theorem fset1 : ∀ (fs : List Tok) (i : Nat) (f : Tok) (k : Int), fs[i]? = some f → (fcells fs).set (i * 2) (.int .i64 k) = fcells (fs.set i (k, f.2))
  | [], i, f, k, h => by simp at h
  | g :: r, 0, f, k, h => by simp at h; subst h; rfl
  | g :: r, i + 1, f, k, h => by
    have ih := fset1 r i f k (by simpa using h)
    rw [show (i + 1) * 2 = i * 2 + 1 + 1 by omega, List.set_cons_succ]
    simp only [fcells, List.set_cons_succ, ih]
theorem fset2 : ∀ (fs : List Tok) (i : Nat) (f : Tok) (s : By), fs[i]? = some f → (fcells fs).set (i * 2 + 1) (.string ⟨s.toArray⟩) = fcells (fs.set i (f.1, s))
  | [], i, f, k, h => by simp at h
  | g :: r, 0, f, k, h => by simp at h; subst h; rfl
  | g :: r, i + 1, f, k, h => by
    have ih := fset2 r i f k (by simpa using h)
    rw [show (i + 1) * 2 + 1 = i * 2 + 1 + 1 + 1 by omega, List.set_cons_succ]
    simp only [fcells, List.set_cons_succ, ih]
theorem Own.addr {t : TypeId} {w : World} {base c : Nat} {A : Option Addr} {fs : List Tok} (h : Own t w base A c fs) (h0 : 0 < fs.length) : ∃ g, A = some ⟨g, 0, none⟩ ∧ base ≤ g ∧ g < w.heap.size := by
  obtain ⟨g, cap, hv, h1, h2⟩ := World.ownsRow.form h h0
  simp only [Value.slice.injEq] at hv
  exact ⟨g, hv.1, h1, h2⟩
theorem Own.store1 {t : TypeId} {w : World} {base g c : Nat} {fs : List Tok} (h : Own t w base (some ⟨g, 0, none⟩) c fs) {i : Nat} {f : Tok} (hi : fs[i]? = some f) (k : Int) {r : List Tok} (hr : fs.set i (k, f.2) = r) :
    Own t (w.setCell ⟨g, i * 2, none⟩ (.int .i64 k)) base (some ⟨g, 0, none⟩) c r := by
  have := (World.ownsRow.stored h (i * 2) (.int .i64 k)).1
  rw [fset1 fs i f k hi, hr] at this
  have hl : r.length = fs.length := by rw [← hr]; simp
  unfold Own; rw [hl]; exact this
theorem Own.store2 {t : TypeId} {w : World} {base g c : Nat} {fs : List Tok} (h : Own t w base (some ⟨g, 0, none⟩) c fs) {i : Nat} {f : Tok} (hi : fs[i]? = some f) (s : By) {r : List Tok} (hr : fs.set i (f.1, s) = r) :
    Own t (w.setCell ⟨g, i * 2 + 1, none⟩ (.string ⟨s.toArray⟩)) base (some ⟨g, 0, none⟩) c r := by
  have := (World.ownsRow.stored h (i * 2 + 1) (.string ⟨s.toArray⟩)).1
  rw [fset2 fs i f s hi, hr] at this
  have hl : r.length = fs.length := by rw [← hr]; simp
  unfold Own; rw [hl]; exact this
theorem Own.frozen {t : TypeId} {w : World} {base g c : Nat} {fs : List Tok} (h : Own t w base (some ⟨g, 0, none⟩) c fs) (j : Nat) : w.frozen? ⟨g, j, none⟩ = false := World.ownsRow.frozenAt h j
theorem Own.cells2 {t : TypeId} {w : World} {base g c : Nat} {fs : List Tok} (h : Own t w base (some ⟨g, 0, none⟩) c fs) {i : Nat} {f : Tok} (hi : fs[i]? = some f) :
    w.cell? ⟨g, i * 2, none⟩ = some (.int .i64 f.1) ∧ w.cell? ⟨g, i * 2 + 1, none⟩ = some (.string ⟨f.2.toArray⟩) := by
  have hl := (List.getElem?_eq_some_iff.1 hi).1
  obtain ⟨h1, h2⟩ := fcells_at fs i f hi
  exact ⟨(World.ownsRow.cellAt h (i * 2) (by omega)).trans h1, (World.ownsRow.cellAt h (i * 2 + 1) (by omega)).trans h2⟩
theorem cell_set {w : World} {p q : Addr} {v u : Value} (hb : p.block ≠ q.block) (h : w.cell? p = some u) : (w.setCell q v).cell? p = some u := by
  have hs := heap_setCell_other w q p.block v hb
  rw [← h]; simp only [World.cell?, hs]
theorem Rd.set {w : World} {B : Option Addr} {l : List Tok} (h : Rd w B l) {q : Addr} (hf : 0 < l.length → ∀ a, B = some a → a.block ≠ q.block) (v : Value) : Rd (w.setCell q v) B l := fun h0 => by
  obtain ⟨b, o, e, hc⟩ := h h0
  have hne := hf h0 _ e
  exact ⟨b, o, e, fun i f hi => ⟨cell_set hne (hc i f hi).1, cell_set hne (hc i f hi).2⟩⟩

/-- A row of one's own that holds these lists, each in another block, all of it behind that place. -/
def OwnLG (t : TypeId) (w : World) (base : Nat) (A : Option Addr) (c : Nat) (ll : List (List Tok)) : Prop :=
  ∃ cs : List Value, w.ownsRow base t 1 (Value.slice A ll.length c) ll.length cs ∧ ∀ (i : Nat) (l : List Tok), ll[i]? = some l → ∃ (B : Option Addr) (d : Nat), cs[i]? = some (Value.slice B l.length d) ∧ Rd w B l ∧ (0 < l.length → Far (Value.slice A ll.length c).ownBlock B) ∧ (0 < l.length → ∀ a, B = some a → base ≤ a.block)
/-- The slice at A reads as these lists, all of it behind that place. -/
def RdLG (w : World) (base : Nat) (A : Option Addr) (ll : List (List Tok)) : Prop :=
  0 < ll.length → ∃ b o, A = some ⟨b, o, none⟩ ∧ base ≤ b ∧ ∀ i l, ll[i]? = some l → ∃ (B : Option Addr) (d : Nat), w.cell? ⟨b, o + i, none⟩ = some (.slice B l.length d) ∧ Rd w B l ∧ (0 < l.length → ∀ a, B = some a → base ≤ a.block)
theorem RdLG.plain {w : World} {base : Nat} {A : Option Addr} {ll : List (List Tok)} (h : RdLG w base A ll) : RdL w A ll := fun h0 => by
  obtain ⟨b, o, e, _, hc⟩ := h h0
  refine ⟨b, o, e, fun i l hi => ?_⟩
  obtain ⟨B, d, h1, h2, _⟩ := hc i l hi
  exact ⟨B, d, h1, h2⟩
theorem RdLG.below {w w' : World} {base : Nat} {A : Option Addr} {ll : List (List Tok)} (h : RdLG w base A ll) (hb : Below w.heap.size w w') : RdLG w' base A ll := fun h0 => by
  obtain ⟨b, o, e, h1, hc⟩ := h h0
  refine ⟨b, o, e, h1, fun i l hi => ?_⟩
  obtain ⟨B, d, h1, h2, h3⟩ := hc i l hi
  exact ⟨B, d, cell_below hb h1, h2.below hb, h3⟩
theorem RdLG.set {w : World} {base : Nat} {A : Option Addr} {ll : List (List Tok)} (h : RdLG w base A ll) {q : Addr} (hq : q.block < base) (v : Value) : RdLG (w.setCell q v) base A ll := fun h0 => by
  obtain ⟨b, o, e, h1, hc⟩ := h h0
  refine ⟨b, o, e, h1, fun i l hi => ?_⟩
  obtain ⟨B, d, h2, h3, h4⟩ := hc i l hi
  exact ⟨B, d, cell_set (p := ⟨b, o + i, none⟩) (by show b ≠ q.block; omega) h2, h3.set (fun h0 a ha => by have := h4 h0 a ha; omega) v, h4⟩
theorem OwnLG.rd {t : TypeId} {w : World} {base : Nat} {A : Option Addr} {c : Nat} {ll : List (List Tok)} (h : OwnLG t w base A c ll) : RdLG w base A ll := fun h0 => by
  obtain ⟨cs, hown, hc⟩ := h
  obtain ⟨g, cap, hv, hg, _⟩ := World.ownsRow.form hown h0
  simp only [Value.slice.injEq] at hv
  obtain ⟨rfl, _, _⟩ := hv
  refine ⟨g, 0, rfl, hg, fun i l hi => ?_⟩
  obtain ⟨B, d, h1, h2, _, h4⟩ := hc i l hi
  have hlt : i < ll.length := (List.getElem?_eq_some_iff.1 hi).1
  have c1 := World.ownsRow.cellAt hown i (by omega)
  rw [Nat.zero_add]
  exact ⟨B, d, c1.trans h1, h2, h4⟩
theorem OwnLG.below {t : TypeId} {w w' : World} {base : Nat} {A : Option Addr} {c : Nat} {ll : List (List Tok)} (h : OwnLG t w base A c ll) (hb : Below w.heap.size w w') : OwnLG t w' base A c ll := by
  obtain ⟨cs, hown, hc⟩ := h
  refine ⟨cs, own_row_below hown hb, fun i l hi => ?_⟩
  obtain ⟨B, d, h1, h2, h3⟩ := hc i l hi
  exact ⟨B, d, h1, h2.below hb, h3⟩
theorem OwnLG.lt {t : TypeId} {w : World} {base : Nat} {A : Option Addr} {c : Nat} {ll : List (List Tok)} (h : OwnLG t w base A c ll) : ∀ g, (Value.slice A ll.length c).ownBlock = some g → g < w.heap.size := fun g hg => by
  obtain ⟨cs, hown, _⟩ := h
  exact (hown.lt g hg).2
theorem ownLG_empty (t : TypeId) (w : World) : OwnLG t (w.alloc (.cells #[] t)) w.heap.size (some ⟨w.heap.size, 0, none⟩) 0 [] :=
  ⟨[], World.ownsRow_lit w #[] 0 (Nat.le_refl _) (by unfold maxLen; omega) (by simp), fun i l hi => by simp at hi⟩
theorem own_ge {t : TypeId} {w : World} {base : Nat} {B : Option Addr} {d : Nat} {l : List Tok} (h : Own t w base B d l) : 0 < l.length → ∀ a, B = some a → base ≤ a.block := fun h0 a ha => by
  obtain ⟨g, e, h1, _⟩ := h.addr h0
  rw [e] at ha; cases ha; exact h1
theorem run_append_lg (T E : TypeId) (hT : Tryd.prog.underlying T = some (.slice E)) (hI : (Tryd.prog.info? E).map (fun i => (i.zero, i.size, i.bytes)) = some (some (.slice none 0 0), 1, 24))
    (w : World) (base : Nat) (ty : TypeId) (A : Option Addr) (c : Nat) (ll : List (List Tok)) (hown : OwnLG E w base A c ll) (g : Nat) (B : Option Addr) (d : Nat) (l : List Tok)
    (hc : w.cell? ⟨g, 0, none⟩ = some (.slice B l.length d)) (hr : Rd w B l) (hf : 0 < l.length → Far (Value.slice A ll.length c).ownBlock B) (hge : 0 < l.length → ∀ a, B = some a → base ≤ a.block) (hlen : ll.length + 1 ≤ 200000) (hbase : base ≤ w.heap.size) :
    ∃ A' c' w', (Builtin.append_ #[T, T] ty #[.slice A ll.length c, .slice (some ⟨g, 0, none⟩) 1 1]).run Tryd.prog w = .ok (.slice A' (ll ++ [l]).length c') w' ∧ OwnLG E w' base A' c' (ll ++ [l]) ∧ Below base w w' := by
  obtain ⟨i0, hi, hz0, hz1, hz2⟩ := info_parts hI
  obtain ⟨cs, ho, hcs⟩ := hown
  obtain ⟨v', w', h1, h2, h3, _, h5⟩ := run_append_own_at (P := Tryd.prog) w base T ty E i0 _ 1 24 hT hi hz0 hz1 hz2 rfl (by decide) (.slice A ll.length c) ll.length cs ho ⟨g, 0, none⟩ 1 1 [.slice B l.length d] rfl
    (fun j u hu => by
      match j, hu with
      | 0, hu => simp at hu; subst hu; rw [add_lit]; exact hc
      | j + 1, hu => simp at hu)
    (fun u hu => by simp at hu; subst hu; rfl) (by unfold maxLen; omega) (by omega) hbase
  obtain ⟨A', c', rfl⟩ := own_shape h2
  have e1 : ll.length + 1 = (ll ++ [l]).length := by simp
  rw [e1] at h1 h2 h5
  have far : ∀ (B : Option Addr) (m : List Tok), Rd w B m → (0 < m.length → Far (Value.slice A ll.length c).ownBlock B) → 0 < m.length → Far (Value.slice A' (ll ++ [l]).length c').ownBlock B := fun B m hm hfm h0 a ha e => by
    rcases h5 with q | q
    · rw [q] at e; exact hfm h0 a ha e
    · rw [q] at e
      have hl := rd_lt hm h0 a ha
      have := Option.some.inj e
      omega
  refine ⟨A', c', w', h1, ⟨cs ++ [.slice B l.length d], h2, fun i m hi => ?_⟩, below_grown ho h3 hbase⟩
  rcases Nat.lt_or_ge i ll.length with q | q
  · rw [List.getElem?_append_left q] at hi
    obtain ⟨B2, d2, k1, k2, k3, k4⟩ := hcs i m hi
    have hcl : i < cs.length := (List.getElem?_eq_some_iff.1 k1).1
    exact ⟨B2, d2, by rw [List.getElem?_append_left hcl]; exact k1, k2.grown h3 k3, far B2 m k2 k3, k4⟩
  · have hil : i = ll.length := by
      have := (List.getElem?_eq_some_iff.1 hi).1
      simp at this; omega
    subst hil
    rw [List.getElem?_append_right (Nat.le_refl _), Nat.sub_self] at hi
    simp at hi
    subst hi
    have hcl : cs.length = ll.length := by have := ho.1; omega
    exact ⟨B, d, by rw [List.getElem?_append_right (by omega), hcl, Nat.sub_self]; rfl, hr.grown h3 hf, far B l hr hf, hge⟩
theorem wpList_append_lg (T E : TypeId) (hT : Tryd.prog.underlying T = some (.slice E)) (hI : (Tryd.prog.info? E).map (fun i => (i.zero, i.size, i.bytes)) = some (some (.slice none 0 0), 1, 24))
    {ops : Array Oper} {rest : List Oper} {o : Oper} {a : Act} {Q : Exit → Act → World → Prop} (w : World) (hgd : o.guard = none) (s x : Operand)
    (ho : o.op = .call { callee := .builtin .append, args := #[s, x], argTypes := #[T, T] }) (base : Nat) (A : Option Addr) (c : Nat) (ll : List (List Tok)) (hs : a.eval s = .slice A ll.length c) (hown : OwnLG E w base A c ll)
    (g : Nat) (B : Option Addr) (d : Nat) (l : List Tok) (hx : a.eval x = .slice (some ⟨g, 0, none⟩) 1 1) (hc : w.cell? ⟨g, 0, none⟩ = some (.slice B l.length d)) (hr : Rd w B l) (hf : 0 < l.length → Far (Value.slice A ll.length c).ownBlock B)
    (hge : 0 < l.length → ∀ a, B = some a → base ≤ a.block) (hlen : ll.length + 1 ≤ 200000) (hbase : base ≤ w.heap.size) (r : List (List Tok)) (hr0 : ll ++ [l] = r)
    (h : ∀ A' c' w', OwnLG E w' base A' c' r → Below base w w' → wpList Tryd.prog ops Q rest (a.put o.dst (.slice A' r.length c')) w') : wpList Tryd.prog ops Q (o :: rest) a w := by
  subst hr0
  refine wpList_plain hgd fun K hK => ?_
  obtain ⟨A', c', w', hrun, h2, h3⟩ := run_append_lg T E hT hI w base o.type A c ll hown g B d l hc hr hf hge hlen hbase
  unfold Oper.wp
  simp only [execOp, ho, resolve, invoke, builtin, Sem.run_bind, Sem.run_pure, Result.andThen_ok, List.map_toArray, List.map_cons, List.map_nil, hs, hx, hrun]
  exact hK _ _ (h A' c' w' h2 h3)
theorem arg_size {n : Nat} {args : List (List Tok)} (h : ∀ l ∈ args, l.length ≤ n) (s : By) : (argOf args s).length ≤ n := by
  have hg : ∀ i, (args.getD i []).length ≤ n := fun i => by
    rw [List.getD_eq_getElem?_getD]
    cases e : args[i]? with
    | none => simp
    | some l => exact h l (List.mem_of_getElem? e)
  match s with
  | [] => simp [argOf]
  | [d] =>
    simp only [argOf]
    split
    · exact hg _
    · simp
  | _ :: _ :: _ => simp [argOf]
theorem fill_size {n : Nat} (hn : 1 ≤ n) {args : List (List Tok)} (h : ∀ l ∈ args, l.length ≤ n) : ∀ (body : List Tok), (fillL body args).length ≤ body.length * n
  | [] => by simp [fillL]
  | t :: r => by
    have ih := fill_size hn h r
    have h1 : (fillT args t).length ≤ n := by
      unfold fillT
      split
      · exact arg_size h _
      · simpa using hn
    rw [show fillL (t :: r) args = fillT args t ++ fillL r args from by simp [fillL], List.length_append, List.length_cons, Nat.succ_mul]
    omega
end Go.Proofs.YtjneeikkakekjaaDoor

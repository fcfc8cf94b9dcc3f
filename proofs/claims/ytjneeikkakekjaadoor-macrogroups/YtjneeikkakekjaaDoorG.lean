/-
  Append of tokens onto a row of tokens of one's own.
-/
import Derived.Test.YtjneeikkakekjaaDoorE
namespace Go.Proofs.YtjneeikkakekjaaDoor
open Go.RowKit

theorem fcells_inv : ∀ (gs : List Tok) (j : Nat) (u : Value), (fcells gs)[j]? = some u → ∃ f, gs[j / 2]? = some f ∧ ((j = j / 2 * 2 ∧ u = .int .i64 f.1) ∨ (j = j / 2 * 2 + 1 ∧ u = .string ⟨f.2.toArray⟩))
  | [], j, u, h => by simp [fcells] at h
  | f :: r, 0, u, h => by simp [fcells] at h; exact ⟨f, rfl, .inl ⟨rfl, h.symm⟩⟩
  | f :: r, 1, u, h => by simp [fcells] at h; exact ⟨f, rfl, .inr ⟨rfl, h.symm⟩⟩
  | f :: r, j + 2, u, h => by
    obtain ⟨g, h1, h2⟩ := fcells_inv r j u (by simpa [fcells] using h)
    have e : (j + 2) / 2 = j / 2 + 1 := by omega
    refine ⟨g, by rw [e]; simpa using h1, ?_⟩
    rw [e]
    rcases h2 with ⟨h2, h3⟩ | ⟨h2, h3⟩
    · exact .inl ⟨by omega, h3⟩
    · exact .inr ⟨by omega, h3⟩
theorem add_lit (b o j : Nat) : (⟨b, o, none⟩ : Addr).add j = ⟨b, o + j, none⟩ := by unfold Addr.add; split <;> simp_all
theorem Rd.news {w : World} {b o : Nat} {gs : List Tok} (h : ∀ i f, gs[i]? = some f → w.cell? ⟨b, o + i * 2, none⟩ = some (.int .i64 f.1) ∧ w.cell? ⟨b, o + i * 2 + 1, none⟩ = some (.string ⟨f.2.toArray⟩)) :
    ∀ j u, (fcells gs)[j]? = some u → w.cell? ((⟨b, o, none⟩ : Addr).add j) = some u := fun j u hu => by
  obtain ⟨f, h1, h2⟩ := fcells_inv gs j u hu
  obtain ⟨k1, k2⟩ := h _ f h1
  rw [add_lit]
  rcases h2 with ⟨e, rfl⟩ | ⟨e, rfl⟩
  · rw [e]; exact k1
  · rw [e, ← Nat.add_assoc]; exact k2

theorem Tryd.info41 : (Tryd.prog.info? 41).map (fun i => (i.zero, i.size, i.bytes)) = some (some (.agg #[.int .i64 0, .string ⟨#[]⟩]), 2, 24) := by kernel_rfl
theorem Tryd.info81 : (Tryd.prog.info? 81).map (fun i => (i.zero, i.size, i.bytes)) = some (some (.agg #[.int .i64 0, .string ⟨#[]⟩]), 2, 24) := by kernel_rfl
theorem run_append_none (w : World) (base : Nat) (t ty e : TypeId) (i : TypeInfo) (size c : Nat) (ht : Tryd.prog.underlying t = some (.slice e)) (hi : Tryd.prog.info? e = some i)
    (v : Value) (n : Nat) (xs : List Value) (hown : w.ownsRow base e size v n xs) :
    (Builtin.append_ #[t, t] ty #[v, .slice none 0 c]).run Tryd.prog w = .ok v w := by
  rcases hown.2 with ⟨rfl, rfl⟩ | ⟨g, cap, cur, rfl, _, _, hnc, _⟩
  · simp [Builtin.append_, run_underlying ht, sizeOf, typeInfo, hi, Builtin.lenOf, Builtin.firstCells]
  · simp [Builtin.append_, run_underlying ht, sizeOf, typeInfo, hi, Builtin.lenOf, Builtin.firstCells, hnc, storeCells]

theorem own_shape {w : World} {base e size n : Nat} {v : Value} {xs : List Value} (h : w.ownsRow base e size v n xs) : ∃ A c, v = .slice A n c := by
  rcases h.2 with ⟨hv, h0⟩ | ⟨g, cap, cur, hv, _⟩
  · subst h0; exact ⟨_, _, hv⟩
  · exact ⟨_, _, hv⟩
theorem below_grown {w w' : World} {base e size n : Nat} {v : Value} {xs : List Value} (h : w.ownsRow base e size v n xs) (hg : w.grownBy w' v.ownBlock) (hb : base ≤ w.heap.size) : Below base w w' :=
  (Below.refl base w).grown hg hb fun k hk => (h.lt k hk).1

theorem run_append_rd37 (w : World) (base : Nat) (ty : TypeId) (v : Value) (xs : List Tok) (hown : w.ownsRow base 41 2 v xs.length (fcells xs)) (A : Option Addr) (c : Nat) (gs : List Tok) (hr : Rd w A gs)
    (hlen : xs.length + gs.length ≤ 200000) (hbase : base ≤ w.heap.size) :
    ∃ A' c' w', (Builtin.append_ #[22, 22] ty #[v, .slice A gs.length c]).run Tryd.prog w = .ok (.slice A' (xs ++ gs).length c') w' ∧ Own 41 w' base A' c' (xs ++ gs) ∧ Below base w w' := by
  obtain ⟨i0, hi, hz0, hz1, hz2⟩ := info_parts Tryd.info41
  have main : ∀ (ad : Addr), (∀ j u, (fcells gs)[j]? = some u → w.cell? (ad.add j) = some u) →
      ∃ A' c' w', (Builtin.append_ #[22, 22] ty #[v, .slice (some ad) gs.length c]).run Tryd.prog w = .ok (.slice A' (xs ++ gs).length c') w' ∧ Own 41 w' base A' c' (xs ++ gs) ∧ Below base w w' := fun ad hn => by
    obtain ⟨v', w', h1, h2, h3, _⟩ := run_append_own (P := Tryd.prog) w base 22 ty 41 i0 _ 2 24 Tryd.underlying22 hi hz0 hz1 hz2 rfl (by decide) v xs.length (fcells xs) hown ad gs.length c (fcells gs) (fcells_len gs) hn (fcells_one gs)
      (by unfold maxLen; omega) (by omega) hbase
    rw [← fcells_app] at h2
    obtain ⟨A', c', rfl⟩ := own_shape h2
    rw [← List.length_append] at h2 h1
    exact ⟨A', c', w', h1, h2, below_grown hown h3 hbase⟩
  cases A with
  | none =>
    have hg : gs = [] := by
      rcases Nat.eq_zero_or_pos gs.length with h | h
      · exact List.length_eq_zero_iff.1 h
      · obtain ⟨b, o, e, _⟩ := hr h; cases e
    subst hg
    obtain ⟨A', c', rfl⟩ := own_shape hown
    refine ⟨A', c', w, ?_, ?_, Below.refl _ _⟩
    · rw [List.append_nil]; exact run_append_none w base 22 ty 41 i0 2 c Tryd.underlying22 hi _ _ _ hown
    · rw [List.append_nil]; exact hown
  | some ad =>
    rcases Nat.eq_zero_or_pos gs.length with h | h
    · have hg := List.length_eq_zero_iff.1 h
      subst hg
      exact main ad fun j u hu => by simp [fcells] at hu
    · obtain ⟨b, o, e, hc⟩ := hr h
      cases e
      exact main _ (Rd.news hc)
theorem wpList_append_rd37 {ops : Array Oper} {rest : List Oper} {o : Oper} {a : Act} {Q : Exit → Act → World → Prop} (w : World) (hgd : o.guard = none) (s x : Operand)
    (ho : o.op = .call { callee := .builtin .append, args := #[s, x], argTypes := #[22, 22] }) (base : Nat) (v : Value) (xs : List Tok) (hs : a.eval s = v) (hown : w.ownsRow base 41 2 v xs.length (fcells xs))
    (A : Option Addr) (c : Nat) (gs : List Tok) (hx : a.eval x = .slice A gs.length c) (hr : Rd w A gs) (hlen : xs.length + gs.length ≤ 200000) (hbase : base ≤ w.heap.size)
    (h : ∀ A' c' w', Own 41 w' base A' c' (xs ++ gs) → Below base w w' → wpList Tryd.prog ops Q rest (a.put o.dst (.slice A' (xs ++ gs).length c')) w') : wpList Tryd.prog ops Q (o :: rest) a w := by
  refine wpList_plain hgd fun K hK => ?_
  obtain ⟨A', c', w', hrun, h2, h3⟩ := run_append_rd37 w base o.type v xs hown A c gs hr hlen hbase
  unfold Oper.wp
  simp only [execOp, ho, resolve, invoke, builtin, Sem.run_bind, Sem.run_pure, Result.andThen_ok, List.map_toArray, List.map_cons, List.map_nil, hs, hx, hrun]
  exact hK _ _ (h A' c' w' h2 h3)

/-- The same, the source's length as it is spelt. -/
theorem wpList_append_rdn37 {ops : Array Oper} {rest : List Oper} {o : Oper} {a : Act} {Q : Exit → Act → World → Prop} (w : World) (hgd : o.guard = none) (s x : Operand)
    (ho : o.op = .call { callee := .builtin .append, args := #[s, x], argTypes := #[22, 22] }) (base : Nat) (v : Value) (xs : List Tok) (hs : a.eval s = v) (hown : w.ownsRow base 41 2 v xs.length (fcells xs))
    (A : Option Addr) (m c : Nat) (gs : List Tok) (hm : m = gs.length) (hx : a.eval x = .slice A m c) (hr : Rd w A gs) (hlen : xs.length + gs.length ≤ 200000) (hbase : base ≤ w.heap.size) (r : List Tok) (hr0 : xs ++ gs = r)
    (h : ∀ A' c' w', Own 41 w' base A' c' r → Below base w w' → wpList Tryd.prog ops Q rest (a.put o.dst (.slice A' r.length c')) w') : wpList Tryd.prog ops Q (o :: rest) a w := by
  subst hm hr0
  exact wpList_append_rd37 w hgd s x ho base v xs hs hown A c gs hx hr hlen hbase h

theorem run_append_rd40 (w : World) (base : Nat) (ty : TypeId) (v : Value) (xs : List Tok) (hown : w.ownsRow base 81 2 v xs.length (fcells xs)) (A : Option Addr) (c : Nat) (gs : List Tok) (hr : Rd w A gs)
    (hlen : xs.length + gs.length ≤ 200000) (hbase : base ≤ w.heap.size) :
    ∃ A' c' w', (Builtin.append_ #[28, 28] ty #[v, .slice A gs.length c]).run Tryd.prog w = .ok (.slice A' (xs ++ gs).length c') w' ∧ Own 81 w' base A' c' (xs ++ gs) ∧ Below base w w' := by
  obtain ⟨i0, hi, hz0, hz1, hz2⟩ := info_parts Tryd.info81
  have main : ∀ (ad : Addr), (∀ j u, (fcells gs)[j]? = some u → w.cell? (ad.add j) = some u) →
      ∃ A' c' w', (Builtin.append_ #[28, 28] ty #[v, .slice (some ad) gs.length c]).run Tryd.prog w = .ok (.slice A' (xs ++ gs).length c') w' ∧ Own 81 w' base A' c' (xs ++ gs) ∧ Below base w w' := fun ad hn => by
    obtain ⟨v', w', h1, h2, h3, _⟩ := run_append_own (P := Tryd.prog) w base 28 ty 81 i0 _ 2 24 Tryd.underlying28 hi hz0 hz1 hz2 rfl (by decide) v xs.length (fcells xs) hown ad gs.length c (fcells gs) (fcells_len gs) hn (fcells_one gs)
      (by unfold maxLen; omega) (by omega) hbase
    rw [← fcells_app] at h2
    obtain ⟨A', c', rfl⟩ := own_shape h2
    rw [← List.length_append] at h2 h1
    exact ⟨A', c', w', h1, h2, below_grown hown h3 hbase⟩
  cases A with
  | none =>
    have hg : gs = [] := by
      rcases Nat.eq_zero_or_pos gs.length with h | h
      · exact List.length_eq_zero_iff.1 h
      · obtain ⟨b, o, e, _⟩ := hr h; cases e
    subst hg
    obtain ⟨A', c', rfl⟩ := own_shape hown
    refine ⟨A', c', w, ?_, ?_, Below.refl _ _⟩
    · rw [List.append_nil]; exact run_append_none w base 28 ty 81 i0 2 c Tryd.underlying28 hi _ _ _ hown
    · rw [List.append_nil]; exact hown
  | some ad =>
    rcases Nat.eq_zero_or_pos gs.length with h | h
    · have hg := List.length_eq_zero_iff.1 h
      subst hg
      exact main ad fun j u hu => by simp [fcells] at hu
    · obtain ⟨b, o, e, hc⟩ := hr h
      cases e
      exact main _ (Rd.news hc)
theorem wpList_append_rd40 {ops : Array Oper} {rest : List Oper} {o : Oper} {a : Act} {Q : Exit → Act → World → Prop} (w : World) (hgd : o.guard = none) (s x : Operand)
    (ho : o.op = .call { callee := .builtin .append, args := #[s, x], argTypes := #[28, 28] }) (base : Nat) (v : Value) (xs : List Tok) (hs : a.eval s = v) (hown : w.ownsRow base 81 2 v xs.length (fcells xs))
    (A : Option Addr) (c : Nat) (gs : List Tok) (hx : a.eval x = .slice A gs.length c) (hr : Rd w A gs) (hlen : xs.length + gs.length ≤ 200000) (hbase : base ≤ w.heap.size)
    (h : ∀ A' c' w', Own 81 w' base A' c' (xs ++ gs) → Below base w w' → wpList Tryd.prog ops Q rest (a.put o.dst (.slice A' (xs ++ gs).length c')) w') : wpList Tryd.prog ops Q (o :: rest) a w := by
  refine wpList_plain hgd fun K hK => ?_
  obtain ⟨A', c', w', hrun, h2, h3⟩ := run_append_rd40 w base o.type v xs hown A c gs hr hlen hbase
  unfold Oper.wp
  simp only [execOp, ho, resolve, invoke, builtin, Sem.run_bind, Sem.run_pure, Result.andThen_ok, List.map_toArray, List.map_cons, List.map_nil, hs, hx, hrun]
  exact hK _ _ (h A' c' w' h2 h3)

/-- The same, the source's length as it is spelt. -/
theorem wpList_append_rdn40 {ops : Array Oper} {rest : List Oper} {o : Oper} {a : Act} {Q : Exit → Act → World → Prop} (w : World) (hgd : o.guard = none) (s x : Operand)
    (ho : o.op = .call { callee := .builtin .append, args := #[s, x], argTypes := #[28, 28] }) (base : Nat) (v : Value) (xs : List Tok) (hs : a.eval s = v) (hown : w.ownsRow base 81 2 v xs.length (fcells xs))
    (A : Option Addr) (m c : Nat) (gs : List Tok) (hm : m = gs.length) (hx : a.eval x = .slice A m c) (hr : Rd w A gs) (hlen : xs.length + gs.length ≤ 200000) (hbase : base ≤ w.heap.size) (r : List Tok) (hr0 : xs ++ gs = r)
    (h : ∀ A' c' w', Own 81 w' base A' c' r → Below base w w' → wpList Tryd.prog ops Q rest (a.put o.dst (.slice A' r.length c')) w') : wpList Tryd.prog ops Q (o :: rest) a w := by
  subst hm hr0
  exact wpList_append_rd40 w hgd s x ho base v xs hs hown A c gs hx hr hlen hbase h

/-- A new list of the call's own. -/
def Res (t : TypeId) (w : World) (fs : List Tok) (e : Ending) (w' : World) : Prop := ∃ A c, e = .returned (.slice A fs.length c) ∧ Own t w' w.heap.size A c fs ∧ Below w.heap.size w w'
theorem one_read {w : World} {b : Nat} {f : Tok} (h1 : w.cell? ⟨b, 0, none⟩ = some (.int .i64 f.1)) (h2 : w.cell? ⟨b, 1, none⟩ = some (.string ⟨f.2.toArray⟩)) : Rd w (some ⟨b, 0, none⟩) [f] := fun _ =>
  ⟨b, 0, rfl, fun i g hi => by
    match i, hi with
    | 0, hi => simp at hi; subst hi; exact ⟨h1, h2⟩
    | i + 1, hi => simp at hi⟩
theorem Res.from {t : TypeId} {w w1 : World} {fs : List Tok} {e : Ending} {w' : World} (h : Res t w1 fs e w') (hb : Below w.heap.size w w1) : Res t w fs e w' := by
  obtain ⟨A, c, he, ho, hb1⟩ := h
  exact ⟨A, c, he, ho.mono hb.size, bch hb hb1⟩

end Go.Proofs.YtjneeikkakekjaaDoor

/-
  Appending to a row of files of one's own; results that are new lists.
-/
import Derived.Test.YtmggpockikcjjaaGreatDoorZ
import Derived.Lib.AppendZerosOnto
namespace Go.Proofs.YtmggpockikcjjaaGreatDoor
open Go.RowKit

theorem fcells_inv : ∀ (gs : List Fl) (j : Nat) (u : Value), (fcells gs)[j]? = some u → ∃ f, gs[j / 2]? = some f ∧ ((j = j / 2 * 2 ∧ u = .string ⟨f.1.toArray⟩) ∨ (j = j / 2 * 2 + 1 ∧ u = .string ⟨f.2.toArray⟩))
  | [], j, u, h => by simp [fcells] at h
  | f :: r, 0, u, h => by simp [fcells] at h; exact ⟨f, rfl, .inl ⟨rfl, h.symm⟩⟩
  | f :: r, 1, u, h => by simp [fcells] at h; exact ⟨f, rfl, .inr ⟨rfl, h.symm⟩⟩
  | f :: r, j + 2, u, h => by
    obtain ⟨g, h1, h2⟩ := fcells_inv r j u (by simpa [fcells] using h)
    have e : (j + 2) / 2 = j / 2 + 1 := by omega
    refine ⟨g, by rw [e]; simpa using h1, ?_⟩
    rw [e]
    rcases h2 with ⟨h2, h3⟩ | ⟨h2, h3⟩
    · exact .inl ⟨by omega, h3⟩
    · exact .inr ⟨by omega, h3⟩
theorem add_lit (b o j : Nat) : (⟨b, o, none⟩ : Addr).add j = ⟨b, o + j, none⟩ := by unfold Addr.add; split <;> simp_all
theorem Rd.news {w : World} {b o : Nat} {gs : List Fl} (h : ∀ i f, gs[i]? = some f → w.cell? ⟨b, o + i * 2, none⟩ = some (.string ⟨f.1.toArray⟩) ∧ w.cell? ⟨b, o + i * 2 + 1, none⟩ = some (.string ⟨f.2.toArray⟩)) :
    ∀ j u, (fcells gs)[j]? = some u → w.cell? ((⟨b, o, none⟩ : Addr).add j) = some u := fun j u hu => by
  obtain ⟨f, h1, h2⟩ := fcells_inv gs j u hu
  obtain ⟨k1, k2⟩ := h _ f h1
  rw [add_lit]
  rcases h2 with ⟨e, rfl⟩ | ⟨e, rfl⟩
  · rw [e]; exact k1
  · rw [e, ← Nat.add_assoc]; exact k2

theorem Tryz.info37 : (Tryz.prog.info? 37).map (fun i => (i.zero, i.size, i.bytes)) = some (some (.agg #[.string ⟨#[]⟩, .string ⟨#[]⟩]), 2, 32) := by kernel_rfl
theorem Tryz.info9 : (Tryz.prog.info? 9).map (fun i => (i.zero, i.size, i.bytes)) = some (some (.string ⟨#[]⟩), 1, 16) := by kernel_rfl

theorem run_append_none (w : World) (base : Nat) (t ty e : TypeId) (i : TypeInfo) (size c : Nat) (ht : Tryz.prog.underlying t = some (.slice e)) (hi : Tryz.prog.info? e = some i)
    (v : Value) (n : Nat) (xs : List Value) (hown : w.ownsRow base e size v n xs) :
    (Builtin.append_ #[t, t] ty #[v, .slice none 0 c]).run Tryz.prog w = .ok v w := by
  rcases hown.2 with ⟨rfl, rfl⟩ | ⟨g, cap, cur, rfl, _, _, hnc, _⟩
  · simp [Builtin.append_, run_underlying ht, sizeOf, typeInfo, hi, Builtin.lenOf, Builtin.firstCells]
  · simp [Builtin.append_, run_underlying ht, sizeOf, typeInfo, hi, Builtin.lenOf, Builtin.firstCells, hnc, storeCells]

theorem own_shape {w : World} {base e size n : Nat} {v : Value} {xs : List Value} (h : w.ownsRow base e size v n xs) : ∃ A c, v = .slice A n c := by
  rcases h.2 with ⟨hv, h0⟩ | ⟨g, cap, cur, hv, _⟩
  · subst h0; exact ⟨_, _, hv⟩
  · exact ⟨_, _, hv⟩
theorem below_grown {w w' : World} {base e size n : Nat} {v : Value} {xs : List Value} (h : w.ownsRow base e size v n xs) (hg : w.grownBy w' v.ownBlock) (hb : base ≤ w.heap.size) : Below base w w' :=
  (Below.refl base w).grown hg hb fun k hk => (h.lt k hk).1

theorem run_append_rd (w : World) (base : Nat) (ty : TypeId) (v : Value) (xs : List Fl) (hown : w.ownsRow base 37 2 v xs.length (fcells xs)) (A : Option Addr) (c : Nat) (gs : List Fl) (hr : Rd w A gs)
    (hlen : xs.length + gs.length ≤ 200000) (hbase : base ≤ w.heap.size) :
    ∃ A' c' w', (Builtin.append_ #[27, 27] ty #[v, .slice A gs.length c]).run Tryz.prog w = .ok (.slice A' (xs ++ gs).length c') w' ∧ Own w' base A' c' (xs ++ gs) ∧ Below base w w' := by
  obtain ⟨i0, hi, hz0, hz1, hz2⟩ := info_parts Tryz.info37
  have main : ∀ (ad : Addr), (∀ j u, (fcells gs)[j]? = some u → w.cell? (ad.add j) = some u) →
      ∃ A' c' w', (Builtin.append_ #[27, 27] ty #[v, .slice (some ad) gs.length c]).run Tryz.prog w = .ok (.slice A' (xs ++ gs).length c') w' ∧ Own w' base A' c' (xs ++ gs) ∧ Below base w w' := fun ad hn => by
    obtain ⟨v', w', h1, h2, h3, _⟩ := run_append_own (P := Tryz.prog) w base 27 ty 37 i0 _ 2 32 Tryz.underlying27 hi hz0 hz1 hz2 rfl (by decide) v xs.length (fcells xs) hown ad gs.length c (fcells gs) (fcells_len gs) hn (fcells_one gs)
      (by unfold maxLen; omega) (by omega) hbase
    rw [← fcells_app] at h2
    obtain ⟨A', c', rfl⟩ := own_shape h2
    rw [← List.length_append] at h2 h1
    exact ⟨A', c', w', h1, h2, below_grown hown h3 hbase⟩
  cases A with
  | none =>
    have hg : gs = [] := by
      rcases Nat.eq_zero_or_pos gs.length with h | h
      · exact List.length_eq_zero_iff.1 h
      · obtain ⟨b, o, e, _⟩ := hr h; cases e
    subst hg
    obtain ⟨A', c', rfl⟩ := own_shape hown
    refine ⟨A', c', w, ?_, ?_, Below.refl _ _⟩
    · rw [List.append_nil]; exact run_append_none w base 27 ty 37 i0 2 c Tryz.underlying27 hi _ _ _ hown
    · rw [List.append_nil]; exact hown
  | some ad =>
    rcases Nat.eq_zero_or_pos gs.length with h | h
    · have hg := List.length_eq_zero_iff.1 h
      subst hg
      exact main ad fun j u hu => by simp [fcells] at hu
    · obtain ⟨b, o, e, hc⟩ := hr h
      cases e
      exact main _ (Rd.news hc)
theorem wpList_append_rd {ops : Array Oper} {rest : List Oper} {o : Oper} {a : Act} {Q : Exit → Act → World → Prop} (w : World) (hgd : o.guard = none) (s x : Operand)
    (ho : o.op = .call { callee := .builtin .append, args := #[s, x], argTypes := #[27, 27] }) (base : Nat) (v : Value) (xs : List Fl) (hs : a.eval s = v) (hown : w.ownsRow base 37 2 v xs.length (fcells xs))
    (A : Option Addr) (c : Nat) (gs : List Fl) (hx : a.eval x = .slice A gs.length c) (hr : Rd w A gs) (hlen : xs.length + gs.length ≤ 200000) (hbase : base ≤ w.heap.size)
    (h : ∀ A' c' w', Own w' base A' c' (xs ++ gs) → Below base w w' → wpList Tryz.prog ops Q rest (a.put o.dst (.slice A' (xs ++ gs).length c')) w') : wpList Tryz.prog ops Q (o :: rest) a w := by
  refine wpList_plain hgd fun K hK => ?_
  obtain ⟨A', c', w', hrun, h2, h3⟩ := run_append_rd w base o.type v xs hown A c gs hr hlen hbase
  unfold Oper.wp
  simp only [execOp, ho, resolve, invoke, builtin, Sem.run_bind, Sem.run_pure, Result.andThen_ok, List.map_toArray, List.map_cons, List.map_nil, hs, hx, hrun]
  exact hK _ _ (h A' c' w' h2 h3)

/-- The same, the source's length as it is spelt. -/
theorem wpList_append_rdn {ops : Array Oper} {rest : List Oper} {o : Oper} {a : Act} {Q : Exit → Act → World → Prop} (w : World) (hgd : o.guard = none) (s x : Operand)
    (ho : o.op = .call { callee := .builtin .append, args := #[s, x], argTypes := #[27, 27] }) (base : Nat) (v : Value) (xs : List Fl) (hs : a.eval s = v) (hown : w.ownsRow base 37 2 v xs.length (fcells xs))
    (A : Option Addr) (m c : Nat) (gs : List Fl) (hm : m = gs.length) (hx : a.eval x = .slice A m c) (hr : Rd w A gs) (hlen : xs.length + gs.length ≤ 200000) (hbase : base ≤ w.heap.size) (r : List Fl) (hr0 : xs ++ gs = r)
    (h : ∀ A' c' w', Own w' base A' c' r → Below base w w' → wpList Tryz.prog ops Q rest (a.put o.dst (.slice A' r.length c')) w') : wpList Tryz.prog ops Q (o :: rest) a w := by
  subst hm hr0
  exact wpList_append_rd w hgd s x ho base v xs hs hown A c gs hx hr hlen hbase h

/-- A new list of the call's own. -/
def Res (w : World) (fs : List Fl) (e : Ending) (w' : World) : Prop := ∃ A c, e = .returned (.slice A fs.length c) ∧ Own w' w.heap.size A c fs ∧ Below w.heap.size w w'
theorem one_read {w : World} {b : Nat} {f : Fl} (h1 : w.cell? ⟨b, 0, none⟩ = some (.string ⟨f.1.toArray⟩)) (h2 : w.cell? ⟨b, 1, none⟩ = some (.string ⟨f.2.toArray⟩)) : Rd w (some ⟨b, 0, none⟩) [f] := fun _ =>
  ⟨b, 0, rfl, fun i g hi => by
    match i, hi with
    | 0, hi => simp at hi; subst hi; exact ⟨h1, h2⟩
    | i + 1, hi => simp at hi⟩
theorem Res.from {w w1 : World} {fs : List Fl} {e : Ending} {w' : World} (h : Res w1 fs e w') (hb : Below w.heap.size w w1) : Res w fs e w' := by
  obtain ⟨A, c, he, ho, hb1⟩ := h
  exact ⟨A, c, he, ho.mono hb.size, bch hb hb1⟩

def cutA (A : Option Addr) (c k : Nat) : Option Addr := if c = k then A else A.map (·.add (k * 2))
theorem Rd.cut {w : World} {A : Option Addr} {fs : List Fl} (h : Rd w A fs) {k c : Nat} (hk : k ≤ fs.length) (hc : fs.length ≤ c) : Rd w (cutA A c k) (fs.drop k) := fun h0 => by
  rw [List.length_drop] at h0
  obtain ⟨b, o, rfl, hcell⟩ := h (by omega)
  unfold cutA
  rw [if_neg (by omega)]
  refine ⟨b, o + k * 2, by simp [add_lit], fun i f hi => ?_⟩
  rw [List.getElem?_drop] at hi
  have := hcell _ f hi
  rw [show o + k * 2 + i * 2 = o + (k + i) * 2 by omega]
  exact this
theorem Rd.take {w : World} {A : Option Addr} {fs : List Fl} (h : Rd w A fs) (k : Nat) : Rd w A (fs.take k) := fun h0 => by
  rw [List.length_take] at h0
  obtain ⟨b, o, e, hcell⟩ := h (by omega)
  refine ⟨b, o, e, fun i f hi => hcell i f ?_⟩
  rw [List.getElem?_take] at hi
  split at hi
  · exact hi
  · cases hi
def Res2 (w : World) (fs : List Fl) (v : Value) (e : Ending) (w' : World) : Prop := ∃ A c, e = .returned (.tuple #[.slice A fs.length c, v]) ∧ Own w' w.heap.size A c fs ∧ Below w.heap.size w w'
theorem Res2.from {w w1 : World} {fs : List Fl} {v : Value} {e : Ending} {w' : World} (h : Res2 w1 fs v e w') (hb : Below w.heap.size w w1) : Res2 w fs v e w' := by
  obtain ⟨A, c, he, ho, hb1⟩ := h
  exact ⟨A, c, he, ho.mono hb.size, bch hb hb1⟩
theorem below_drew (w : World) : Below w.heap.size w w.drew := ⟨rfl, rfl, rfl, Nat.le_refl _, fun _ _ => rfl⟩

theorem elem27 : Tryz.prog.elem 27 = 37 := by kernel_rfl
theorem size37 (w : World) : (sizeOf 37).run Tryz.prog w = .ok 2 w := by
  obtain ⟨i0, hi, hz0, hz1, hz2⟩ := info_parts Tryz.info37
  simp [sizeOf, typeInfo, hi, hz1]
theorem cut_to (A : Option Addr) (n c k : Nat) (hk : k ≤ c) (w : World) : (Instr.slice 27 (.slice A n c) none (some (.int .i64 k)) none).run Tryz.prog w = .ok (.slice A k c) w := by
  rw [run_slice_h (P := Tryz.prog) w 27 A n c (by kernel_rfl) .i64 k (by omega) (by omega), elem27, size37]
  simp [sliced, Result.andThen]
  cases A <;> simp [Addr.add]
theorem cut_from (A : Option Addr) (n c k : Nat) (hk : k ≤ n) (w : World) : (Instr.slice 27 (.slice A n c) (some (.int .i64 k)) none none).run Tryz.prog w = .ok (.slice (cutA A c k) (n - k) (c - k)) w := by
  rw [run_slice_l (P := Tryz.prog) w 27 A n c (by kernel_rfl) .i64 k (by omega) (by omega), elem27, size37]
  simp [sliced, Result.andThen, cutA]

theorem get_of {fs : List Fl} {k : Nat} {f : Fl} (h : fs[k]? = some f) (hk : k < fs.length) : fs[k] = f := by
  rw [List.getElem?_eq_getElem hk] at h; exact Option.some.inj h
theorem putE_wr {fs : List Fl} {f : Fl} (h : wrE f ≠ 0) : putE fs f = wrE f := by unfold putE; rw [if_pos h]
theorem putE_full {fs : List Fl} {f : Fl} (h : wrE f = 0) (k : hasL fs f.1 = false) (l : 32 ≤ fs.length) : putE fs f = 3 := by unfold putE; rw [if_neg (by simp [h]), if_pos ⟨k, l⟩]
theorem putR_no {fs : List Fl} {f : Fl} (h : putE fs f ≠ 0) : putR fs f = [] := by unfold putR; rw [if_neg h]
theorem putR_yes {fs : List Fl} {f : Fl} (h : putE fs f = 0) : putR fs f = putL fs f := by unfold putR; rw [if_pos h]

theorem ret_slint {A : Option Addr} {n m c : Nat} {a b : Int} (h : n = m) (k : a = b) : Ending.returned (.tuple #[.slice A n c, .int .i64 a]) = .returned (.tuple #[.slice A m c, .int .i64 b]) := by rw [h, k]

end Go.Proofs.YtmggpockikcjjaaGreatDoor

/-
  Append onto a row of one's own out of a list that reads as files; contracts of slices.Grow (of nil), slices.Concat, files.join, files.fresh: a new list of the call's own; old memory stays.
-/
import Derived.Test.YtdaekfigpkogbaaF
import Derived.Lib.AppendZerosOnto
namespace Go.Proofs.Ytdaekfigpkogbaa
open Go.RowKit

theorem fcells_inv : ∀ (gs : List Fl) (j : Nat) (u : Value), (fcells gs)[j]? = some u → ∃ f, gs[j / 2]? = some f ∧ ((j = j / 2 * 2 ∧ u = .string ⟨f.1.toArray⟩) ∨ (j = j / 2 * 2 + 1 ∧ u = .string ⟨f.2.toArray⟩))
  | [], j, u, h => by simp [fcells] at h
  | f :: r, 0, u, h => by simp [fcells] at h; exact ⟨f, rfl, .inl ⟨rfl, h.symm⟩⟩
  | f :: r, 1, u, h => by simp [fcells] at h; exact ⟨f, rfl, .inr ⟨rfl, h.symm⟩⟩
  | f :: r, j + 2, u, h => by
    obtain ⟨g, h1, h2⟩ := fcells_inv r j u (by simpa [fcells] using h)
    have e : (j + 2) / 2 = j / 2 + 1 := by omega
    refine ⟨g, by rw [e]; simpa using h1, ?_⟩
    rw [e]
    rcases h2 with ⟨h2, h3⟩ | ⟨h2, h3⟩
    · exact .inl ⟨by omega, h3⟩
    · exact .inr ⟨by omega, h3⟩
theorem add_lit (b o j : Nat) : (⟨b, o, none⟩ : Addr).add j = ⟨b, o + j, none⟩ := by unfold Addr.add; split <;> simp_all
theorem Rd.news {w : World} {b o : Nat} {gs : List Fl} (h : ∀ i f, gs[i]? = some f → w.cell? ⟨b, o + i * 2, none⟩ = some (.string ⟨f.1.toArray⟩) ∧ w.cell? ⟨b, o + i * 2 + 1, none⟩ = some (.string ⟨f.2.toArray⟩)) :
    ∀ j u, (fcells gs)[j]? = some u → w.cell? ((⟨b, o, none⟩ : Addr).add j) = some u := fun j u hu => by
  obtain ⟨f, h1, h2⟩ := fcells_inv gs j u hu
  obtain ⟨k1, k2⟩ := h _ f h1
  rw [add_lit]
  rcases h2 with ⟨e, rfl⟩ | ⟨e, rfl⟩
  · rw [e]; exact k1
  · rw [e, ← Nat.add_assoc]; exact k2

theorem Try.info25 : (Try.prog.info? 25).map (fun i => (i.zero, i.size, i.bytes)) = some (some (.agg #[.string ⟨#[]⟩, .string ⟨#[]⟩]), 2, 32) := by kernel_rfl
theorem Try.info9 : (Try.prog.info? 9).map (fun i => (i.zero, i.size, i.bytes)) = some (some (.string ⟨#[]⟩), 1, 16) := by kernel_rfl

theorem run_append_none (w : World) (base : Nat) (t ty e : TypeId) (i : TypeInfo) (size c : Nat) (ht : Try.prog.underlying t = some (.slice e)) (hi : Try.prog.info? e = some i)
    (v : Value) (n : Nat) (xs : List Value) (hown : w.ownsRow base e size v n xs) :
    (Builtin.append_ #[t, t] ty #[v, .slice none 0 c]).run Try.prog w = .ok v w := by
  rcases hown.2 with ⟨rfl, rfl⟩ | ⟨g, cap, cur, rfl, _, _, hnc, _⟩
  · simp [Builtin.append_, run_underlying ht, sizeOf, typeInfo, hi, Builtin.lenOf, Builtin.firstCells]
  · simp [Builtin.append_, run_underlying ht, sizeOf, typeInfo, hi, Builtin.lenOf, Builtin.firstCells, hnc, storeCells]

theorem own_shape {w : World} {base e size n : Nat} {v : Value} {xs : List Value} (h : w.ownsRow base e size v n xs) : ∃ A c, v = .slice A n c := by
  rcases h.2 with ⟨hv, h0⟩ | ⟨g, cap, cur, hv, _⟩
  · subst h0; exact ⟨_, _, hv⟩
  · exact ⟨_, _, hv⟩
theorem below_grown {w w' : World} {base e size n : Nat} {v : Value} {xs : List Value} (h : w.ownsRow base e size v n xs) (hg : w.grownBy w' v.ownBlock) (hb : base ≤ w.heap.size) : Below base w w' :=
  (Below.refl base w).grown hg hb fun k hk => (h.lt k hk).1

theorem run_append_rd (w : World) (base : Nat) (ty : TypeId) (v : Value) (xs : List Fl) (hown : w.ownsRow base 25 2 v xs.length (fcells xs)) (A : Option Addr) (c : Nat) (gs : List Fl) (hr : Rd w A gs)
    (hlen : xs.length + gs.length ≤ 200000) (hbase : base ≤ w.heap.size) :
    ∃ A' c' w', (Builtin.append_ #[22, 22] ty #[v, .slice A gs.length c]).run Try.prog w = .ok (.slice A' (xs ++ gs).length c') w' ∧ Own w' base A' c' (xs ++ gs) ∧ Below base w w' := by
  obtain ⟨i0, hi, hz0, hz1, hz2⟩ := info_parts Try.info25
  have main : ∀ (ad : Addr), (∀ j u, (fcells gs)[j]? = some u → w.cell? (ad.add j) = some u) →
      ∃ A' c' w', (Builtin.append_ #[22, 22] ty #[v, .slice (some ad) gs.length c]).run Try.prog w = .ok (.slice A' (xs ++ gs).length c') w' ∧ Own w' base A' c' (xs ++ gs) ∧ Below base w w' := fun ad hn => by
    obtain ⟨v', w', h1, h2, h3, _⟩ := run_append_own (P := Try.prog) w base 22 ty 25 i0 _ 2 32 Try.underlying22 hi hz0 hz1 hz2 rfl (by decide) v xs.length (fcells xs) hown ad gs.length c (fcells gs) (fcells_len gs) hn (fcells_one gs)
      (by unfold maxLen; omega) (by omega) hbase
    rw [← fcells_app] at h2
    obtain ⟨A', c', rfl⟩ := own_shape h2
    rw [← List.length_append] at h2 h1
    exact ⟨A', c', w', h1, h2, below_grown hown h3 hbase⟩
  cases A with
  | none =>
    have hg : gs = [] := by
      rcases Nat.eq_zero_or_pos gs.length with h | h
      · exact List.length_eq_zero_iff.1 h
      · obtain ⟨b, o, e, _⟩ := hr h; cases e
    subst hg
    obtain ⟨A', c', rfl⟩ := own_shape hown
    refine ⟨A', c', w, ?_, ?_, Below.refl _ _⟩
    · rw [List.append_nil]; exact run_append_none w base 22 ty 25 i0 2 c Try.underlying22 hi _ _ _ hown
    · rw [List.append_nil]; exact hown
  | some ad =>
    rcases Nat.eq_zero_or_pos gs.length with h | h
    · have hg := List.length_eq_zero_iff.1 h
      subst hg
      exact main ad fun j u hu => by simp [fcells] at hu
    · obtain ⟨b, o, e, hc⟩ := hr h
      cases e
      exact main _ (Rd.news hc)
theorem wpList_append_rd {ops : Array Oper} {rest : List Oper} {o : Oper} {a : Act} {Q : Exit → Act → World → Prop} (w : World) (hgd : o.guard = none) (s x : Operand)
    (ho : o.op = .call { callee := .builtin .append, args := #[s, x], argTypes := #[22, 22] }) (base : Nat) (v : Value) (xs : List Fl) (hs : a.eval s = v) (hown : w.ownsRow base 25 2 v xs.length (fcells xs))
    (A : Option Addr) (c : Nat) (gs : List Fl) (hx : a.eval x = .slice A gs.length c) (hr : Rd w A gs) (hlen : xs.length + gs.length ≤ 200000) (hbase : base ≤ w.heap.size)
    (h : ∀ A' c' w', Own w' base A' c' (xs ++ gs) → Below base w w' → wpList Try.prog ops Q rest (a.put o.dst (.slice A' (xs ++ gs).length c')) w') : wpList Try.prog ops Q (o :: rest) a w := by
  refine wpList_plain hgd fun K hK => ?_
  obtain ⟨A', c', w', hrun, h2, h3⟩ := run_append_rd w base o.type v xs hown A c gs hr hlen hbase
  unfold Oper.wp
  simp only [execOp, ho, resolve, invoke, builtin, Sem.run_bind, Sem.run_pure, Result.andThen_ok, List.map_toArray, List.map_cons, List.map_nil, hs, hx, hrun]
  exact hK _ _ (h A' c' w' h2 h3)

/-- The same, the source's length as it is spelt. -/
theorem wpList_append_rdn {ops : Array Oper} {rest : List Oper} {o : Oper} {a : Act} {Q : Exit → Act → World → Prop} (w : World) (hgd : o.guard = none) (s x : Operand)
    (ho : o.op = .call { callee := .builtin .append, args := #[s, x], argTypes := #[22, 22] }) (base : Nat) (v : Value) (xs : List Fl) (hs : a.eval s = v) (hown : w.ownsRow base 25 2 v xs.length (fcells xs))
    (A : Option Addr) (m c : Nat) (gs : List Fl) (hm : m = gs.length) (hx : a.eval x = .slice A m c) (hr : Rd w A gs) (hlen : xs.length + gs.length ≤ 200000) (hbase : base ≤ w.heap.size) (r : List Fl) (hr0 : xs ++ gs = r)
    (h : ∀ A' c' w', Own w' base A' c' r → Below base w w' → wpList Try.prog ops Q rest (a.put o.dst (.slice A' r.length c')) w') : wpList Try.prog ops Q (o :: rest) a w := by
  subst hm hr0
  exact wpList_append_rd w hgd s x ho base v xs hs hown A c gs hx hr hlen hbase h

/-- A new list of the call's own. -/
def Res (w : World) (fs : List Fl) (e : Ending) (w' : World) : Prop := ∃ A c, e = .returned (.slice A fs.length c) ∧ Own w' w.heap.size A c fs ∧ Below w.heap.size w w'

set_option maxHeartbeats 1000000 in
theorem fresh_any (A : Option Addr) (c : Nat) (fs : List Fl) (w : World) (hr : Rd w A fs) (hc : fs.length ≤ 100000) : Calls Try.prog 32 #[.slice A fs.length c] w (Res w fs) := by
  go_enter Try.func32, Try.ntmps32
  go_wp2_with (at_builtin; refine wpList_append_rd _ rfl _ _ rfl w.heap.size (.slice none 0 0) [] rfl (World.ownsRow_nil _ _ _ _) A c fs rfl hr (by simp; omega) (Nat.le_refl _) ?_; intro A1 c1 w1 hown hb)
  go_ret
  exact ⟨A1, c1, rfl, hown, hb⟩

theorem grown_own (w : World) (k : Nat) (hk : k ≤ 200000) (z : Value) (hz : z.cells.size = 2) :
    Own (w.drew.alloc (.cells (([] : List Value).toArray ++ Builtin.zeroCells z.cells k ++ Builtin.zeroCells z.cells (grownCap w k 0 25 - k)) 25)) w.heap.size (some ⟨w.heap.size, 0, none⟩) (grownCap w k 0 25) [] := by
  have h1 := grownCap_ge w k 0 25
  have h2 := grownCap_le_maxLen w k 0 25 (by unfold maxLen; omega)
  refine ⟨by simp [fcells], .inr ⟨w.heap.size, grownCap w k 0 25, _, rfl, Nat.le_refl _, heap_alloc_new w.drew _, Nat.zero_le _, h2, ?_, by simp [fcells]⟩⟩
  simp only [List.toArray, Array.size_append, size_zeroCells, hz]
  simp
  omega
set_option maxHeartbeats 1000000 in
theorem grow_any (n : Nat) (w : World) (hn : n ≤ 200000) : Calls Try.prog 40 #[.slice none 0 0, .int .i64 n] w (Res w []) := by
  by_cases h0 : n = 0
  · subst h0
    go_enter Try.func40, Try.ntmps40
    go_wp2
    go_ret
    exact ⟨none, 0, rfl, World.ownsRow_nil _ _ _ _, Below.refl _ _⟩
  · have hp : 0 < n := by omega
    obtain ⟨i0, hi, hz0, hz1, hz2⟩ := info_parts Try.info25
    have hrun := fun ty => Lib.run_append_grow_zeros (P := Try.prog) w 22 3 ty 25 i0 _ .i64 .i64 Try.underlying22 Try.underlying3 hi hz0 none 0 0 [] (by rw [hz1]; exact run_firstCells_none w.drew 2 0 0 0) n hp (by rw [hz1]; decide) (by omega) (by omega)
      (by rw [hz2]; omega) (by rw [hz2]; exact growslice_fits (by omega) (by omega))
    simp only [Nat.zero_add] at hrun
    have hown := grown_own w n hn (.agg #[.string ⟨#[]⟩, .string ⟨#[]⟩]) rfl
    have hb : Below w.heap.size w (w.drew.alloc (.cells (([] : List Value).toArray ++ Builtin.zeroCells (Value.agg #[.string ⟨#[]⟩, .string ⟨#[]⟩]).cells n ++ Builtin.zeroCells (Value.agg #[.string ⟨#[]⟩, .string ⟨#[]⟩]).cells (grownCap w n 0 25 - n)) 25)) := (Below.refl _ _).drew.alloc (Nat.le_refl _) _
    have hG := grownCap_ge w n 0 25
    generalize w.drew.alloc (.cells (([] : List Value).toArray ++ Builtin.zeroCells (Value.agg #[.string ⟨#[]⟩, .string ⟨#[]⟩]).cells n ++ Builtin.zeroCells (Value.agg #[.string ⟨#[]⟩, .string ⟨#[]⟩]).cells (grownCap w n 0 25 - n)) 25) = W at hrun hown hb
    generalize grownCap w n 0 25 = G at hrun hown hG
    have hcap := hown.cap
    obtain ⟨_, hG2, _⟩ := hcap
    clear h0 hi hz0 hz1 hz2
    go_enter Try.func40, Try.ntmps40
    go_wp2_with (at_builtin; refine Lib.wpList_append_run _ rfl _ _ _ _ rfl _ _ rfl rfl _ _ (hrun _) ?_)
    all_goals (go_ret; exact ⟨_, _, rfl, hown, hb⟩)
end Go.Proofs.Ytdaekfigpkogbaa

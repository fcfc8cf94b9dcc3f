/-
  Package items: what say holds in memory (the items, the last one's place, the Builder); Builder's Reset.
  Package items: sayer, and what it answers: say.
-/
import Derived.Test.YtckldeabbkdbjaaDoorK09
import Derived.Deep.RegionLaw
import Derived.Deep.RegionWith
namespace Go.Proofs.YtckldeabbkdbjaaDoor
open Go.RowKit

theorem run_append_gi (w : World) (base : Nat) (ty : TypeId) (C : Option Addr) (cc : Nat) (xs : List Tok) (hown : Own 49 w base C cc xs) (A : Option Addr) (c : Nat) (gs : List Tok) (hr : Rd w A gs)
    (hlen : xs.length + gs.length ≤ 200000) (hbase : base ≤ w.heap.size) :
    ∃ A' c' w', (Builtin.append_ #[23, 23] ty #[.slice C xs.length cc, .slice A gs.length c]).run Tryd.prog w = .ok (.slice A' (xs ++ gs).length c') w' ∧ Own 49 w' base A' c' (xs ++ gs) ∧ w.grownBy w' (Value.slice C xs.length cc).ownBlock ∧
      ((Value.slice A' (xs ++ gs).length c').ownBlock = (Value.slice C xs.length cc).ownBlock ∨ (Value.slice A' (xs ++ gs).length c').ownBlock = some w.heap.size) := by
  obtain ⟨i0, hi, hz0, hz1, hz2⟩ := info_parts Tryd.info49
  have main : ∀ (ad : Addr), (∀ j u, (fcells gs)[j]? = some u → w.cell? (ad.add j) = some u) →
      ∃ A' c' w', (Builtin.append_ #[23, 23] ty #[.slice C xs.length cc, .slice (some ad) gs.length c]).run Tryd.prog w = .ok (.slice A' (xs ++ gs).length c') w' ∧ Own 49 w' base A' c' (xs ++ gs) ∧ w.grownBy w' (Value.slice C xs.length cc).ownBlock ∧
      ((Value.slice A' (xs ++ gs).length c').ownBlock = (Value.slice C xs.length cc).ownBlock ∨ (Value.slice A' (xs ++ gs).length c').ownBlock = some w.heap.size) := fun ad hn => by
    obtain ⟨v', w', h1, h2, h3, _, h5⟩ := run_append_own_at (P := Tryd.prog) w base 23 ty 49 i0 _ 2 24 Tryd.underlying23 hi hz0 hz1 hz2 rfl (by decide) (.slice C xs.length cc) xs.length (fcells xs) hown ad gs.length c (fcells gs) (fcells_len gs) hn (fcells_one gs)
      (by unfold maxLen; omega) (by omega) hbase
    rw [← fcells_app] at h2
    obtain ⟨A', c', rfl⟩ := own_shape h2
    rw [← List.length_append] at h2 h1 h5
    exact ⟨A', c', w', h1, h2, h3, h5⟩
  cases A with
  | none =>
    have hg : gs = [] := by
      rcases Nat.eq_zero_or_pos gs.length with h | h
      · exact List.length_eq_zero_iff.1 h
      · obtain ⟨b, o, e, _⟩ := hr h; cases e
    subst hg
    refine ⟨C, cc, w, ?_, ?_, ⟨rfl, rfl, rfl, Nat.le_refl _, fun _ _ _ => rfl⟩, ?_⟩
    · rw [List.append_nil]; exact run_append_none w base 23 ty 49 i0 2 c Tryd.underlying23 hi _ _ _ hown
    · rw [List.append_nil]; exact hown
    · rw [List.append_nil]; exact .inl rfl
  | some ad =>
    rcases Nat.eq_zero_or_pos gs.length with h | h
    · have hg := List.length_eq_zero_iff.1 h
      subst hg
      exact main ad fun j u hu => by simp [fcells] at hu
    · obtain ⟨b, o, e, hc⟩ := hr h
      cases e
      exact main _ (Rd.news hc)
theorem step_append_gi {ops : Array Oper} {o : Oper} {a : Act} {K : Act → World → Prop} {Q : Exit → Act → World → Prop} {E : Prop} (w : World) (hgd : o.guard = none) (s x : Operand)
    (ho : o.op = .call { callee := .builtin .append, args := #[s, x], argTypes := #[23, 23] }) (base : Nat) (C : Option Addr) (cc : Nat) (xs : List Tok) (hs : a.eval s = .slice C xs.length cc) (hown : Own 49 w base C cc xs)
    (A : Option Addr) (m c : Nat) (gs : List Tok) (hm : m = gs.length) (hx : a.eval x = .slice A m c) (hr : Rd w A gs) (hlen : xs.length + gs.length ≤ 200000) (hbase : base ≤ w.heap.size) (r : List Tok) (hr0 : xs ++ gs = r)
    (h : ∀ A' c' w', Own 49 w' base A' c' r → w.grownBy w' (Value.slice C xs.length cc).ownBlock → K (a.put o.dst (.slice A' r.length c')) w') : if Region.wanted o (yielded ops a.tmps) = true then Oper.wp Tryd.prog o a w K Q else E := by
  subst hm hr0
  have hw : Region.wanted o (yielded ops a.tmps) = true := by simp [Region.wanted, hgd]
  rw [if_pos hw]
  obtain ⟨A', c', w', hrun, h2, h3, _⟩ := run_append_gi w base o.type C cc xs hown A c gs hr hlen hbase
  unfold Oper.wp
  simp only [execOp, ho, resolve, invoke, builtin, Sem.run_bind, Sem.run_pure, Result.andThen_ok, List.map_toArray, List.map_cons, List.map_nil, hs, hx, hrun]
  exact h A' c' w' h2 h3

/-! ### blocks -/
theorem own_blk {t base c : Nat} {V : World} {A : Option Addr} {fs : List Tok} (h : Own t V base A c fs) {g : Nat} (hg : (Value.slice A fs.length c).ownBlock = some g) : ∃ cur, V.heap[g]? = some (.cells cur t (0, 0)) := by
  rcases h.2 with ⟨hv, _⟩ | ⟨g1, cap1, cur1, hv, _, hg1, _⟩
  · rw [hv] at hg; cases hg
  · rw [hv] at hg; cases hg; exact ⟨cur1, hg1⟩
theorem cells_ty {V : World} {k : Nat} {c1 c2 : Array Value} {t1 t2 : TypeId} {f1 f2 : Nat × Nat} (h1 : V.heap[k]? = some (.cells c1 t1 f1)) (h2 : V.heap[k]? = some (.cells c2 t2 f2)) : t1 = t2 := by
  rw [h1] at h2
  simp only [Option.some.injEq, Obj.cells.injEq] at h2
  exact h2.2.1
/-- A row of one type of cells is no block of another's. -/
theorem own_ne {t t2 base c k : Nat} {V : World} {A : Option Addr} {fs : List Tok} (h : Own t V base A c fs) {cs : Array Value} {f : Nat × Nat} (hk : V.heap[k]? = some (.cells cs t2 f)) (ht : t ≠ t2) : (Value.slice A fs.length c).ownBlock ≠ some k := fun e => by
  obtain ⟨cur, hc⟩ := own_blk h e
  exact ht (cells_ty hc hk)
theorem own_ne_map {t base c k N : Nat} {V : World} {A : Option Addr} {fs : List Tok} {f : By → Option Value} (h : Own t V base A c fs) (hk : BM V k N f) : (Value.slice A fs.length c).ownBlock ≠ some k := fun e => by
  obtain ⟨cur, hc⟩ := own_blk h e
  obtain ⟨es, cl, hb⟩ := hk.block
  rw [hc] at hb
  cases hb
/-- The Builder, in its own block. -/
def Bu (V : World) (n : Nat) (u : By) : Prop := Lib.IsBuilderF 87 5 n (n + 3) (Lib.byteCells u) V
theorem Bu.blk {V : World} {n : Nat} {u : By} (h : Bu V n u) : ∃ p v, V.heap[n + 3]? = some (.cells #[p, v] 87 (0, 0)) := by
  rcases h with ⟨_, v, h, _⟩ | ⟨_, v, h, _⟩
  · exact ⟨_, v, h⟩
  · exact ⟨_, v, h⟩
theorem Bu.but {V V' : World} {n : Nat} {u : By} (h : Bu V n u) (hk : ∀ k o, V.heap[k]? = some o → (k = n + 3 ∨ ∃ c fz, o = .cells c 5 fz) → V'.heap[k]? = some o) : Bu V' n u := by
  have main : ∀ p, Lib.BuilderAtF 87 5 n (n + 3) p (Lib.byteCells u) V → Lib.BuilderAtF 87 5 n (n + 3) p (Lib.byteCells u) V' := by
    rintro p ⟨h1, v, h2, h3, h4⟩
    refine ⟨h1, v, hk _ _ h2 (.inl rfl), ⟨h3.1, ?_⟩, h4⟩
    rcases h3.2 with q | ⟨g, cap, cur, fz, q1, q2, q3, q4⟩
    · exact .inl q
    · exact .inr ⟨g, cap, cur, fz, q1, q2, hk _ _ q3 (.inr ⟨cur, fz, rfl⟩), q4⟩
  exact h.elim (fun x => .inl (main _ x)) (fun x => .inr (main _ x))
theorem Bu.below {V V' : World} {n : Nat} {u : By} (h : Bu V n u) (hb : Below V.heap.size V V') : Bu V' n u := h.but fun k o hk _ => blk_below hb hk
/-- A store into a block that is neither the Builder's nor a row of bytes. -/
theorem Bu.set {V : World} {n : Nat} {u : By} (h : Bu V n u) {q : Addr} {cs : Array Value} {t : TypeId} {f : Nat × Nat} (hq : V.heap[q.block]? = some (.cells cs t f)) (h5 : t ≠ 5) (h87 : t ≠ 87) (v : Value) : Bu (V.setCell q v) n u := h.but fun k o hk ho => by
  have hne : k ≠ q.block := fun e => by
    rw [← e] at hq
    rcases ho with hh | ⟨c, fz, rfl⟩
    · obtain ⟨p, v, hb⟩ := h.blk
      rw [hh] at hq
      exact h87 (cells_ty hq hb)
    · exact h5 (cells_ty hq hk)
  rw [Below.heap_setCell _ _ _ _ hne]
  exact hk
set_option maxRecDepth 100000 in
theorem reset_any (n : Nat) (u : By) (w : World) (h : Bu w n u) : Calls Tryd.prog 48 #[.pointer (some ⟨n + 3, 0, none⟩)] w fun e w' => e = .returned (.tuple #[]) ∧ Bu w' n [] ∧ Below n w w' ∧ Lib.OthersKept 5 (some (n + 3)) w w' := by
  obtain ⟨p, v, hb⟩ := h.blk
  have c0 := cell_of hb 0
  have c1 := cell_of hb 1
  have f0 := frozen_of hb 0
  have f1 := frozen_of hb 1
  have hb1 := blk_set hb 0 (.pointer none)
  have hb2 := blk_set hb1 1 (.slice none 0 0)
  have hlt := lt_of_blk hb
  have hB : Bu ((w.setCell ⟨n + 3, 0, none⟩ (.pointer none)).setCell ⟨n + 3, 1, none⟩ (.slice none 0 0)) n [] := .inl ⟨by omega, .slice none 0 0, hb2, World.ownsRowF_nil _ _ _ _, by simp [Value.ownBlock]⟩
  have HB := Lib.hid hB
  have HL := Lib.hid (show Below n w ((w.setCell ⟨n + 3, 0, none⟩ (.pointer none)).setCell ⟨n + 3, 1, none⟩ (.slice none 0 0)) from ((Below.refl n w).setCell (p := ⟨n + 3, 0, none⟩) (by show n ≤ n + 3; omega) _).setCell (p := ⟨n + 3, 1, none⟩) (by show n ≤ n + 3; omega) _)
  have HO := Lib.hid (show Lib.OthersKept 5 (some (n + 3)) w ((w.setCell ⟨n + 3, 0, none⟩ (.pointer none)).setCell ⟨n + 3, 1, none⟩ (.slice none 0 0)) from ((Lib.OthersKept.refl 5 (some (n + 3)) w).setCell ⟨n + 3, 0, none⟩ rfl _).setCell ⟨n + 3, 1, none⟩ rfl _)
  clear hb hb1 hb2 hB h
  go_enter Tryd.func48, Tryd.ntmps48
  go_wp2
  go_end0
  exact ⟨rfl, HB.out, HL.out, HO.out⟩

/-! ### what say holds, but for the Builder -/
/-- Where the last item stands. -/
def lastP (A : Option Addr) (out : List Tok) : Value := match out.length with
  | 0 => .pointer none
  | m + 1 => .pointer (A.map fun a => ⟨a.block, m * 2, none⟩)
structure Sk (w V : World) (n : Nat) (p : Value) (A : Option Addr) (c : Nat) (out : List Tok) (B : Option Addr) (d : Nat) (notes : List Tok) : Prop where
  said : V.heap[n]? = some (.cells #[.slice A out.length c] 23 (0, 0))
  box : V.heap[n + 1]? = some (.cells #[.pointer (some ⟨n, 0, none⟩)] 57 (0, 0))
  last : V.heap[n + 2]? = some (.cells #[p] 84 (0, 0))
  known : BM V (n + 4) 13 comF
  out : Own 49 V n A c out
  notes : Own 64 V n B d notes
  low : Below n w V
section
variable {w V V' : World} {n : Nat} {p : Value} {A : Option Addr} {c : Nat} {out : List Tok} {B : Option Addr} {d : Nat} {notes : List Tok}
/-- Blocks that are neither rows of bytes nor the Builder's are kept. -/
theorem Sk.but (h : Sk w V n p A c out B d notes) (hl : Below n V V') (hk : ∀ (k : Nat) (o : Obj), V.heap[k]? = some o → (∀ c fz, o ≠ .cells c 5 fz) → (∀ c fz, o ≠ .cells c 87 fz) → V'.heap[k]? = some o) : Sk w V' n p A c out B d notes := by
  have ty : ∀ (t s : Nat) {cs : Array Value} {f : Nat × Nat}, t ≠ s → ∀ c fz, Obj.cells cs t f ≠ .cells c s fz := fun t s {cs f} hts c fz e => by
    simp only [Obj.cells.injEq] at e
    exact hts e.2.1
  refine ⟨hk _ _ h.said (ty 23 5 (by decide)) (ty 23 87 (by decide)), hk _ _ h.box (ty 57 5 (by decide)) (ty 57 87 (by decide)), hk _ _ h.last (ty 84 5 (by decide)) (ty 84 87 (by decide)), ?_, ?_, ?_, h.low.trans hl⟩
  · obtain ⟨es, cl, hb⟩ := h.known.block
    exact h.known.of_block ((hk _ _ hb (fun c fz e => by cases e) (fun c fz e => by cases e)).trans hb.symm)
  · refine row_keepI h.out fun g hg => ?_
    obtain ⟨cur, hc⟩ := own_blk h.out hg
    exact (hk _ _ hc (ty 49 5 (by decide)) (ty 49 87 (by decide))).trans hc.symm
  · refine row_keepI h.notes fun g hg => ?_
    obtain ⟨cur, hc⟩ := own_blk h.notes hg
    exact (hk _ _ hc (ty 64 5 (by decide)) (ty 64 87 (by decide))).trans hc.symm
theorem Sk.others (h : Sk w V n p A c out B d notes) (hb : ∃ p v, V.heap[n + 3]? = some (.cells #[p, v] 87 (0, 0))) (hl : Below n V V') (hO : Lib.OthersKept 5 (some (n + 3)) V V') : Sk w V' n p A c out B d notes :=
  h.but hl fun k o hk h5 h87 => hO k o hk (fun e => by
    obtain ⟨p, v, hb⟩ := hb
    obtain rfl := Option.some.inj e
    rw [hb] at hk
    exact h87 _ _ (Option.some.inj hk).symm) h5
theorem Sk.size (h : Sk w V n p A c out B d notes) : n + 4 < V.heap.size := h.known.lt
theorem Sk.below (h : Sk w V n p A c out B d notes) (hb : Below V.heap.size V V') : Sk w V' n p A c out B d notes := h.but (hb.mono (by have := h.size; omega)) fun k o hk _ _ => blk_below hb hk
/-- The place of the last one, stored anew. -/
theorem Sk.setLast (h : Sk w V n p A c out B d notes) (q : Value) : Sk w (V.setCell ⟨n + 2, 0, none⟩ q) n q A c out B d notes := by
  have far : ∀ k, k ≠ n + 2 → (V.setCell ⟨n + 2, 0, none⟩ q).heap[k]? = V.heap[k]? := fun k hk => Below.heap_setCell V ⟨n + 2, 0, none⟩ q k hk
  refine ⟨(far _ (by omega)).trans h.said, (far _ (by omega)).trans h.box, ?_, h.known.of_block (far _ (by omega)), row_keepI h.out fun g hg => far g fun e => own_ne h.out h.last (by decide) (by rw [hg, e]), row_keepI h.notes fun g hg => far g fun e => own_ne h.notes h.last (by decide) (by rw [hg, e]), h.low.setCell (p := ⟨n + 2, 0, none⟩) (by show n ≤ n + 2; omega) _⟩
  rw [blk_set h.last]; rfl
/-- The items have grown, and the variable is stored anew. -/
theorem Sk.push (h : Sk w V n p A c out B d notes) {A' : Option Addr} {c' : Nat} {r : List Tok} (ho : Own 49 V' n A' c' r) (hg : V.grownBy V' (Value.slice A out.length c).ownBlock) :
    Sk w (V'.setCell ⟨n, 0, none⟩ (.slice A' r.length c')) n p A' c' r B d notes := by
  have kept : ∀ {k : Nat} {o : Obj}, V.heap[k]? = some o → some k ≠ (Value.slice A out.length c).ownBlock → V'.heap[k]? = some o := fun hk hne => (hg.block _ (lt_of_blk hk) hne).trans hk
  have s1 : V'.heap[n]? = some (.cells #[.slice A out.length c] 23 (0, 0)) := kept h.said (own_ne h.out h.said (by decide)).symm
  have far : ∀ k, k ≠ n → (V'.setCell ⟨n, 0, none⟩ (.slice A' r.length c')).heap[k]? = V'.heap[k]? := fun k hk => Below.heap_setCell V' ⟨n, 0, none⟩ _ k hk
  have k1 := kept h.box (own_ne h.out h.box (by decide)).symm
  have k2 := kept h.last (own_ne h.out h.last (by decide)).symm
  have k3 : BM V' (n + 4) 13 comF := h.known.of_block (hg.block _ h.known.lt (own_ne_map h.out h.known).symm)
  have hap := rows_apartI h.notes h.out (by decide)
  have k4 : Own 64 V' n B d notes := row_keepI h.notes fun g hgg => hg.block g (World.ownsRow.lt h.notes g hgg).2 fun e => hap g hgg e.symm
  refine ⟨?_, (far _ (by omega)).trans k1, (far _ (by omega)).trans k2, k3.of_block (far _ (by omega)), row_keepI ho fun g hgg => far g fun e => own_ne ho s1 (by decide) (by rw [hgg, e]), row_keepI k4 fun g hgg => far g fun e => own_ne k4 s1 (by decide) (by rw [hgg, e]), (h.low.trans (below_grown h.out hg (by have := h.size; omega))).setCell (p := ⟨n, 0, none⟩) (by show n ≤ n; omega) _⟩
  rw [blk_set s1]; rfl
theorem Bu.grown {u : By} (hb : Bu V n u) (h : Own 49 V n A c out) (hg : V.grownBy V' (Value.slice A out.length c).ownBlock) : Bu V' n u := hb.but fun k o hk ho => by
  refine (hg.block _ (lt_of_blk hk) fun e => ?_).trans hk
  rcases ho with rfl | ⟨cs, fz, rfl⟩
  · obtain ⟨p, v, hb⟩ := hb.blk
    exact own_ne h hb (by decide) e.symm
  · exact own_ne h hk (by decide) e.symm
/-- The last item's text, stored anew. -/
theorem Sk.setText {pre : List Tok} {f : Tok} (h : Sk w V n p A c (pre ++ [f]) B d notes) (s : By) : ∃ g, A = some ⟨g, 0, none⟩ ∧ V.cell? ⟨g, pre.length * 2, none⟩ = some (.int .i64 f.1) ∧ V.cell? ⟨g, pre.length * 2 + 1, none⟩ = some (.string ⟨f.2.toArray⟩) ∧ V.frozen? ⟨g, pre.length * 2 + 1, none⟩ = false ∧
    Sk w (V.setCell ⟨g, pre.length * 2 + 1, none⟩ (.string ⟨s.toArray⟩)) n p A c (pre ++ [(f.1, s)]) B d notes ∧ ∀ u, Bu V n u → Bu (V.setCell ⟨g, pre.length * 2 + 1, none⟩ (.string ⟨s.toArray⟩)) n u := by
  obtain ⟨g, rfl, h1, h2⟩ := h.out.addr (by simp)
  have hi : (pre ++ [f])[pre.length]? = some f := by simp
  have hc := h.out.cells2 hi
  have hs := h.out.store2 hi s (r := pre ++ [(f.1, s)]) (by simp)
  have hap := rows_apartI h.notes h.out (by decide)
  have hgo : (Value.slice (some ⟨g, 0, none⟩) (pre ++ [f]).length c).ownBlock = some g := rfl
  obtain ⟨cur, hcur⟩ := own_blk h.out hgo
  have far : ∀ k, k ≠ g → (V.setCell ⟨g, pre.length * 2 + 1, none⟩ (.string ⟨s.toArray⟩)).heap[k]? = V.heap[k]? := fun k hk => Below.heap_setCell V ⟨g, _, none⟩ _ k hk
  have ne : ∀ {k : Nat} {cs : Array Value} {t : TypeId} {f : Nat × Nat}, V.heap[k]? = some (.cells cs t f) → 49 ≠ t → k ≠ g := fun hk ht e => ht (by subst e; exact cells_ty hcur hk)
  refine ⟨g, rfl, hc.1, hc.2, h.out.frozen _, ⟨?_, (far _ (ne h.box (by decide))).trans h.box, (far _ (ne h.last (by decide))).trans h.last, h.known.of_block (far _ fun e => own_ne_map h.out h.known (by rw [hgo, e])), hs, row_keepI h.notes fun q hq => far q fun e => hap q hq (by rw [hgo, e]), h.low.setCell h1 (p := ⟨g, pre.length * 2 + 1, none⟩) _⟩, fun u hu => hu.set (q := ⟨g, _, none⟩) hcur (by decide) (by decide) _⟩
  have e : (pre ++ [(f.1, s)]).length = (pre ++ [f]).length := by simp
  rw [e]
  exact (far _ (ne h.said (by decide))).trans h.said
end
end Go.Proofs.YtckldeabbkdbjaaDoor

namespace Go.Proofs.YtckldeabbkdbjaaDoor
open Go.RowKit

def sayV (n : Nat) : Value := .func (Fn.func 45) #[] #[.pointer (some ⟨n + 2, 0, none⟩), .pointer (some ⟨n + 3, 0, none⟩), .pointer (some ⟨n + 1, 0, none⟩)]
theorem sayer_any (n : Nat) (w : World) (hn : w.heap.size = n + 1) : Calls Tryd.prog 25 #[.pointer (some ⟨n, 0, none⟩)] w fun e w' => e = .returned (sayV n) ∧
    w' = ((w.alloc (.cells #[.pointer (some ⟨n, 0, none⟩)] 57)).alloc (.cells #[.pointer none] 84)).alloc (.cells #[.pointer none, .slice none 0 0] 87) := by
  have h1 : (w.alloc (.cells #[.pointer (some ⟨n, 0, none⟩)] 57)).heap.size = n + 2 := by simp [hn]
  have h2 : ((w.alloc (.cells #[.pointer (some ⟨n, 0, none⟩)] 57)).alloc (.cells #[.pointer none] 84)).heap.size = n + 3 := by simp [hn]
  go_enter Tryd.func25, Tryd.ntmps25
  go_wp2
  go_ret
  refine ⟨?_, rfl⟩
  simp [sayV, hn]
theorem results45 : Tryd.f45.results = #[] := by kernel_rfl
/-- What say holds. -/
structure Sd (w V : World) (n : Nat) (A : Option Addr) (c : Nat) (out : List Tok) (B : Option Addr) (d : Nat) (notes : List Tok) : Prop where
  sk : Sk w V n (lastP A out) A c out B d notes
  bu : ∃ u, Bu V n u ∧ (endT false out = true → ∃ pre, out = pre ++ [(1, u)])
theorem Sd.below {w V V' : World} {n : Nat} {A : Option Addr} {c : Nat} {out : List Tok} {B : Option Addr} {d : Nat} {notes : List Tok} (h : Sd w V n A c out B d notes) (hb : Below V.heap.size V V') : Sd w V' n A c out B d notes :=
  ⟨h.sk.below hb, by obtain ⟨u, h1, h2⟩ := h.bu; exact ⟨u, h1.below hb, h2⟩⟩
theorem lastP_snoc (g : Nat) (pre : List Tok) (f : Tok) : lastP (some ⟨g, 0, none⟩) (pre ++ [f]) = .pointer (some ⟨g, pre.length * 2, none⟩) := by
  unfold lastP
  rw [List.length_append]
  rfl
def SayPost (w : World) (n : Nat) (out : List Tok) (B : Option Addr) (d : Nat) (notes : List Tok) (e : Ending) (V' : World) : Prop :=
  e = .returned (.tuple #[]) ∧ ∃ A' c', Sd w V' n A' c' out B d notes
set_option maxRecDepth 100000 in
set_option maxHeartbeats 4000000 in
/-- A Text goes on. -/
theorem say_add (w V : World) (n : Nat) (A : Option Addr) (c : Nat) (pre : List Tok) (u z : By) (B : Option Addr) (d : Nat) (notes : List Tok) (h : Sd w V n A c (pre ++ [(1, u)]) B d notes) (hu : u.length ≤ 10000000) (hz : z.length ≤ 100000) :
    Calls Tryd.prog 45 #[.agg #[.int .i64 1, .string ⟨z.toArray⟩], .pointer (some ⟨n + 2, 0, none⟩), .pointer (some ⟨n + 3, 0, none⟩), .pointer (some ⟨n + 1, 0, none⟩)] V (SayPost w n (pre ++ [(1, u ++ z)]) B d notes) := by
  obtain ⟨u', hbu, hend⟩ := h.bu
  obtain rfl : u' = u := by
    obtain ⟨pre', hp⟩ := hend (by rw [end_app]; rfl)
    have := List.append_inj_right' hp rfl
    simpa using this.symm
  have b1 := one_below V (.cells #[.int .i64 1, .string ⟨z.toArray⟩] 49)
  have h1 := h.sk.below b1
  have hbu1 := hbu.below b1
  have q0 := new_fst V (.int .i64 1) (.string ⟨z.toArray⟩) 49
  have q1 := new_snd V (.int .i64 1) (.string ⟨z.toArray⟩) 49
  obtain ⟨W, hW⟩ : ∃ W, V.alloc (.cells #[.int .i64 1, .string ⟨z.toArray⟩] 49) = W := ⟨_, rfl⟩
  rw [hW] at h1 hbu1 q0 q1
  obtain ⟨g, hA, k1, k2, k3, _⟩ := h1.setText []
  subst hA
  have c2 : W.cell? ⟨n + 2, 0, none⟩ = some (.pointer (some ⟨g, pre.length * 2, none⟩)) := by rw [cell_of h1.last 0]; exact congrArg some (lastP_snoc g pre _)
  have hsz := h1.size
  have CW := Tryd.Builder_WriteString n (n + 3) (Lib.byteCells u') ⟨z.toArray⟩ W hbu1 (by rw [byteCells_len]; show u'.length + z.length ≤ _; omega) (by omega)
  rw [byteCells_app] at CW
  obtain ⟨r, hr⟩ : ∃ r, u' ++ z = r := ⟨_, rfl⟩
  rw [hr] at CW ⊢
  have CWH := Lib.hid CW
  have H1 := Lib.hid h1
  have HB1 := Lib.hid hbu1.blk
  have CS := Lib.hid (fun (V : World) (hb : Bu V n r) (hs : n ≤ V.heap.size) => Tryd.Builder_String_anyF n (n + 3) r V hb hs)
  clear h h1 hbu hbu1 hend b1 CW hsz hr hu hz k2 k3
  go_enter Tryd.func45, Tryd.ntmps45
  go_wp2_with fail
  refine CWH.out.mono ?_
  rintro e W2 ⟨rfl, hw2, hl2, ho2⟩
  have s2 := H1.out.others HB1.out hl2 ho2
  have b2 : Bu W2 n r := .inr hw2
  have c22 : W2.cell? ⟨n + 2, 0, none⟩ = some (.pointer (some ⟨g, pre.length * 2, none⟩)) := by rw [cell_of s2.last 0]; exact congrArg some (lastP_snoc g pre _)
  have hsz2 := s2.size
  have S2 := Lib.hid (s2.below (V' := W2.drew) (ibelow_drew _))
  have B2 := Lib.hid (b2.below (V' := W2.drew) (ibelow_drew _))
  have hsz3 : n ≤ W2.drew.heap.size := by have := S2.out.size; omega
  clear CWH H1 HB1 hw2 hl2 ho2 s2 b2 hW k1
  go_wp2_with fail
  go_region_with (go_at_call 47; refine (CS.out W2.drew B2.out hsz3).mono ?_; rintro e W3 ⟨rfl, hb3, hl3, ho3⟩; have s3 := S2.out.others B2.out.blk hl3 ho3; have c23 : W3.cell? ⟨n + 2, 0, none⟩ = some (.pointer (some ⟨g, pre.length * 2, none⟩)) := (cell_of s3.last 0).trans (congrArg some (lastP_snoc g pre _)); obtain ⟨g', hA, k1, k2, k3, hs4, hb4⟩ := s3.setText r; cases hA; have HS4 := Lib.hid hs4; have HB4 := Lib.hid (hb4 r hb3); clear hs4 hb4 hb3 hl3 ho3 s3)
  all_goals
    go_wp2
    refine bodyPost_ret (v := .tuple #[]) (by simp [results, results45]) rfl ?_
    refine ⟨rfl, some ⟨g, 0, none⟩, c, ⟨?_, r, HB4.out, fun _ => ⟨pre, rfl⟩⟩⟩
    rw [lastP_snoc]
    have := HS4.out
    rw [lastP_snoc] at this
    exact this
end Go.Proofs.YtckldeabbkdbjaaDoor

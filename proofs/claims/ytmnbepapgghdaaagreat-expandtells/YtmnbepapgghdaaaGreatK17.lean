/-
  An expansion of package expand: what is put out, noted, asked for; tokens brought in place, or in a new row; new macros. Appends and a copy at a step of a region that draws its order.
  A copy of tokens into a row of one's own, from a place on; slices.Grow and slices.Concat of tokens.
  errors.Is at this dump: nil is no number; a fault is the number that it wraps. Package expand: number.
  slices.Grow, slices.Concat of tokens.
-/
import Derived.Test.YtmnbepapgghdaaaGreatK16
import Derived.Laws.CopyRow
import Derived.Laws.IdiomCopy
import Derived.Deep.RegionLaw
import Derived.Test.YtmnbepapgghdaaaGreatK09
import Derived.Test.YtmnbepapgghdaaaGreatK02
import Derived.LaidEql
import Derived.Stop.Asserts
import Derived.RowKitTokens
import Derived.Lib.IfaceEq
import Derived.Test.YtmnbepapgghdaaaGreatK05
import Derived.Lib.AppendZerosOnto
namespace Go.Proofs.YtmnbepapgghdaaaGreat
open Go.RowKit

section
variable {k : Xk} {w w' : World} {s : Xs} {e : Ex}
/-- All but two blocks are as they were. -/
def But2 (p : Nat) (X : Option Nat) (w w' : World) : Prop := ∀ b, b < w.heap.size → b ≠ p → some b ≠ X → w'.heap[b]? = w.heap[b]?
theorem but2 {p j : Nat} {v : Value} {X : Option Nat} (h : w.grownBy w' X) : But2 p X w (w'.setCell ⟨p, j, none⟩ v) := fun b hb hp hX =>
  (Below.heap_setCell w' ⟨p, j, none⟩ v b hp).trans (but_grown h b hb hX)
theorem own_but2 {t : TypeId} {base sz n c p : Nat} {A : Option Addr} {xs : List Value} {X : Option Nat} (h : w.ownsRow base t sz (.slice A n c) n xs) (hk : But2 p X w w') (hp : obA A ≠ some p) (hX : ∀ g, obA A = some g → X ≠ some g) : w'.ownsRow base t sz (.slice A n c) n xs :=
  row_keep h fun g hg => by
    rw [obA_own] at hg
    exact hk g (h.lt g (by rw [obA_own]; exact hg)).2 (fun q => hp (by rw [hg, q])) (fun q => hX g hg q.symm)
theorem bm_but2 {m N p : Nat} {f : By → Option Value} {X : Option Nat} (h : BM w m N f) (hk : But2 p X w w') (hp : m ≠ p) (hX : X ≠ some m) : BM w' m N f := h.of_block (hk m h.lt hp fun q => hX q.symm)
theorem own_set {t : TypeId} {base sz n c p j : Nat} {A : Option Addr} {xs : List Value} {v : Value} (h : w.ownsRow base t sz (.slice A n c) n xs) (hp : obA A ≠ some p) : (w.setCell ⟨p, j, none⟩ v).ownsRow base t sz (.slice A n c) n xs :=
  row_keep h fun g hg => Below.heap_setCell w ⟨p, j, none⟩ v g fun q => hp (by rw [← obA_own A n c, hg]; exact congrArg some q)
theorem XR.rest2 (h : XR k w s e) {X : Option Nat} (hk : But2 k.p X w w') (hX : ∀ b, b < w.heap.size → X = some b → ¬ Gx k.p s b) {s' : Xs} (hG : ∀ b, b < w.heap.size → Gx k.p s b → Gx k.p s' b) (hMA : s'.MA = s.MA) (hf : s'.f = s.f) :
    RdM w' s'.MA (bares e.ms) ∧ InQ (Gx k.p s') s'.MA e.ms.length ∧ Bodies (Gx k.p s') w' e.ms s'.f := by
  have far : ∀ b, b < w.heap.size → Gx k.p s b → w'.heap[b]? = w.heap[b]? := fun b hl hg => hk b hl hg.1 fun q => hX b hl q.symm hg
  rw [hMA, hf]
  refine ⟨rdM_bare h.ms fun h0 a ha => far _ (rdM_lt h.ms h0 a ha) (h.msP h0 a ha), fun h0 a ha => hG _ (rdM_lt h.ms h0 a ha) (h.msP h0 a ha), fun n v hv => ?_⟩
  obtain ⟨B, d, h1, h2, h3⟩ := h.bd n v hv
  exact ⟨B, d, h1, h2.heap fun h0 a ha => far _ (rd_in h2 h0 a ha) (h3 h0 a ha), fun h0 a ha => hG _ (rd_in h2 h0 a ha) (h3 h0 a ha)⟩
/-- Where a row's new place is the old one, or a new block, what lies apart from the one lies apart from the other. -/
theorem new_ne {A A' : Option Addr} {z b : Nat} (hn : obA A' = obA A ∨ obA A' = some z) (hb : b < z) (h : some b ≠ obA A) : some b ≠ obA A' := fun q => by
  rcases hn with n | n
  · exact h (q.trans n)
  · rw [n] at q
    have := Option.some.inj q
    omega
theorem blk_grown {X : Option Nat} (h : XR k w s e) (hg : w.grownBy w' X) (hX : X ≠ some k.p) : w'.heap[k.p]? = some (.cells (xC k s e) 68) :=
  (but_grown hg k.p (lt_of_blk h.blk) fun q => hX q.symm).trans h.blk
/-- A token is put out. -/
theorem XR.pushL (h : XR k w s e) {A : Option Addr} {c : Nat} {l : List Tok} (ho : Own 89 w' k.base A c l) (hg : w.grownBy w' (obA s.LA)) (hn : obA A = obA s.LA ∨ obA A = some w.heap.size) :
    XR k (w'.setCell ⟨k.p, 8, none⟩ (.slice A l.length c)) { s with LA := A, lc := c } { e with out := l } := by
  have hk := but2 (p := k.p) (j := 8) (v := .slice A l.length c) hg
  have hpl := lt_of_blk h.blk
  obtain ⟨m1, m2, m3, m4⟩ := h.row_m
  obtain ⟨c1, c2, c3, c4⟩ := h.row_c
  have nAp : obA A ≠ some k.p := fun q => new_ne hn hpl (fun q => h.nLp q.symm) q.symm
  obtain ⟨r1, r2, r3⟩ := h.rest2 hk (fun b _ q g => g.2.2.1 q.symm) (s' := { s with LA := A, lc := c }) (fun b hb g => ⟨g.1, g.2.1, new_ne hn hb g.2.2.1, g.2.2.2.1, g.2.2.2.2⟩) rfl rfl
  refine ⟨h.hp, h.hm, ?_, h.fuel, h.atl, h.flen, h.inp, own_but2 h.toks hk h.nTp (fun g hg => h.tl g hg), own_set ho nAp, fun g hg q => ?_, own_but2 h.reads hk h.nRp (fun g hg q => h.aLR g q hg), own_but2 h.notes hk h.nNp (fun g hg q => h.aLN g q hg),
    bm_but2 h.bm hk h.mp m2, bm_but2 h.cm hk h.cp c2, h.mne, r1, h.msc, r2, r3⟩
  · rw [blk_set (blk_grown h hg h.nLp)]; rfl
  · have hgl := (World.ownsRow.lt h.toks g (by rw [obA_own]; exact hg)).2
    exact new_ne hn hgl (fun q => h.tl g hg q.symm) q.symm
/-- A file is asked for. -/
theorem XR.pushR (h : XR k w s e) {A : Option Addr} {c : Nat} {l : List By} (ho : OwnT w' k.base A c l) (hg : w.grownBy w' (obA s.RA)) (hn : obA A = obA s.RA ∨ obA A = some w.heap.size) :
    XR k (w'.setCell ⟨k.p, 9, none⟩ (.slice A l.length c)) { s with RA := A, rc := c } { e with reads := l } := by
  have hk := but2 (p := k.p) (j := 9) (v := .slice A l.length c) hg
  have hpl := lt_of_blk h.blk
  obtain ⟨m1, m2, m3, m4⟩ := h.row_m
  obtain ⟨c1, c2, c3, c4⟩ := h.row_c
  have nAp : obA A ≠ some k.p := fun q => new_ne hn hpl (fun q => h.nRp q.symm) q.symm
  obtain ⟨r1, r2, r3⟩ := h.rest2 hk (fun b _ q g => g.2.2.2.1 q.symm) (s' := { s with RA := A, rc := c }) (fun b hb g => ⟨g.1, g.2.1, g.2.2.1, new_ne hn hb g.2.2.2.1, g.2.2.2.2⟩) rfl rfl
  refine ⟨h.hp, h.hm, ?_, h.fuel, h.atl, h.flen, h.inp, own_but2 h.toks hk h.nTp (fun g hg => h.aTR g hg), own_but2 h.out hk h.nLp (fun g hg => h.aLR g hg), h.tl, own_set ho nAp, own_but2 h.notes hk h.nNp (fun g hg q => h.aRN g q hg),
    bm_but2 h.bm hk h.mp m3, bm_but2 h.cm hk h.cp c3, h.mne, r1, h.msc, r2, r3⟩
  rw [blk_set (blk_grown h hg h.nRp)]; rfl
/-- A note. -/
theorem XR.pushN (h : XR k w s e) {A : Option Addr} {c : Nat} {l : List Tok} (ho : Own 86 w' k.base A c l) (hg : w.grownBy w' (obA s.NA)) (hn : obA A = obA s.NA ∨ obA A = some w.heap.size) :
    XR k (w'.setCell ⟨k.p, 10, none⟩ (.slice A l.length c)) { s with NA := A, nc := c } { e with notes := l } := by
  have hk := but2 (p := k.p) (j := 10) (v := .slice A l.length c) hg
  have hpl := lt_of_blk h.blk
  obtain ⟨m1, m2, m3, m4⟩ := h.row_m
  obtain ⟨c1, c2, c3, c4⟩ := h.row_c
  have nAp : obA A ≠ some k.p := fun q => new_ne hn hpl (fun q => h.nNp q.symm) q.symm
  obtain ⟨r1, r2, r3⟩ := h.rest2 hk (fun b _ q g => g.2.2.2.2 q.symm) (s' := { s with NA := A, nc := c }) (fun b hb g => ⟨g.1, g.2.1, g.2.2.1, g.2.2.2.1, new_ne hn hb g.2.2.2.2⟩) rfl rfl
  refine ⟨h.hp, h.hm, ?_, h.fuel, h.atl, h.flen, h.inp, own_but2 h.toks hk h.nTp (fun g hg => h.aTN g hg), own_but2 h.out hk h.nLp (fun g hg => h.aLN g hg), h.tl, own_but2 h.reads hk h.nRp (fun g hg => h.aRN g hg), own_set ho nAp,
    bm_but2 h.bm hk h.mp m4, bm_but2 h.cm hk h.cp c4, h.mne, r1, h.msc, r2, r3⟩
  rw [blk_set (blk_grown h hg h.nNp)]; rfl
/-- Other tokens in the same row. -/
theorem XR.turnT (h : XR k w s e) {l : List Tok} {i : List Tok} (ho : Own 89 w' k.base s.TA s.tc l) (hl : l.length = s.full.length) (hk : ButX (obA s.TA) w w') (hi : l.drop s.at_ = i) : XR k w' { s with full := l } { e with inp := i } := by
  obtain ⟨m1, m2, m3, m4⟩ := h.row_m
  obtain ⟨c1, c2, c3, c4⟩ := h.row_c
  obtain ⟨r1, r2, r3⟩ := h.rest hk (fun b _ q => .inl fun g => g.2.1 q) (s' := { s with full := l }) (fun b _ g => g) rfl rfl
  refine ⟨h.hp, h.hm, ?_, h.fuel, by show s.at_ ≤ l.length; rw [hl]; exact h.atl, by show l.length ≤ _; rw [hl]; exact h.flen, hi, ho, own_but h.out hk (fun g hg q => h.tl g q.symm hg), h.tl, own_but h.reads hk (fun g hg q => h.aTR g q.symm hg), own_but h.notes hk (fun g hg q => h.aTN g q.symm hg),
    bm_but h.bm hk (fun q => m1 q.symm), bm_but h.cm hk (fun q => c1 q.symm), h.mne, r1, h.msc, r2, r3⟩
  rw [hk k.p (lt_of_blk h.blk) fun q => h.nTp q.symm, h.blk]
  unfold xC
  simp only [hl]
/-- A new row of tokens; what was there before lies apart from it. -/
theorem XR.newT (h : XR k w s e) (hb : Below w.heap.size w w') {A : Option Addr} {c : Nat} {l : List Tok} (ho : Own 89 w' k.base A c l) (hn : ∀ g, obA A = some g → w.heap.size ≤ g) (ha : s.at_ ≤ l.length) (hlen : l.length ≤ 100000) :
    XR k (w'.setCell ⟨k.p, 6, none⟩ (.slice A l.length c)) { s with TA := A, tc := c, full := l } { e with inp := l.drop s.at_ } := by
  have h' := h.below hb
  have hpl := lt_of_blk h.blk
  have old : ∀ b, b < w.heap.size → some b ≠ obA A := fun b hb q => by have := hn b q.symm; omega
  have hk := but_set (w := w') k.p 6 (.slice A l.length c)
  have hG : ∀ b, b < w.heap.size → Gx k.p s b → Gx k.p { s with TA := A, tc := c, full := l } b := fun b hl g => ⟨g.1, old b hl, g.2.2.1, g.2.2.2.1, g.2.2.2.2⟩
  refine ⟨h.hp, h.hm, ?_, h.fuel, ha, hlen, rfl, own_set ho (fun q => old _ hpl q.symm), own_set h'.out h.nLp, fun g hg q => ?_, own_set h'.reads h.nRp, own_set h'.notes h.nNp, bm_but h'.bm hk (fun q => h.mp (Option.some.inj q)), bm_but h'.cm hk (fun q => h.cp (Option.some.inj q)), h.mne, ?_, h.msc, ?_, ?_⟩
  · rw [blk_set h'.blk]; rfl
  · have := (World.ownsRow.lt h.out g (by rw [obA_own]; exact q)).2
    have := hn g hg
    omega
  · exact rdM_bare h'.ms fun h0 a ha => hk _ (rdM_lt h'.ms h0 a ha) fun q => (h.msP h0 a ha).1 (Option.some.inj q)
  · exact fun h0 a ha => hG _ (rdM_lt h.ms h0 a ha) (h.msP h0 a ha)
  · intro n v hv
    obtain ⟨B, d, h1, h2, h3⟩ := h.bd n v hv
    exact ⟨B, d, h1, (h2.below hb).heap fun h0 a ha => hk _ (rd_in (h2.below hb) h0 a ha) fun q => (h3 h0 a ha).1 (Option.some.inj q), fun h0 a ha => hG _ (rd_in h2 h0 a ha) (h3 h0 a ha)⟩
/-- What it reads of its own cells. -/
theorem XR.cell (h : XR k w s e) (i : Nat) : w.cell? ⟨k.p, i, none⟩ = (xC k s e)[i]? := cell_of h.blk i
theorem XR.froz (h : XR k w s e) (i : Nat) : w.frozen? ⟨k.p, i, none⟩ = false := frozen_of h.blk i
end

/-! ### appends and copies at a step -/
theorem run_append_x (w : World) (base : Nat) (ty : TypeId) (C : Option Addr) (cc : Nat) (xs : List Tok) (hown : Own 89 w base C cc xs) (A : Option Addr) (c : Nat) (gs : List Tok) (hr : Rd w A gs)
    (hlen : xs.length + gs.length ≤ 200000) (hbase : base ≤ w.heap.size) :
    ∃ A' c' w', (Builtin.append_ #[27, 27] ty #[.slice C xs.length cc, .slice A gs.length c]).run Tryz.prog w = .ok (.slice A' (xs ++ gs).length c') w' ∧ Own 89 w' base A' c' (xs ++ gs) ∧ w.grownBy w' (Value.slice C xs.length cc).ownBlock ∧
      ((Value.slice A' (xs ++ gs).length c').ownBlock = (Value.slice C xs.length cc).ownBlock ∨ (Value.slice A' (xs ++ gs).length c').ownBlock = some w.heap.size) := by
  obtain ⟨i0, hi, hz0, hz1, hz2⟩ := info_parts Tryz.info89
  have main : ∀ (ad : Addr), (∀ j u, (fcells gs)[j]? = some u → w.cell? (ad.add j) = some u) →
      ∃ A' c' w', (Builtin.append_ #[27, 27] ty #[.slice C xs.length cc, .slice (some ad) gs.length c]).run Tryz.prog w = .ok (.slice A' (xs ++ gs).length c') w' ∧ Own 89 w' base A' c' (xs ++ gs) ∧ w.grownBy w' (Value.slice C xs.length cc).ownBlock ∧
      ((Value.slice A' (xs ++ gs).length c').ownBlock = (Value.slice C xs.length cc).ownBlock ∨ (Value.slice A' (xs ++ gs).length c').ownBlock = some w.heap.size) := fun ad hn => by
    obtain ⟨v', w', h1, h2, h3, _, h5⟩ := run_append_own_at (P := Tryz.prog) w base 27 ty 89 i0 _ 2 24 Tryz.underlying27 hi hz0 hz1 hz2 rfl (by decide) (.slice C xs.length cc) xs.length (fcells xs) hown ad gs.length c (fcells gs) (fcells_len gs) hn (fcells_one gs)
      (by unfold maxLen; omega) (by omega) hbase
    rw [← fcells_app] at h2
    obtain ⟨A', c', rfl⟩ := own_shape h2
    rw [← List.length_append] at h2 h1 h5
    exact ⟨A', c', w', h1, h2, h3, h5⟩
  cases A with
  | none =>
    have hg : gs = [] := by
      rcases Nat.eq_zero_or_pos gs.length with h | h
      · exact List.length_eq_zero_iff.1 h
      · obtain ⟨b, o, e, _⟩ := hr h; cases e
    subst hg
    refine ⟨C, cc, w, ?_, ?_, ⟨rfl, rfl, rfl, Nat.le_refl _, fun _ _ _ => rfl⟩, ?_⟩
    · rw [List.append_nil]; exact run_append_none w base 27 ty 89 i0 2 c Tryz.underlying27 hi _ _ _ hown
    · rw [List.append_nil]; exact hown
    · rw [List.append_nil]; exact .inl rfl
  | some ad =>
    rcases Nat.eq_zero_or_pos gs.length with h | h
    · have hg := List.length_eq_zero_iff.1 h
      subst hg
      exact main ad fun j u hu => by simp [fcells] at hu
    · obtain ⟨b, o, e, hc⟩ := hr h
      cases e
      exact main _ (Rd.news hc)
theorem step_append_x {ops : Array Oper} {o : Oper} {a : Act} {K : Act → World → Prop} {Q : Exit → Act → World → Prop} {E : Prop} (w : World) (hgd : o.guard = none) (s x : Operand)
    (ho : o.op = .call { callee := .builtin .append, args := #[s, x], argTypes := #[27, 27] }) (base : Nat) (C : Option Addr) (cc : Nat) (xs : List Tok) (hs : a.eval s = .slice C xs.length cc) (hown : Own 89 w base C cc xs)
    (A : Option Addr) (m c : Nat) (gs : List Tok) (hm : m = gs.length) (hx : a.eval x = .slice A m c) (hr : Rd w A gs) (hlen : xs.length + gs.length ≤ 200000) (hbase : base ≤ w.heap.size) (r : List Tok) (hr0 : xs ++ gs = r)
    (h : ∀ A' c' w', Own 89 w' base A' c' r → w.grownBy w' (obA C) → (obA A' = obA C ∨ obA A' = some w.heap.size) → K (a.put o.dst (.slice A' r.length c')) w') : if Region.wanted o (yielded ops a.tmps) = true then Oper.wp Tryz.prog o a w K Q else E := by
  subst hm hr0
  have hw : Region.wanted o (yielded ops a.tmps) = true := by simp [Region.wanted, hgd]
  rw [if_pos hw]
  obtain ⟨A', c', w', hrun, h2, h3, h4⟩ := run_append_x w base o.type C cc xs hown A c gs hr hlen hbase
  rw [obA_own, obA_own] at h4
  rw [obA_own] at h3
  unfold Oper.wp
  simp only [execOp, ho, resolve, invoke, builtin, Sem.run_bind, Sem.run_pure, Result.andThen_ok, List.map_toArray, List.map_cons, List.map_nil, hs, hx, hrun]
  exact h A' c' w' h2 h3 h4
theorem step_append_n {ops : Array Oper} {o : Oper} {a : Act} {K : Act → World → Prop} {Q : Exit → Act → World → Prop} {E : Prop} (w : World) (hgd : o.guard = none) (s x : Operand)
    (ho : o.op = .call { callee := .builtin .append, args := #[s, x], argTypes := #[29, 29] }) (base : Nat) (C : Option Addr) (cc : Nat) (xs : List Tok) (hs : a.eval s = .slice C xs.length cc) (hown : Own 86 w base C cc xs)
    (A : Option Addr) (m c : Nat) (gs : List Tok) (hm : m = gs.length) (hx : a.eval x = .slice A m c) (hr : Rd w A gs) (hlen : xs.length + gs.length ≤ 200000) (hbase : base ≤ w.heap.size) (r : List Tok) (hr0 : xs ++ gs = r)
    (h : ∀ A' c' w', Own 86 w' base A' c' r → w.grownBy w' (obA C) → (obA A' = obA C ∨ obA A' = some w.heap.size) → K (a.put o.dst (.slice A' r.length c')) w') : if Region.wanted o (yielded ops a.tmps) = true then Oper.wp Tryz.prog o a w K Q else E := by
  subst hm hr0
  have hw : Region.wanted o (yielded ops a.tmps) = true := by simp [Region.wanted, hgd]
  rw [if_pos hw]
  obtain ⟨A', c', w', hrun, h2, h3, h4⟩ := run_append_n w base o.type C cc xs hown A c gs hr hlen hbase
  rw [obA_own, obA_own] at h4
  rw [obA_own] at h3
  unfold Oper.wp
  simp only [execOp, ho, resolve, invoke, builtin, Sem.run_bind, Sem.run_pure, Result.andThen_ok, List.map_toArray, List.map_cons, List.map_nil, hs, hx, hrun]
  exact h A' c' w' h2 h3 h4
/-- Tokens that are copied into a row of one's own, from a place on. -/
theorem splice_cells (l pre : List Tok) (xs : List Tok) (at_ : Nat) (h : at_ + l.length ≤ xs.length) : (fcells xs).take (at_ * 2) ++ fcells l ++ (fcells xs).drop (at_ * 2 + (fcells l).length) = fcells (xs.take at_ ++ l ++ xs.drop (at_ + l.length)) := by
  have e : ∀ (n : Nat) (xs : List Tok), (fcells xs).take (n * 2) = fcells (xs.take n) ∧ (fcells xs).drop (n * 2) = fcells (xs.drop n) := by
    intro n
    induction n with
    | zero => intro xs; simp [fcells]
    | succ n ih =>
      intro xs
      cases xs with
      | nil => simp [fcells]
      | cons x r =>
        rw [show (n + 1) * 2 = n * 2 + 1 + 1 by omega]
        simp only [fcells, List.take_succ_cons, List.drop_succ_cons]
        exact ⟨by rw [(ih r).1], (ih r).2⟩
  rw [fcells_app, fcells_app, (e at_ xs).1, fcells_len, ← Nat.add_mul, (e _ xs).2]
end Go.Proofs.YtmnbepapgghdaaaGreat

namespace Go.Proofs.YtmnbepapgghdaaaGreat
open Go.RowKit

theorem take_splice {α : Type} (L : List α) (a : Nat) (cs : List α) (N : Nat) (h : a + cs.length ≤ N) (hN : N ≤ L.length) : (L.take a ++ cs ++ L.drop (a + cs.length)).take N = (L.take N).take a ++ cs ++ (L.take N).drop (a + cs.length) := by
  have hl : (L.take a ++ cs).length = a + cs.length := by simp; omega
  rw [List.take_append, List.take_of_length_le (by omega), hl, List.take_take, Nat.min_eq_left (by omega), List.drop_take]
theorem run_copy_x (w : World) (base : Nat) (ty : TypeId) (A : Option Addr) (c : Nat) (xs : List Tok) (hown : Own 89 w base A c xs) (at_ : Nat) (B : Option Addr) (d : Nat) (l : List Tok) (hr : Rd w B l) (hfit : at_ + l.length ≤ xs.length) :
    ∃ w', (Builtin.copy_ #[27, 27] ty #[.slice (cutS 2 A c at_) (xs.length - at_) (c - at_), .slice B l.length d]).run Tryz.prog w = .ok (.int .i64 l.length) w' ∧ Own 89 w' base A c (xs.take at_ ++ l ++ xs.drop (at_ + l.length)) ∧ ButX (obA A) w w' ∧ Below base w w' := by
  obtain ⟨i0, hi, hz0, hz1, hz2⟩ := info_parts Tryz.info89
  have hmin : Nat.min l.length (xs.length - at_) = l.length := Nat.min_eq_left (by omega)
  rcases Nat.eq_zero_or_pos l.length with h0 | hpos
  · have hl0 : l = [] := List.length_eq_zero_iff.1 h0
    subst hl0
    refine ⟨w, ?_, by simpa using hown, fun _ _ _ => rfl, Below.refl _ _⟩
    have hl : ∀ (x : Addr), (loadCells x 0).run Tryz.prog w = .ok #[] w := fun x => by simpa using run_loadCells_list (P := Tryz.prog) w x [] (by simp)
    cases cutS 2 A c at_ <;> cases B <;> simp [Builtin.copy_, run_underlying Tryz.underlying27, Builtin.lenOf, Builtin.firstCells, sizeOf, typeInfo, hi, hz1, storeCells, hl, goInt]
  · obtain ⟨b, o, rfl, hc⟩ := hr hpos
    obtain ⟨hlen, hv⟩ := hown
    rcases hv with ⟨_, hn⟩ | ⟨g, cap, cur, hv, hb, hg, hn, hcap, hsz, htk⟩
    · omega
    · simp only [Value.slice.injEq] at hv
      obtain ⟨rfl, -, rfl⟩ := hv
      have hcut : cutS 2 (some ⟨g, 0, none⟩) c at_ = some ⟨g, at_ * 2, none⟩ := by
        unfold cutS
        rw [if_neg (by omega), Option.map_some, add_lit, Nat.zero_add]
      rw [hcut]
      have hld := run_loadCells_list (P := Tryz.prog) w ⟨b, o, none⟩ (fcells l) (fun j v hj => by rw [add_lit]; have := Rd.news (w := w) (b := b) (o := o) (gs := l) hc j v hj; rwa [add_lit] at this)
      have hst := run_storeCells_at Tryz.prog g (at_ * 2) 89 (fcells l) 0 cur w hg (by rw [fcells_len, hsz]; omega) (fcells_one l)
      rw [fcells_len] at hld
      simp only [Nat.add_zero] at hst
      obtain ⟨C, hC⟩ : ∃ C, (cur.toList.take (at_ * 2) ++ fcells l ++ cur.toList.drop (at_ * 2 + (fcells l).length)).toArray = C := ⟨_, rfl⟩
      rw [hC] at hst
      have e : (xs.take at_ ++ l ++ xs.drop (at_ + l.length)).length = xs.length := by simp; omega
      refine ⟨w.setRow g C, ?_, ⟨?_, .inr ⟨g, c, C, ?_, hb, setRow_heap w g cur C 89 _ hg, ?_, hcap, ?_, ?_⟩⟩, fun k _ hk => setRow_other w g k C (fun (e : k = g) => hk (by rw [e]; rfl)), ⟨rfl, rfl, rfl, by simp [World.setRow], fun k hk => setRow_other w g k C (by omega)⟩⟩
      · simp [Builtin.copy_, run_underlying Tryz.underlying27, Builtin.lenOf, Builtin.firstCells, sizeOf, typeInfo, hi, hz1, hmin, hld, hst, goInt]
      · rw [fcells_len]
      · rw [e]
      · rw [e]; exact hn
      · have hcl : cur.toList.length = c * 2 := by rw [Array.length_toList]; exact hsz
        rw [← hC]; simp [fcells_len]; omega
      · have hcl : cur.toList.length = c * 2 := by rw [Array.length_toList]; exact hsz
        rw [e, ← splice_cells l [] xs at_ hfit, ← htk, ← hC, List.toList_toArray]
        exact take_splice _ _ _ _ (by rw [fcells_len]; omega) (by omega)
theorem step_copy_x {ops : Array Oper} {o : Oper} {a : Act} {K : Act → World → Prop} {Q : Exit → Act → World → Prop} {E : Prop} (w : World) (hgd : o.guard = none) (s x : Operand)
    (ho : o.op = .call { callee := .builtin .copy, args := #[s, x], argTypes := #[27, 27] }) (base : Nat) (A : Option Addr) (c : Nat) (xs : List Tok) (at_ : Nat) (B : Option Addr) (d m n p : Nat) (l : List Tok) (D : Option Addr) (hs : a.eval s = .slice D n p) (hD : D = cutS 2 A c at_ ∧ n = xs.length - at_ ∧ p = c - at_) (hx : a.eval x = .slice B m d) (hm : m = l.length)
    (hown : Own 89 w base A c xs) (hr : Rd w B l) (hfit : at_ + l.length ≤ xs.length)
    (h : ∀ w', Hid (Own 89 w' base A c (xs.take at_ ++ l ++ xs.drop (at_ + l.length))) → ButX (obA A) w w' → Below base w w' → K (a.put o.dst (.int .i64 l.length)) w') : if Region.wanted o (yielded ops a.tmps) = true then Oper.wp Tryz.prog o a w K Q else E := by
  obtain ⟨rfl, rfl, rfl⟩ := hD
  subst hm
  have hw : Region.wanted o (yielded ops a.tmps) = true := by simp [Region.wanted, hgd]
  rw [if_pos hw]
  obtain ⟨w', hrun, h2, h3, h4⟩ := run_copy_x w base o.type A c xs hown at_ B d l hr hfit
  unfold Oper.wp
  simp only [execOp, ho, resolve, invoke, builtin, Sem.run_bind, Sem.run_pure, Result.andThen_ok, List.map_toArray, List.map_cons, List.map_nil, hs, hx, hrun]
  exact h w' (Lib.hid h2) h3 h4
end Go.Proofs.YtmnbepapgghdaaaGreat

namespace Go.Proofs.YtmnbepapgghdaaaGreat
open Go.RowKit Go.Extern.Stop Go.Stop Go.Extern

/-- What is wrong, as an error; nothing: nil. -/
def errV : Option Int → Value
  | none => .nilIface
  | some k => .iface 104 (.agg #[.int .i64 k])
theorem unwrap_any (e : Int) (w : World) :
    Calls Tryz.prog 150 #[.agg #[.int .i64 e]] w fun ev w' => ev = .returned (.iface 32 (.int .i64 e)) ∧ w' = w.alloc (.cells #[.int .i64 e] 104) := by
  go_enter Tryz.func150, Tryz.ntmps150
  go_wp2
  go_ret
  exact ⟨rfl, rfl⟩
theorem typeOf32 (v : Value) (w : World) : (ReflectliteType.typeOf #[.iface 32 v]).run Tryz.prog w = .ok (.iface 177 (.agg #[.pointer (some ⟨1, 32, none⟩)])) w := by kernel_rfl
theorem comp32 (w : World) : ((ReflectliteType.method fun t => do Rtype.noPackHeld "Comparable" t; pure (.bool (← typeInfo t).comparable)) #[.agg #[.pointer (some ⟨1, 32, none⟩)]]).run Tryz.prog w = .ok (.bool true) w := by kernel_rfl
theorem callComp (w : World) : (callFunc 155 #[.agg #[.pointer (some ⟨1, 32, none⟩)]]).run Tryz.prog w = .ok (.value (.bool true)) w := by
  rw [@run_callFunc_extern Tryz.prog 155 _ (ReflectliteType.method fun t => do Rtype.noPackHeld "Comparable" t; pure (.bool (← typeInfo t).comparable)) Tryz.func155 (by kernel_rfl) (by kernel_rfl) (by kernel_rfl) (by kernel_rfl), comp32]
  rfl
theorem methodComp (h : Value) (w : World) : (Go.method 337 177 h "Comparable").run Tryz.prog w = .ok (155, h) w := by kernel_rfl
theorem methodUnwrap (h : Value) (w : World) : (Go.method 337 104 h "Unwrap").run Tryz.prog w = .ok (150, h) w := by kernel_rfl
theorem noIs104 (v : Value) (xT : TypeId) (w : World) : (Instr.typeAssert (.iface 104 v) xT 179 true).run Tryz.prog w = .ok (.tuple #[.nilIface, .bool false]) w := run_typeAssert_lacksB Tryz.underlying179 (by kernel_rfl) (by kernel_rfl) v xT w
theorem noIs32 (v : Value) (xT : TypeId) (w : World) : (Instr.typeAssert (.iface 32 v) xT 179 true).run Tryz.prog w = .ok (.tuple #[.nilIface, .bool false]) w := run_typeAssert_lacksB Tryz.underlying179 (by kernel_rfl) (by kernel_rfl) v xT w
theorem unwraps104 (v : Value) (xT : TypeId) (w : World) : (Instr.typeAssert (.iface 104 v) xT 182 true).run Tryz.prog w = .ok (.tuple #[.iface 104 v, .bool true]) w := run_typeAssert_hasB Tryz.underlying182 (by kernel_rfl) v xT w
theorem noUnwrap32 (v : Value) (xT : TypeId) (w : World) : (Instr.typeAssert (.iface 32 v) xT 182 true).run Tryz.prog w = .ok (.tuple #[.nilIface, .bool false]) w := run_typeAssert_lacksB Tryz.underlying182 (by kernel_rfl) (by kernel_rfl) v xT w
theorem noUnwraps32 (v : Value) (xT : TypeId) (w : World) : (Instr.typeAssert (.iface 32 v) xT 183 true).run Tryz.prog w = .ok (.tuple #[.nilIface, .bool false]) w := run_typeAssert_lacksB Tryz.underlying183 (by kernel_rfl) (by kernel_rfl) v xT w
theorem isComp32 : (Tryz.prog.info? 32).map (·.comparable) = some true := by kernel_rfl
theorem eis_nil (j : Int) (w : World) : Calls Tryz.prog 52 #[.nilIface, .iface 32 (.int .i64 j)] w fun e w' => e = .returned (.bool false) ∧ w' = w := by
  have hn := run_eql_iface_nil_left (P := Tryz.prog) w 32 (.int .i64 j) Tryz.underlying70
  go_enter Tryz.func52, Tryz.ntmps52
  go_wp2
  go_ret
  exact ⟨rfl, rfl⟩
set_option maxRecDepth 100000 in
set_option maxHeartbeats 4000000 in
theorem eis_any (k j : Int) (b : Bool) (hb : (k == j) = b) (w : World) :
    Calls Tryz.prog 52 #[.iface 104 (.agg #[.int .i64 k]), .iface 32 (.int .i64 j)] w fun e w' => e = .returned (.bool b) ∧ Below w.heap.size w w' := by
  have h83 := @run_callFunc_extern Tryz.prog 83 _ ReflectliteType.typeOf Tryz.func83 (by kernel_rfl) (by kernel_rfl) (by kernel_rfl) (by kernel_rfl)
  have tT := typeOf32
  have cT := callComp
  have mR := methodComp
  have hty := run_eql_iface_types (P := Tryz.prog) 104 32 (.agg #[.int .i64 k]) (.int .i64 j) Tryz.underlying70 (by decide)
  have heq := fun w => Lib.run_eql_iface_int (P := Tryz.prog) w (t := 70) (tx := 32) (k := .i64) (q := .i64) k j Tryz.underlying70 isComp32 Tryz.underlying32
  rw [hb] at heq
  have n1 := noIs104
  have n2 := noIs32
  have u1 := unwraps104
  have u2 := noUnwrap32
  have u3 := noUnwraps32
  have mU := methodUnwrap
  have HB := Lib.hid (one_below w (.cells #[.int .i64 k] 104))
  clear hb
  cases b
  · go_enter Tryz.func52, Tryz.ntmps52
    go_wp2
    refine wp_loop_rounds 2 ?_
    rw [rounds_succ]
    go_wp2
    rw [rounds_succ]
    go_wp2
    go_ret
    exact ⟨rfl, HB.out⟩
  · go_enter Tryz.func52, Tryz.ntmps52
    go_wp2
    refine wp_loop_rounds 2 ?_
    rw [rounds_succ]
    go_wp2
    rw [rounds_succ]
    go_wp2
    go_ret
    exact ⟨rfl, HB.out⟩
def numA : Value := .agg #[.int .i64 2, .int .i64 3, .int .i64 4, .int .i64 9, .int .i64 10]
theorem num_at0 (w : World) : (Instr.index 145 (.agg #[.int .i64 2, .int .i64 3, .int .i64 4, .int .i64 9, .int .i64 10]) (.int .i64 0)).run Tryz.prog w = .ok (.int .i64 2) w := by kernel_rfl
theorem num_at1 (w : World) : (Instr.index 145 (.agg #[.int .i64 2, .int .i64 3, .int .i64 4, .int .i64 9, .int .i64 10]) (.int .i64 1)).run Tryz.prog w = .ok (.int .i64 3) w := by kernel_rfl
theorem num_at2 (w : World) : (Instr.index 145 (.agg #[.int .i64 2, .int .i64 3, .int .i64 4, .int .i64 9, .int .i64 10]) (.int .i64 2)).run Tryz.prog w = .ok (.int .i64 4) w := by kernel_rfl
theorem num_at3 (w : World) : (Instr.index 145 (.agg #[.int .i64 2, .int .i64 3, .int .i64 4, .int .i64 9, .int .i64 10]) (.int .i64 3)).run Tryz.prog w = .ok (.int .i64 9) w := by kernel_rfl
theorem num_at4 (w : World) : (Instr.index 145 (.agg #[.int .i64 2, .int .i64 3, .int .i64 4, .int .i64 9, .int .i64 10]) (.int .i64 4)).run Tryz.prog w = .ok (.int .i64 10) w := by kernel_rfl
/-- The numbers of an expansion. -/
def okE (k : Int) : Prop := k = 2 ∨ k = 3 ∨ k = 4 ∨ k = 9 ∨ k = 10
set_option maxRecDepth 100000 in
set_option maxHeartbeats 4000000 in
theorem number_any (k : Int) (hk : okE k) (w : World) :
    Calls Tryz.prog 50 #[errV (some k)] w fun e w' => e = .returned (.int .i64 k) ∧ Below w.heap.size w w' := by
  unfold errV
  have a0 := num_at0
  have a1 := num_at1
  have a2 := num_at2
  have a3 := num_at3
  have a4 := num_at4
  have C2 := Lib.hid (fun b h w => eis_any k 2 b h w)
  have C3 := Lib.hid (fun b h w => eis_any k 3 b h w)
  have C4 := Lib.hid (fun b h w => eis_any k 4 b h w)
  have C9 := Lib.hid (fun b h w => eis_any k 9 b h w)
  have C10 := Lib.hid (fun b h w => eis_any k 10 b h w)
  rcases hk with rfl | rfl | rfl | rfl | rfl
  · go_enter Tryz.func50, Tryz.ntmps50
    go_wp2
    refine wp_loop_rounds 5 ?_
    rw [rounds_succ]
    go_wp2_with fail
    refine (C2.out true (by decide) _).mono ?_
    rintro e w1 ⟨rfl, b1⟩
    go_wp2
    go_ret
    exact ⟨rfl, b1⟩
  · go_enter Tryz.func50, Tryz.ntmps50
    go_wp2
    refine wp_loop_rounds 5 ?_
    rw [rounds_succ]
    go_wp2_with fail
    refine (C2.out false (by decide) _).mono ?_
    rintro e w1 ⟨rfl, b1⟩
    go_wp2
    rw [rounds_succ]
    go_wp2_with fail
    refine (C3.out true (by decide) _).mono ?_
    rintro e w2 ⟨rfl, b2⟩
    go_wp2
    go_ret
    exact ⟨rfl, bch b1 b2⟩
  · go_enter Tryz.func50, Tryz.ntmps50
    go_wp2
    refine wp_loop_rounds 5 ?_
    rw [rounds_succ]
    go_wp2_with fail
    refine (C2.out false (by decide) _).mono ?_
    rintro e w1 ⟨rfl, b1⟩
    go_wp2
    rw [rounds_succ]
    go_wp2_with fail
    refine (C3.out false (by decide) _).mono ?_
    rintro e w2 ⟨rfl, b2⟩
    go_wp2
    rw [rounds_succ]
    go_wp2_with fail
    refine (C4.out true (by decide) _).mono ?_
    rintro e w3 ⟨rfl, b3⟩
    go_wp2
    go_ret
    exact ⟨rfl, bch (bch b1 b2) b3⟩
  · go_enter Tryz.func50, Tryz.ntmps50
    go_wp2
    refine wp_loop_rounds 5 ?_
    rw [rounds_succ]
    go_wp2_with fail
    refine (C2.out false (by decide) _).mono ?_
    rintro e w1 ⟨rfl, b1⟩
    go_wp2
    rw [rounds_succ]
    go_wp2_with fail
    refine (C3.out false (by decide) _).mono ?_
    rintro e w2 ⟨rfl, b2⟩
    go_wp2
    rw [rounds_succ]
    go_wp2_with fail
    refine (C4.out false (by decide) _).mono ?_
    rintro e w3 ⟨rfl, b3⟩
    go_wp2
    rw [rounds_succ]
    go_wp2_with fail
    refine (C9.out true (by decide) _).mono ?_
    rintro e w4 ⟨rfl, b4⟩
    go_wp2
    go_ret
    exact ⟨rfl, bch (bch (bch b1 b2) b3) b4⟩
  · go_enter Tryz.func50, Tryz.ntmps50
    go_wp2
    refine wp_loop_rounds 5 ?_
    rw [rounds_succ]
    go_wp2_with fail
    refine (C2.out false (by decide) _).mono ?_
    rintro e w1 ⟨rfl, b1⟩
    go_wp2
    rw [rounds_succ]
    go_wp2_with fail
    refine (C3.out false (by decide) _).mono ?_
    rintro e w2 ⟨rfl, b2⟩
    go_wp2
    rw [rounds_succ]
    go_wp2_with fail
    refine (C4.out false (by decide) _).mono ?_
    rintro e w3 ⟨rfl, b3⟩
    go_wp2
    rw [rounds_succ]
    go_wp2_with fail
    refine (C9.out false (by decide) _).mono ?_
    rintro e w4 ⟨rfl, b4⟩
    go_wp2
    rw [rounds_succ]
    go_wp2_with fail
    refine (C10.out true (by decide) _).mono ?_
    rintro e w5 ⟨rfl, b5⟩
    go_wp2
    go_ret
    exact ⟨rfl, bch (bch (bch (bch b1 b2) b3) b4) b5⟩
end Go.Proofs.YtmnbepapgghdaaaGreat

namespace Go.Proofs.YtmnbepapgghdaaaGreat.Tk
open Go.RowKit

set_option maxRecDepth 100000 in
theorem grown_own (w : World) (k : Nat) (hk : k ≤ 200000) (z : Value) (hz : z.cells.size = 2) :
    Own 89 (w.drew.alloc (.cells (([] : List Value).toArray ++ Builtin.zeroCells z.cells k ++ Builtin.zeroCells z.cells (grownCap w k 0 89 - k)) 89)) w.heap.size (some ⟨w.heap.size, 0, none⟩) (grownCap w k 0 89) [] := by
  have h1 := grownCap_ge w k 0 89
  have h2 := grownCap_le_maxLen w k 0 89 (by unfold maxLen; omega)
  refine ⟨by simp [fcells], .inr ⟨w.heap.size, grownCap w k 0 89, _, rfl, Nat.le_refl _, heap_alloc_new w.drew _, Nat.zero_le _, h2, ?_, by simp [fcells]⟩⟩
  simp only [List.toArray, Array.size_append, size_zeroCells, hz]
  simp
  omega
set_option maxHeartbeats 1000000 in
theorem grow_any (n : Nat) (w : World) (hn : n ≤ 200000) : Calls Tryz.prog 119 #[.slice none 0 0, .int .i64 n] w (Res 89 w []) := by
  by_cases h0 : n = 0
  · subst h0
    go_enter Tryz.func119, Tryz.ntmps119
    go_wp2
    go_ret
    exact ⟨none, 0, rfl, own_nil 89 _ _, Below.refl _ _⟩
  · have hp : 0 < n := by omega
    obtain ⟨i0, hi, hz0, hz1, hz2⟩ := info_parts Tryz.info89
    have hrun := fun ty => Lib.run_append_grow_zeros (P := Tryz.prog) w 27 3 ty 89 i0 _ .i64 .i64 Tryz.underlying27 Tryz.underlying3 hi hz0 none 0 0 [] (by rw [hz1]; exact run_firstCells_none w.drew 2 0 0 0) n hp (by rw [hz1]; decide) (by omega) (by omega)
      (by rw [hz2]; omega) (by rw [hz2]; exact growslice_fits (by omega) (by omega))
    simp only [Nat.zero_add] at hrun
    have hown := grown_own w n hn (.agg #[.int .i64 0, .string ⟨#[]⟩]) rfl
    have hb : Below w.heap.size w (w.drew.alloc (.cells (([] : List Value).toArray ++ Builtin.zeroCells (Value.agg #[.int .i64 0, .string ⟨#[]⟩]).cells n ++ Builtin.zeroCells (Value.agg #[.int .i64 0, .string ⟨#[]⟩]).cells (grownCap w n 0 89 - n)) 89)) := (Below.refl _ _).drew.alloc (Nat.le_refl _) _
    have hG := grownCap_ge w n 0 89
    generalize w.drew.alloc (.cells (([] : List Value).toArray ++ Builtin.zeroCells (Value.agg #[.int .i64 0, .string ⟨#[]⟩]).cells n ++ Builtin.zeroCells (Value.agg #[.int .i64 0, .string ⟨#[]⟩]).cells (grownCap w n 0 89 - n)) 89) = W at hrun hown hb
    generalize grownCap w n 0 89 = G at hrun hown hG
    have hcap := hown.cap
    obtain ⟨_, hG2, _⟩ := hcap
    clear h0 hi hz0 hz1 hz2
    go_enter Tryz.func119, Tryz.ntmps119
    go_wp2_with (at_builtin; refine Lib.wpList_append_run _ rfl _ _ _ _ rfl _ _ rfl rfl _ _ (hrun _) ?_)
    all_goals (go_ret; exact ⟨_, _, rfl, hown, hb⟩)
/-- A list of slices: where each lies, its capacity, what it reads as. -/
abbrev Pc := Option Addr × Nat × List Tok
def cat (ps : List Pc) : List Tok := ps.flatMap fun p => p.2.2
def Pcs (w : World) (b : Nat) (ps : List Pc) : Prop := ∀ i p, ps[i]? = some p → w.cell? ⟨b, i, none⟩ = some (.slice p.1 p.2.2.length p.2.1) ∧ Rd w p.1 p.2.2
theorem Pcs.below {w w' : World} {b : Nat} {ps : List Pc} (h : Pcs w b ps) (hb : Below w.heap.size w w') : Pcs w' b ps := fun i p hi => ⟨cell_below hb (h i p hi).1, (h i p hi).2.below hb⟩
theorem cat_step {ps : List Pc} {k : Nat} {p : Pc} (h : ps[k]? = some p) : cat (ps.take (k + 1)) = cat (ps.take k) ++ p.2.2 := by
  rw [List.take_add_one, h]; simp [cat]
theorem cat_le (ps : List Pc) (k : Nat) : (cat (ps.take k)).length ≤ (cat ps).length := by
  have : (cat (ps.take k ++ ps.drop k)).length = (cat (ps.take k)).length + (cat (ps.drop k)).length := by unfold cat; rw [List.flatMap_append, List.length_append]
  rw [List.take_append_drop] at this
  omega
theorem cat_all {ps : List Pc} {k : Nat} (h : ps.length ≤ k) : cat (ps.take k) = cat ps := by rw [List.take_of_length_le h]

set_option maxRecDepth 100000 in
set_option maxHeartbeats 2000000 in
theorem concat_any (b c : Nat) (ps : List Pc) (w : World) (hp : Pcs w b ps) (hn : ps.length ≤ 100) (hc : (cat ps).length ≤ 100000) :
    Calls Tryz.prog 99 #[.slice (some ⟨b, 0, none⟩) ps.length c] w (Res 89 w (cat ps)) := by
  go_enter Tryz.func99, Tryz.ntmps99
  go_wp2
  go_loop [3, 11] (fun s i => ∃ k m : Nat, k ≤ ps.length ∧ i = .int .i64 k ∧ s = .int .i64 m ∧ m = (cat (ps.take k)).length) (fun _ i => ps.length - (intOf i).toNat)
  case atStart => exact ⟨0, 0, Nat.zero_le _, rfl, rfl, rfl⟩
  case round =>
    obtain ⟨k, m, hk, rfl, rfl, hm⟩ := hrel
    have hm1 : m ≤ 100000 := by have := cat_le ps k; omega
    have HM := Lib.hid hm
    clear hm
    by_cases hlt : k < ps.length
    · obtain ⟨p, hpk⟩ : ∃ p, ps[k]? = some p := ⟨_, List.getElem?_eq_getElem hlt⟩
      have c1 := (hp k p hpk).1
      have hst := cat_step hpk
      have hle : m + p.2.2.length ≤ 100000 := by
        have := cat_le ps (k + 1)
        rw [hst, List.length_append, ← HM.out] at this
        omega
      have HST := Lib.hid hst
      clear hst hpk
      have HP := Lib.hid hp
      clear hp
      go_wp2
      go_round
      case rel => exact ⟨k + 1, m + p.2.2.length, by omega, by go_num, by go_num, by rw [HST.out, List.length_append, HM.out]⟩
      case measure => simp [intOf]; omega
    · have hall := HM.out
      rw [cat_all (by omega)] at hall
      have HA := Lib.hid hall
      have HP := Lib.hid hp
      clear hall hp
      go_wp2_with fail
      refine (grow_any m _ (by omega)).mono ?_
      rintro e w1 ⟨A0, c0, rfl, hown0, hb0⟩
      go_wp2_with fail
      go_loopw [6, 27] (fun v i wr => ∃ (k : Nat) (A : Option Addr) (c : Nat) (xs : List Tok), k ≤ ps.length ∧ i = .int .i64 k ∧ v = .slice A xs.length c ∧ xs = cat (ps.take k) ∧ Own 89 wr w.heap.size A c xs ∧ Below w.heap.size w wr) (fun _ i _ => ps.length - (intOf i).toNat)
      case atStart => exact ⟨0, A0, c0, [], Nat.zero_le _, rfl, rfl, rfl, hown0, hb0⟩
      case round =>
        obtain ⟨k, A, c, xs, hk, rfl, rfl, hx, hown, hb⟩ := hrel
        have hxl : xs.length ≤ 100000 := by have := cat_le ps k; rw [hx]; omega
        have HX := Lib.hid hx
        clear hx
        by_cases hlt : k < ps.length
        · obtain ⟨p, hpk⟩ : ∃ p, ps[k]? = some p := ⟨_, List.getElem?_eq_getElem hlt⟩
          have c1 := cell_below hb (HP.out k p hpk).1
          have hr := (HP.out k p hpk).2.below hb
          have hst := cat_step hpk
          have hle : xs.length + p.2.2.length ≤ 100000 := by
            have := cat_le ps (k + 1)
            rw [hst, List.length_append, ← HX.out] at this
            omega
          have HST := Lib.hid hst
          clear hst hpk
          go_wp2_with (at_builtin; refine wpList_append_rdn37 _ rfl _ _ rfl w.heap.size _ xs rfl hown p.1 _ p.2.1 p.2.2 rfl rfl hr (by omega) hb.size _ rfl ?_; intro A1 c1 w2 hown2 hb2)
          go_roundw
          case rel => exact ⟨k + 1, A1, c1, xs ++ p.2.2, by omega, by go_num, by rw [List.length_append], by rw [HST.out, HX.out], hown2, hb.trans hb2⟩
          case measure => simp [intOf]; omega
        · go_wp2
          go_ret
          have e := HX.out
          rw [cat_all (by omega)] at e
          subst e
          exact ⟨A, c, rfl, hown, hb⟩

theorem three_read {w : World} {b : Nat} {A1 A2 A3 : Option Addr} {c1 c2 c3 : Nat} {f1 f2 f3 : List Tok} (h1 : w.cell? ⟨b, 0, none⟩ = some (.slice A1 f1.length c1)) (h2 : w.cell? ⟨b, 1, none⟩ = some (.slice A2 f2.length c2)) (h3 : w.cell? ⟨b, 2, none⟩ = some (.slice A3 f3.length c3))
    (r1 : Rd w A1 f1) (r2 : Rd w A2 f2) (r3 : Rd w A3 f3) : Pcs w b [(A1, c1, f1), (A2, c2, f2), (A3, c3, f3)] := fun i p hi => by
  match i, hi with
  | 0, hi => simp at hi; subst hi; exact ⟨h1, r1⟩
  | 1, hi => simp at hi; subst hi; exact ⟨h2, r2⟩
  | 2, hi => simp at hi; subst hi; exact ⟨h3, r3⟩
  | i + 3, hi => simp at hi
theorem two_read {w : World} {b : Nat} {A1 A2 : Option Addr} {c1 c2 : Nat} {f1 f2 : List Tok} (h1 : w.cell? ⟨b, 0, none⟩ = some (.slice A1 f1.length c1)) (h2 : w.cell? ⟨b, 1, none⟩ = some (.slice A2 f2.length c2))
    (r1 : Rd w A1 f1) (r2 : Rd w A2 f2) : Pcs w b [(A1, c1, f1), (A2, c2, f2)] := fun i p hi => by
  match i, hi with
  | 0, hi => simp at hi; subst hi; exact ⟨h1, r1⟩
  | 1, hi => simp at hi; subst hi; exact ⟨h2, r2⟩
  | i + 2, hi => simp at hi
theorem cat3 (A1 A2 A3 : Option Addr) (c1 c2 c3 : Nat) (f1 f2 f3 : List Tok) : cat [(A1, c1, f1), (A2, c2, f2), (A3, c3, f3)] = f1 ++ (f2 ++ f3) := by simp [cat]
theorem cat2 (A1 A2 : Option Addr) (c1 c2 : Nat) (f1 f2 : List Tok) : cat [(A1, c1, f1), (A2, c2, f2)] = f1 ++ f2 := by simp [cat]


theorem concat2 (A B : Option Addr) (c d e : Nat) (fs gs : List Tok) (w : World) (hr : Rd w A fs) (hq : Rd w B gs) (hc : fs.length + gs.length ≤ 100000) :
    Calls Tryz.prog 99 #[.slice (some ⟨w.heap.size, 0, none⟩) 2 2] (w.alloc (.cells #[.slice A fs.length c, .slice B gs.length d] e)) (Res 89 w (fs ++ gs)) := by
  have b1 := one_below w (.cells #[.slice A fs.length c, .slice B gs.length d] e)
  have hp := two_read (w := w.alloc (.cells #[.slice A fs.length c, .slice B gs.length d] e)) (b := w.heap.size) (c1 := c) (c2 := d) (new_fst _ _ _ _) (new_snd _ _ _ _) (hr.below b1) (hq.below b1)
  have h := concat_any w.heap.size 2 _ _ hp (by simp) (by rw [cat2]; simp; omega)
  rw [cat2] at h
  exact h.mono fun _ _ hh => hh.from b1
end Go.Proofs.YtmnbepapgghdaaaGreat.Tk

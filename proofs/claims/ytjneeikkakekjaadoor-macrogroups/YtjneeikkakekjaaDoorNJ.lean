/-
  Words for memory: a slice of macros that reads as a list, each with a body; a row of one's own; append of macros.
-/
import Derived.Test.YtjneeikkakekjaaDoorNI
namespace Go.Proofs.YtjneeikkakekjaaDoor
open Go.RowKit

/-- The cells of these macros; no body lies in that block. -/
def HoldM (w : World) (g : Option Nat) : List Ml → List Value → Prop
  | [], cs => cs = []
  | m :: r, cs => ∃ (B : Option Addr) (d : Nat) (cs' : List Value), cs = .string ⟨m.1.toArray⟩ :: .int .i64 m.2.1 :: .slice B m.2.2.length d :: cs' ∧ Rd w B m.2.2 ∧ (0 < m.2.2.length → Far g B) ∧ HoldM w g r cs'
theorem HoldM.len {w : World} {g : Option Nat} : ∀ {ms : List Ml} {cs : List Value}, HoldM w g ms cs → cs.length = ms.length * 3
  | [], cs, h => by
    have h' : cs = [] := h
    rw [h']; rfl
  | m :: r, cs, h => by
    obtain ⟨B, d, cs', rfl, _, _, h2⟩ := h
    have := h2.len
    simp only [List.length_cons, this]; omega
theorem HoldM.app {w : World} {g : Option Nat} : ∀ {a b : List Ml} {ca cb : List Value}, HoldM w g a ca → HoldM w g b cb → HoldM w g (a ++ b) (ca ++ cb)
  | [], b, ca, cb, h, k => by
    have h' : ca = [] := h
    subst h'; exact k
  | m :: r, b, ca, cb, h, k => by
    obtain ⟨B, d, cs', rfl, h1, h2, h3⟩ := h
    exact ⟨B, d, cs' ++ cb, rfl, h1, h2, h3.app k⟩
theorem HoldM.at {w : World} {g : Option Nat} : ∀ {ms : List Ml} {cs : List Value} {i : Nat} {m : Ml}, HoldM w g ms cs → ms[i]? = some m → ∃ (B : Option Addr) (d : Nat), cs[i * 3]? = some (.string ⟨m.1.toArray⟩) ∧ cs[i * 3 + 1]? = some (.int .i64 m.2.1) ∧ cs[i * 3 + 2]? = some (.slice B m.2.2.length d) ∧ Rd w B m.2.2 ∧ (0 < m.2.2.length → Far g B)
  | [], _, i, m, _, hi => by simp at hi
  | a :: r, cs, 0, m, h, hi => by
    simp at hi; subst hi
    obtain ⟨B, d, cs', rfl, h1, h2, _⟩ := h
    exact ⟨B, d, rfl, rfl, rfl, h1, h2⟩
  | a :: r, cs, i + 1, m, h, hi => by
    obtain ⟨B0, d0, cs', rfl, _, _, h3⟩ := h
    obtain ⟨B, d, k1, k2, k3, k4, k5⟩ := h3.at (i := i) (by simpa using hi)
    refine ⟨B, d, ?_, ?_, ?_, k4, k5⟩
    · rw [show (i + 1) * 3 = i * 3 + 1 + 1 + 1 by omega]; simpa using k1
    · rw [show (i + 1) * 3 + 1 = i * 3 + 1 + 1 + 1 + 1 by omega]; simpa using k2
    · rw [show (i + 1) * 3 + 2 = i * 3 + 2 + 1 + 1 + 1 by omega]; simpa using k3
theorem HoldM.map {w w' : World} {g g' : Option Nat} (k : ∀ B l, Rd w B l → (0 < l.length → Far g B) → Rd w' B l ∧ (0 < l.length → Far g' B)) : ∀ {ms : List Ml} {cs : List Value}, HoldM w g ms cs → HoldM w' g' ms cs
  | [], _, h => h
  | m :: r, _, h => by
    obtain ⟨B, d, cs', rfl, h1, h2, h3⟩ := h
    obtain ⟨q1, q2⟩ := k B m.2.2 h1 h2
    exact ⟨B, d, cs', rfl, q1, q2, h3.map k⟩
theorem HoldM.one {w : World} {g : Option Nat} : ∀ {ms : List Ml} {cs : List Value}, HoldM w g ms cs → ∀ u ∈ cs, u.oneCell' = true
  | [], _, h, u, hu => by
    have h' : _ = [] := h
    subst h'; cases hu
  | m :: r, _, h, u, hu => by
    obtain ⟨B, d, cs', rfl, h1, h2, h3⟩ := h
    simp only [List.mem_cons] at hu
    rcases hu with rfl | rfl | rfl | hu
    · rfl
    · rfl
    · rfl
    · exact h3.one u hu
theorem HoldM.drop {w : World} {g : Option Nat} : ∀ (k : Nat) {ms : List Ml} {cs : List Value}, HoldM w g ms cs → HoldM w g (ms.drop k) (cs.drop (k * 3))
  | 0, ms, cs, h => by simpa using h
  | k + 1, [], cs, h => by
    have h' : cs = [] := h
    subst h'; simp; rfl
  | k + 1, m :: r, _, h => by
    obtain ⟨B, d, cs', rfl, h1, h2, h3⟩ := h
    rw [show (k + 1) * 3 = k * 3 + 1 + 1 + 1 by omega]
    simpa using h3.drop k
theorem HoldM.take {w : World} {g : Option Nat} : ∀ (k : Nat) {ms : List Ml} {cs : List Value}, HoldM w g ms cs → HoldM w g (ms.take k) (cs.take (k * 3))
  | 0, ms, cs, h => by simp; rfl
  | k + 1, [], cs, h => by
    have h' : cs = [] := h
    subst h'; simp; rfl
  | k + 1, m :: r, _, h => by
    obtain ⟨B, d, cs', rfl, h1, h2, h3⟩ := h
    rw [show (k + 1) * 3 = k * 3 + 1 + 1 + 1 by omega]
    exact ⟨B, d, cs'.take (k * 3), by simp, h1, h2, h3.take k⟩
theorem HoldM.put {w : World} {g : Option Nat} : ∀ {ms : List Ml} {cs : List Value} {i : Nat} {m : Ml} (B : Option Addr) (d : Nat), HoldM w g ms cs → ms[i]? = some m → Rd w B m.2.2 → (0 < m.2.2.length → Far g B) → HoldM w g ms (cs.set (i * 3 + 2) (.slice B m.2.2.length d))
  | [], _, i, m, B, d, _, hi, _, _ => by simp at hi
  | a :: r, cs, 0, m, B, d, h, hi, hr, hf => by
    simp at hi; subst hi
    obtain ⟨B0, d0, cs', rfl, h1, h2, h3⟩ := h
    exact ⟨B, d, cs', rfl, hr, hf, h3⟩
  | a :: r, cs, i + 1, m, B, d, h, hi, hr, hf => by
    obtain ⟨B0, d0, cs', rfl, h1, h2, h3⟩ := h
    refine ⟨B0, d0, cs'.set (i * 3 + 2) (.slice B m.2.2.length d), ?_, h1, h2, h3.put B d (by simpa using hi) hr hf⟩
    rw [show (i + 1) * 3 + 2 = i * 3 + 2 + 1 + 1 + 1 by omega]; rfl
theorem far_none (B : Option Addr) : Far none B := fun _ _ e => by cases e

/-- The slice at A reads as these macros; no body lies in that block. -/
def RdMF (w : World) (g : Option Nat) (A : Option Addr) (ms : List Ml) : Prop :=
  0 < ms.length → ∃ b o cs, A = some ⟨b, o, none⟩ ∧ HoldM w g ms cs ∧ ∀ j u, cs[j]? = some u → w.cell? ⟨b, o + j, none⟩ = some u
abbrev RdM (w : World) (A : Option Addr) (ms : List Ml) : Prop := RdMF w none A ms
theorem RdMF.cells {w : World} {g : Option Nat} {A : Option Addr} {ms : List Ml} (h : RdMF w g A ms) (h0 : 0 < ms.length) :
    ∃ b o, A = some ⟨b, o, none⟩ ∧ ∀ i m, ms[i]? = some m → ∃ (B : Option Addr) (d : Nat), w.cell? ⟨b, o + i * 3, none⟩ = some (.string ⟨m.1.toArray⟩) ∧ w.cell? ⟨b, o + i * 3 + 1, none⟩ = some (.int .i64 m.2.1) ∧ w.cell? ⟨b, o + i * 3 + 2, none⟩ = some (.slice B m.2.2.length d) ∧ Rd w B m.2.2 := by
  obtain ⟨b, o, cs, rfl, hh, hc⟩ := h h0
  refine ⟨b, o, rfl, fun i m hi => ?_⟩
  obtain ⟨B, d, k1, k2, k3, k4, _⟩ := hh.at hi
  exact ⟨B, d, hc _ _ k1, hc _ _ k2, hc _ _ k3, k4⟩
theorem RdMF.below {w w' : World} {g : Option Nat} {A : Option Addr} {ms : List Ml} (h : RdMF w g A ms) (hb : Below w.heap.size w w') : RdMF w' g A ms := fun h0 => by
  obtain ⟨b, o, cs, e, hh, hc⟩ := h h0
  exact ⟨b, o, cs, e, hh.map fun B l r f => ⟨r.below hb, f⟩, fun j u hu => cell_below hb (hc j u hu)⟩
theorem RdMF.drewN {w : World} {g : Option Nat} {A : Option Addr} {ms : List Ml} (h : RdMF w g A ms) (n : Nat) : RdMF (w.drewN n) g A ms := h.below (drewN_below w n)
theorem RdMF.plain {w : World} {g : Option Nat} {A : Option Addr} {ms : List Ml} (h : RdMF w g A ms) : RdM w A ms := fun h0 => by
  obtain ⟨b, o, cs, e, hh, hc⟩ := h h0
  exact ⟨b, o, cs, e, hh.map fun B l r f => ⟨r, fun _ => far_none B⟩, hc⟩
theorem RdMF.empty (w : World) (g : Option Nat) (A : Option Addr) : RdMF w g A [] := fun h => absurd h (by simp)
theorem rd_lt {w : World} {B : Option Addr} {l : List Tok} (h : Rd w B l) (h0 : 0 < l.length) : ∀ a, B = some a → a.block < w.heap.size := fun a ha => by
  obtain ⟨b, o, e, hc⟩ := h h0
  obtain ⟨f, hf0⟩ : ∃ f, l[0]? = some f := ⟨_, List.getElem?_eq_getElem h0⟩
  have hl := World.block_lt_of_cell? w _ (hc 0 f hf0).1
  rw [e] at ha
  cases ha
  exact hl
/-- What was there before a block was made lies in another one. -/
theorem RdMF.later {w w' : World} {g g' : Option Nat} {A : Option Addr} {ms : List Ml} (h : RdMF w g A ms) (hb : Below w.heap.size w w') (hg : ∀ k, g' = some k → w.heap.size ≤ k) : RdMF w' g' A ms := fun h0 => by
  obtain ⟨b, o, cs, e, hh, hc⟩ := h h0
  refine ⟨b, o, cs, e, hh.map fun B l r f => ⟨r.below hb, fun h1 a ha e => ?_⟩, fun j u hu => cell_below hb (hc j u hu)⟩
  have := rd_lt r h1 a ha
  have := hg _ e.symm
  omega
theorem RdMF.part {w : World} {g : Option Nat} {A : Option Addr} {ms : List Ml} (h : RdMF w g A ms) {l c : Nat} (hm : l ≤ ms.length) (hc : ms.length ≤ c) : RdMF w g (cutS 3 A c l) (ms.drop l) := fun h0 => by
  rw [List.length_drop] at h0
  obtain ⟨b, o, cs, rfl, hh, hcell⟩ := h (by omega)
  unfold cutS
  rw [if_neg (by omega), Option.map_some, add_lit]
  refine ⟨b, o + l * 3, cs.drop (l * 3), rfl, hh.drop l, fun j u hu => ?_⟩
  rw [List.getElem?_drop] at hu
  rw [Nat.add_assoc]
  exact hcell _ _ hu
theorem RdMF.take {w : World} {g : Option Nat} {A : Option Addr} {ms : List Ml} (h : RdMF w g A ms) (k : Nat) : RdMF w g A (ms.take k) := fun h0 => by
  rw [List.length_take] at h0
  obtain ⟨b, o, cs, rfl, hh, hcell⟩ := h (by omega)
  refine ⟨b, o, cs.take (k * 3), rfl, hh.take k, fun j u hu => ?_⟩
  rw [List.getElem?_take] at hu
  split at hu
  · exact hcell _ _ hu
  · cases hu
theorem one_readM {w : World} {g : Option Nat} {b : Nat} {m : Ml} {B : Option Addr} {d : Nat} (h1 : w.cell? ⟨b, 0, none⟩ = some (.string ⟨m.1.toArray⟩)) (h2 : w.cell? ⟨b, 1, none⟩ = some (.int .i64 m.2.1)) (h3 : w.cell? ⟨b, 2, none⟩ = some (.slice B m.2.2.length d))
    (hr : Rd w B m.2.2) (hf : 0 < m.2.2.length → Far g B) : RdMF w g (some ⟨b, 0, none⟩) [m] := fun _ =>
  ⟨b, 0, [.string ⟨m.1.toArray⟩, .int .i64 m.2.1, .slice B m.2.2.length d], rfl, ⟨B, d, [], rfl, hr, hf, rfl⟩, fun j u hu => by
    rw [Nat.zero_add]
    match j, hu with
    | 0, hu => simp at hu; subst hu; exact h1
    | 1, hu => simp at hu; subst hu; exact h2
    | 2, hu => simp at hu; subst hu; exact h3
    | j + 3, hu => simp at hu⟩

/-- A row of one's own that holds these macros, each body in another block. -/
def OwnM (t : TypeId) (w : World) (base : Nat) (A : Option Addr) (c : Nat) (ms : List Ml) : Prop :=
  ∃ cs : List Value, w.ownsRow base t 3 (Value.slice A ms.length c) ms.length cs ∧ HoldM w (Value.slice A ms.length c).ownBlock ms cs
theorem OwnM.below {t : TypeId} {w w' : World} {base : Nat} {A : Option Addr} {c : Nat} {ms : List Ml} (h : OwnM t w base A c ms) (hb : Below w.heap.size w w') : OwnM t w' base A c ms := by
  obtain ⟨cs, hown, hh⟩ := h
  exact ⟨cs, own_row_below hown hb, hh.map fun B l r f => ⟨r.below hb, f⟩⟩
theorem OwnM.lt {t : TypeId} {w : World} {base : Nat} {A : Option Addr} {c : Nat} {ms : List Ml} (h : OwnM t w base A c ms) : ∀ g, (Value.slice A ms.length c).ownBlock = some g → g < w.heap.size := fun g hg => by
  obtain ⟨cs, hown, _⟩ := h
  exact (hown.lt g hg).2
theorem OwnM.ge {t : TypeId} {w : World} {base : Nat} {A : Option Addr} {c : Nat} {ms : List Ml} (h : OwnM t w base A c ms) : ∀ g, (Value.slice A ms.length c).ownBlock = some g → base ≤ g := fun g hg => by
  obtain ⟨cs, hown, _⟩ := h
  exact (hown.lt g hg).1
theorem OwnM.mono {t : TypeId} {w : World} {base base' : Nat} {A : Option Addr} {c : Nat} {ms : List Ml} (h : OwnM t w base A c ms) (hb : base' ≤ base) : OwnM t w base' A c ms := by
  obtain ⟨cs, ⟨h1, h2⟩, hh⟩ := h
  refine ⟨cs, ⟨h1, ?_⟩, hh⟩
  rcases h2 with q | ⟨g, cap, cur, k1, k2, r⟩
  · exact .inl q
  · exact .inr ⟨g, cap, cur, k1, Nat.le_trans hb k2, r⟩
theorem OwnM.rd {t : TypeId} {w : World} {base : Nat} {A : Option Addr} {c : Nat} {ms : List Ml} (h : OwnM t w base A c ms) : RdMF w (Value.slice A ms.length c).ownBlock A ms := fun h0 => by
  obtain ⟨cs, hown, hh⟩ := h
  obtain ⟨g, cap, hv, _, _⟩ := World.ownsRow.form hown h0
  have hv0 := hv
  simp only [Value.slice.injEq] at hv
  obtain ⟨rfl, _, rfl⟩ := hv
  refine ⟨g, 0, cs, rfl, hh, fun j u hu => ?_⟩
  have hj : j < cs.length := (List.getElem?_eq_some_iff.1 hu).1
  rw [hh.len] at hj
  rw [Nat.zero_add]
  exact (World.ownsRow.cellAt hown j hj).trans hu
theorem OwnM.cap {t : TypeId} {w : World} {base : Nat} {A : Option Addr} {c : Nat} {ms : List Ml} (h : OwnM t w base A c ms) : ms.length ≤ c ∧ c ≤ 9223372036854775807 := by
  obtain ⟨cs, hown, _⟩ := h
  rcases hown.2 with ⟨hv, h0⟩ | ⟨g, cap, cur, hv, _, _, h1, h2, _⟩
  · simp only [Value.slice.injEq] at hv
    obtain ⟨rfl, _, rfl⟩ := hv
    exact ⟨by omega, by omega⟩
  · simp only [Value.slice.injEq] at hv
    obtain ⟨rfl, _, rfl⟩ := hv
    unfold maxLen at h2
    exact ⟨h1, by omega⟩
theorem ownM_empty (t : TypeId) (w : World) : OwnM t (w.alloc (.cells #[] t)) w.heap.size (some ⟨w.heap.size, 0, none⟩) 0 [] :=
  ⟨[], World.ownsRow_lit w #[] 0 (Nat.le_refl _) (by unfold maxLen; omega) (by simp), rfl⟩
theorem ownM_nil (t : TypeId) (w : World) (base : Nat) : OwnM t w base none 0 [] := ⟨[], ⟨rfl, .inl ⟨rfl, rfl⟩⟩, rfl⟩
theorem run_append_m (T E : TypeId) (hT : Tryd.prog.underlying T = some (.slice E)) (hI : (Tryd.prog.info? E).map (fun i => (i.zero, i.size, i.bytes)) = some (some (.agg #[.string ⟨#[]⟩, .int .i64 0, .slice none 0 0]), 3, 48))
    (w : World) (base : Nat) (ty : TypeId) (A : Option Addr) (c : Nat) (ms : List Ml) (hown : OwnM E w base A c ms) (D : Option Addr) (d : Nat) (gs : List Ml) (hr : RdMF w (Value.slice A ms.length c).ownBlock D gs)
    (hlen : ms.length + gs.length ≤ 200000) (hbase : base ≤ w.heap.size) :
    ∃ A' c' w', (Builtin.append_ #[T, T] ty #[.slice A ms.length c, .slice D gs.length d]).run Tryd.prog w = .ok (.slice A' (ms ++ gs).length c') w' ∧ OwnM E w' base A' c' (ms ++ gs) ∧ Below base w w' := by
  obtain ⟨i0, hi, hz0, hz1, hz2⟩ := info_parts hI
  obtain ⟨cs, ho, hcs⟩ := hown
  have main : ∀ (ad : Addr) (cs2 : List Value), HoldM w (Value.slice A ms.length c).ownBlock gs cs2 → (∀ j u, cs2[j]? = some u → w.cell? (ad.add j) = some u) →
      ∃ A' c' w', (Builtin.append_ #[T, T] ty #[.slice A ms.length c, .slice (some ad) gs.length d]).run Tryd.prog w = .ok (.slice A' (ms ++ gs).length c') w' ∧ OwnM E w' base A' c' (ms ++ gs) ∧ Below base w w' := fun ad cs2 hh hn => by
    obtain ⟨v', w', h1, h2, h3, _, h5⟩ := run_append_own_at (P := Tryd.prog) w base T ty E i0 _ 3 48 hT hi hz0 hz1 hz2 rfl (by decide) (.slice A ms.length c) ms.length cs ho ad gs.length d cs2 hh.len hn hh.one
      (by unfold maxLen; omega) (by omega) hbase
    obtain ⟨A', c', rfl⟩ := own_shape h2
    rw [← List.length_append] at h1 h2 h5
    refine ⟨A', c', w', h1, ⟨cs ++ cs2, h2, (hcs.app hh).map fun B l r f => ⟨r.grown h3 f, fun h0 a ha e => ?_⟩⟩, below_grown ho h3 hbase⟩
    rcases h5 with q | q
    · rw [q] at e; exact f h0 a ha e
    · rw [q] at e
      have hl := rd_lt r h0 a ha
      have := Option.some.inj e
      omega
  cases D with
  | none =>
    have hg : gs = [] := by
      rcases Nat.eq_zero_or_pos gs.length with h | h
      · exact List.length_eq_zero_iff.1 h
      · obtain ⟨b, o, _, e, _⟩ := hr h; cases e
    subst hg
    refine ⟨A, c, w, ?_, ?_, Below.refl _ _⟩
    · rw [List.append_nil]; exact run_append_none w base T ty E i0 3 d hT hi _ _ _ ho
    · rw [List.append_nil]; exact ⟨cs, ho, hcs⟩
  | some ad =>
    rcases Nat.eq_zero_or_pos gs.length with h | h
    · have hg := List.length_eq_zero_iff.1 h
      subst hg
      exact main ad [] rfl fun j u hu => by simp at hu
    · obtain ⟨b, o, cs2, e, hh, hc⟩ := hr h
      cases e
      exact main _ cs2 hh fun j u hu => by rw [add_lit]; exact hc j u hu
theorem wpList_append_m (T E : TypeId) (hT : Tryd.prog.underlying T = some (.slice E)) (hI : (Tryd.prog.info? E).map (fun i => (i.zero, i.size, i.bytes)) = some (some (.agg #[.string ⟨#[]⟩, .int .i64 0, .slice none 0 0]), 3, 48))
    {ops : Array Oper} {rest : List Oper} {o : Oper} {a : Act} {Q : Exit → Act → World → Prop} (w : World) (hgd : o.guard = none) (s x : Operand)
    (ho : o.op = .call { callee := .builtin .append, args := #[s, x], argTypes := #[T, T] }) (base : Nat) (A : Option Addr) (c : Nat) (ms : List Ml) (hs : a.eval s = .slice A ms.length c) (hown : OwnM E w base A c ms)
    (D : Option Addr) (n d : Nat) (gs : List Ml) (hn : n = gs.length) (hx : a.eval x = .slice D n d) (hr : RdMF w (Value.slice A ms.length c).ownBlock D gs)
    (hlen : ms.length + gs.length ≤ 200000) (hbase : base ≤ w.heap.size) (r : List Ml) (hr0 : ms ++ gs = r)
    (h : ∀ A' c' w', OwnM E w' base A' c' r → Below base w w' → wpList Tryd.prog ops Q rest (a.put o.dst (.slice A' r.length c')) w') : wpList Tryd.prog ops Q (o :: rest) a w := by
  subst hr0 hn
  refine wpList_plain hgd fun K hK => ?_
  obtain ⟨A', c', w', hrun, h2, h3⟩ := run_append_m T E hT hI w base o.type A c ms hown D d gs hr hlen hbase
  unfold Oper.wp
  simp only [execOp, ho, resolve, invoke, builtin, Sem.run_bind, Sem.run_pure, Result.andThen_ok, List.map_toArray, List.map_cons, List.map_nil, hs, hx, hrun]
  exact hK _ _ (h A' c' w' h2 h3)
theorem Tryd.infoM55 : (Tryd.prog.info? 55).map (fun i => (i.zero, i.size, i.bytes)) = some (some (.agg #[.string ⟨#[]⟩, .int .i64 0, .slice none 0 0]), 3, 48) := by kernel_rfl
theorem Tryd.infoM63 : (Tryd.prog.info? 63).map (fun i => (i.zero, i.size, i.bytes)) = some (some (.agg #[.string ⟨#[]⟩, .int .i64 0, .slice none 0 0]), 3, 48) := by kernel_rfl
/-- A new list of macros. -/
def ResM (t : TypeId) (w : World) (ms : List Ml) (e : Ending) (w' : World) : Prop := ∃ A c, e = .returned (.slice A ms.length c) ∧ OwnM t w' w.heap.size A c ms ∧ Below w.heap.size w w'
/-- The block behind a store into a row of one's own. -/
theorem below_own {w wr : World} {base : Nat} (hb : Below base w wr) {g j : Nat} (hg : base ≤ g) (v : Value) : Below base w (wr.setCell ⟨g, j, none⟩ v) := hb.setCell hg v
end Go.Proofs.YtjneeikkakekjaaDoor

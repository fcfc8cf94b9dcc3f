/-
  Words for lists of lists of tokens: one that reads, a row of one's own, append of a list. Contracts of the law's Lists and of the document's.
-/
import Derived.Test.YtjneeikkakekjaaDoorMB
import Derived.Maps.AppendAt
namespace Go.Proofs.YtjneeikkakekjaaDoor
open Go.RowKit

/-- The slice at A reads as these lists. -/
def RdL (w : World) (A : Option Addr) (ll : List (List Tok)) : Prop :=
  0 < ll.length → ∃ b o, A = some ⟨b, o, none⟩ ∧ ∀ i l, ll[i]? = some l → ∃ B d, w.cell? ⟨b, o + i, none⟩ = some (.slice B l.length d) ∧ Rd w B l
theorem RdL.below {w w' : World} {A : Option Addr} {ll : List (List Tok)} (h : RdL w A ll) (hb : Below w.heap.size w w') : RdL w' A ll := fun h0 => by
  obtain ⟨b, o, e, hc⟩ := h h0
  refine ⟨b, o, e, fun i l hi => ?_⟩
  obtain ⟨B, d, h1, h2⟩ := hc i l hi
  exact ⟨B, d, cell_below hb h1, h2.below hb⟩
/-- Another block than that. -/
def Far (g : Option Nat) (B : Option Addr) : Prop := ∀ a, B = some a → some a.block ≠ g
/-- A row of one's own that holds these lists, each in another block. -/
def OwnL (t : TypeId) (w : World) (base : Nat) (A : Option Addr) (c : Nat) (ll : List (List Tok)) : Prop :=
  ∃ cs : List Value, w.ownsRow base t 1 (Value.slice A ll.length c) ll.length cs ∧ ∀ (i : Nat) (l : List Tok), ll[i]? = some l → ∃ (B : Option Addr) (d : Nat), cs[i]? = some (Value.slice B l.length d) ∧ Rd w B l ∧ (0 < l.length → Far (Value.slice A ll.length c).ownBlock B)
theorem OwnL.rd {t : TypeId} {w : World} {base : Nat} {A : Option Addr} {c : Nat} {ll : List (List Tok)} (h : OwnL t w base A c ll) : RdL w A ll := fun h0 => by
  obtain ⟨cs, hown, hc⟩ := h
  obtain ⟨g, cap, hv, _, _⟩ := World.ownsRow.form hown h0
  simp only [Value.slice.injEq] at hv
  obtain ⟨rfl, _, _⟩ := hv
  refine ⟨g, 0, rfl, fun i l hi => ?_⟩
  obtain ⟨B, d, h1, h2, _⟩ := hc i l hi
  have hlt : i < ll.length := (List.getElem?_eq_some_iff.1 hi).1
  have c1 := World.ownsRow.cellAt hown i (by omega)
  rw [Nat.zero_add]
  exact ⟨B, d, c1.trans h1, h2⟩
theorem own_row_below {t : TypeId} {w w' : World} {base size n : Nat} {v : Value} {cs : List Value} (h : w.ownsRow base t size v n cs) (hb : Below w.heap.size w w') : w'.ownsRow base t size v n cs := by
  refine ⟨h.1, ?_⟩
  rcases h.2 with q | ⟨g, cap, cur, h1, h2, h3, r⟩
  · exact .inl q
  · exact .inr ⟨g, cap, cur, h1, h2, (hb.block g (lt_of_blk h3)).trans h3, r⟩
theorem OwnL.below {t : TypeId} {w w' : World} {base : Nat} {A : Option Addr} {c : Nat} {ll : List (List Tok)} (h : OwnL t w base A c ll) (hb : Below w.heap.size w w') : OwnL t w' base A c ll := by
  obtain ⟨cs, hown, hc⟩ := h
  refine ⟨cs, own_row_below hown hb, fun i l hi => ?_⟩
  obtain ⟨B, d, h1, h2, h3⟩ := hc i l hi
  exact ⟨B, d, h1, h2.below hb, h3⟩
theorem OwnL.lt {t : TypeId} {w : World} {base : Nat} {A : Option Addr} {c : Nat} {ll : List (List Tok)} (h : OwnL t w base A c ll) : ∀ g, (Value.slice A ll.length c).ownBlock = some g → g < w.heap.size := fun g hg => by
  obtain ⟨cs, hown, _⟩ := h
  exact (hown.lt g hg).2
theorem ownL_empty (t : TypeId) (w : World) : OwnL t (w.alloc (.cells #[] t)) w.heap.size (some ⟨w.heap.size, 0, none⟩) 0 [] :=
  ⟨[], World.ownsRow_lit w #[] 0 (Nat.le_refl _) (by unfold maxLen; omega) (by simp), fun i l hi => by simp at hi⟩
/-- A list of one's own lies in another block than what was there before. -/
theorem own_far {t : TypeId} {w : World} {base : Nat} {B : Option Addr} {d : Nat} {l : List Tok} (h : Own t w base B d l) {g : Option Nat} (hg : ∀ k, g = some k → k < base) : 0 < l.length → Far g B := fun h0 a ha e => by
  obtain ⟨k, cap, hv, hb, _⟩ := World.ownsRow.form h h0
  simp only [Value.slice.injEq] at hv
  obtain ⟨rfl, _, _⟩ := hv
  cases ha
  have := hg _ e.symm
  simp only at this
  omega
theorem Rd.grown {w w' : World} {row : Option Nat} {B : Option Addr} {l : List Tok} (h : Rd w B l) (hg : w.grownBy w' row) (hf : 0 < l.length → Far row B) : Rd w' B l := fun h0 => by
  obtain ⟨b, o, e, hc⟩ := h h0
  subst e
  have hne : some b ≠ row := hf h0 _ rfl
  refine ⟨b, o, rfl, fun i f hi => ?_⟩
  obtain ⟨k1, k2⟩ := hc i f hi
  have l1 := World.block_lt_of_cell? w _ k1
  have l2 := World.block_lt_of_cell? w _ k2
  exact ⟨(hg.cell_far _ l1 hne).trans k1, (hg.cell_far _ l2 hne).trans k2⟩
theorem run_append_l (T E : TypeId) (hT : Tryd.prog.underlying T = some (.slice E)) (hI : (Tryd.prog.info? E).map (fun i => (i.zero, i.size, i.bytes)) = some (some (.slice none 0 0), 1, 24))
    (w : World) (base : Nat) (ty : TypeId) (A : Option Addr) (c : Nat) (ll : List (List Tok)) (hown : OwnL E w base A c ll) (g : Nat) (B : Option Addr) (d : Nat) (l : List Tok)
    (hc : w.cell? ⟨g, 0, none⟩ = some (.slice B l.length d)) (hr : Rd w B l) (hf : 0 < l.length → Far (Value.slice A ll.length c).ownBlock B) (hlen : ll.length + 1 ≤ 200000) (hbase : base ≤ w.heap.size) :
    ∃ A' c' w', (Builtin.append_ #[T, T] ty #[.slice A ll.length c, .slice (some ⟨g, 0, none⟩) 1 1]).run Tryd.prog w = .ok (.slice A' (ll ++ [l]).length c') w' ∧ OwnL E w' base A' c' (ll ++ [l]) ∧ Below base w w' ∧ w.grownBy w' (Value.slice A ll.length c).ownBlock := by
  obtain ⟨i0, hi, hz0, hz1, hz2⟩ := info_parts hI
  obtain ⟨cs, ho, hcs⟩ := hown
  have hlt := fun k hk => (ho.lt k hk)
  obtain ⟨v', w', h1, h2, h3, _, h5⟩ := run_append_own_at (P := Tryd.prog) w base T ty E i0 _ 1 24 hT hi hz0 hz1 hz2 rfl (by decide) (.slice A ll.length c) ll.length cs ho ⟨g, 0, none⟩ 1 1 [.slice B l.length d] rfl
    (fun j u hu => by
      match j, hu with
      | 0, hu => simp at hu; subst hu; rw [add_lit]; exact hc
      | j + 1, hu => simp at hu)
    (fun u hu => by simp at hu; subst hu; rfl) (by unfold maxLen; omega) (by omega) hbase
  obtain ⟨A', c', rfl⟩ := own_shape h2
  have e1 : ll.length + 1 = (ll ++ [l]).length := by simp
  rw [e1] at h1 h2 h5
  have far : ∀ (B : Option Addr) (m : List Tok), Rd w B m → (0 < m.length → Far (Value.slice A ll.length c).ownBlock B) → 0 < m.length → Far (Value.slice A' (ll ++ [l]).length c').ownBlock B := fun B m hm hfm h0 a ha e => by
    obtain ⟨b, o, eb, hcm⟩ := hm h0
    rcases h5 with q | q
    · rw [q] at e; exact hfm h0 a ha e
    · rw [q] at e
      obtain ⟨f, hf0⟩ : ∃ f, m[0]? = some f := ⟨_, List.getElem?_eq_getElem h0⟩
      have hl := World.block_lt_of_cell? w _ (hcm 0 f hf0).1
      rw [eb] at ha
      cases ha
      have := Option.some.inj e
      simp only at this hl
      omega
  refine ⟨A', c', w', h1, ⟨cs ++ [.slice B l.length d], h2, fun i m hi => ?_⟩, below_grown ho h3 hbase, h3⟩
  rcases Nat.lt_or_ge i ll.length with q | q
  · rw [List.getElem?_append_left q] at hi
    obtain ⟨B2, d2, k1, k2, k3⟩ := hcs i m hi
    have hcl : i < cs.length := (List.getElem?_eq_some_iff.1 k1).1
    exact ⟨B2, d2, by rw [List.getElem?_append_left hcl]; exact k1, k2.grown h3 k3, far B2 m k2 k3⟩
  · have hil : i = ll.length := by
      have := (List.getElem?_eq_some_iff.1 hi).1
      simp at this; omega
    subst hil
    rw [List.getElem?_append_right (Nat.le_refl _), Nat.sub_self] at hi
    simp at hi
    subst hi
    have hcl : cs.length = ll.length := by have := ho.1; omega
    exact ⟨B, d, by rw [List.getElem?_append_right (by omega), hcl, Nat.sub_self]; rfl, hr.grown h3 hf, far B l hr hf⟩
theorem wpList_append_l (T E : TypeId) (hT : Tryd.prog.underlying T = some (.slice E)) (hI : (Tryd.prog.info? E).map (fun i => (i.zero, i.size, i.bytes)) = some (some (.slice none 0 0), 1, 24))
    {ops : Array Oper} {rest : List Oper} {o : Oper} {a : Act} {Q : Exit → Act → World → Prop} (w : World) (hgd : o.guard = none) (s x : Operand)
    (ho : o.op = .call { callee := .builtin .append, args := #[s, x], argTypes := #[T, T] }) (base : Nat) (A : Option Addr) (c : Nat) (ll : List (List Tok)) (hs : a.eval s = .slice A ll.length c) (hown : OwnL E w base A c ll)
    (g : Nat) (B : Option Addr) (d : Nat) (l : List Tok) (hx : a.eval x = .slice (some ⟨g, 0, none⟩) 1 1) (hc : w.cell? ⟨g, 0, none⟩ = some (.slice B l.length d)) (hr : Rd w B l) (hf : 0 < l.length → Far (Value.slice A ll.length c).ownBlock B)
    (hlen : ll.length + 1 ≤ 200000) (hbase : base ≤ w.heap.size) (r : List (List Tok)) (hr0 : ll ++ [l] = r)
    (h : ∀ A' c' w', OwnL E w' base A' c' r → Below base w w' → wpList Tryd.prog ops Q rest (a.put o.dst (.slice A' r.length c')) w') : wpList Tryd.prog ops Q (o :: rest) a w := by
  subst hr0
  refine wpList_plain hgd fun K hK => ?_
  obtain ⟨A', c', w', hrun, h2, h3, _⟩ := run_append_l T E hT hI w base o.type A c ll hown g B d l hc hr hf hlen hbase
  unfold Oper.wp
  simp only [execOp, ho, resolve, invoke, builtin, Sem.run_bind, Sem.run_pure, Result.andThen_ok, List.map_toArray, List.map_cons, List.map_nil, hs, hx, hrun]
  exact hK _ _ (h A' c' w' h2 h3)
theorem Tryd.infoL28 : (Tryd.prog.info? 28).map (fun i => (i.zero, i.size, i.bytes)) = some (some (.slice none 0 0), 1, 24) := by kernel_rfl
theorem Tryd.infoL22 : (Tryd.prog.info? 22).map (fun i => (i.zero, i.size, i.bytes)) = some (some (.slice none 0 0), 1, 24) := by kernel_rfl
/-- A new list of lists of the call's own. -/
def ResL (t : TypeId) (w : World) (ll : List (List Tok)) (e : Ending) (w' : World) : Prop := ∃ A c, e = .returned (.slice A ll.length c) ∧ OwnL t w' w.heap.size A c ll ∧ Below w.heap.size w w'
theorem new_one (w : World) (a : Value) (t : TypeId) : (w.alloc (.cells #[a] t)).cell? ⟨w.heap.size, 0, none⟩ = some a := by rw [World.cell?_alloc_new]; rfl
set_option maxRecDepth 100000 in
set_option maxHeartbeats 4000000 in
theorem lists7_any (A : Option Addr) (c : Nat) (ll : List (List Tok)) (w : World) (hr : RdL w A ll) (hl : ll.length ≤ 10000) (hm : Hid (∀ l ∈ ll, l.length ≤ 100000)) :
    Calls Tryd.prog 16 #[.slice A ll.length c] w (ResL 28 w ll) := by
  have ho0 := ownL_empty 28 w
  have hb0 := one_below w (.cells #[] 28)
  go_enter Tryd.func16, Tryd.ntmps16
  go_wp2_with fail
  go_loopw [3, 4] (fun v i wr => ∃ (k : Nat) (C : Option Addr) (cc : Nat) (xs : List (List Tok)), k ≤ ll.length ∧ i = .int .i64 k ∧ v = .slice C xs.length cc ∧ Hid (ll.take k = xs) ∧ xs.length ≤ k ∧ OwnL 28 wr w.heap.size C cc xs ∧ Below w.heap.size w wr) (fun _ i _ => ll.length - (intOf i).toNat)
  case atStart => exact ⟨0, _, 0, [], Nat.zero_le _, rfl, rfl, Lib.hid rfl, by simp, ho0, hb0⟩
  case round =>
    clear ho0 hb0
    obtain ⟨k, C, cc, xs, hk, rfl, rfl, HX, hxl, hown, hb⟩ := hrel
    by_cases hlt : k < ll.length
    · obtain ⟨b, o, rfl, hcell⟩ := (hr.below hb) (by omega)
      obtain ⟨l, hf⟩ : ∃ l, ll[k]? = some l := ⟨_, List.getElem?_eq_getElem hlt⟩
      obtain ⟨B, d, c1, hrl⟩ := hcell k l hf
      have hll := hm.out l (List.mem_of_getElem? hf)
      obtain ⟨ys, hy⟩ : ∃ ys, xs ++ [l] = ys := ⟨_, rfl⟩
      have HN := Lib.hid (show ll.take (k + 1) = ys by rw [at_take hf, HX.out, hy])
      have HYL := Lib.hid (show ys.length = xs.length + 1 by rw [← hy]; simp)
      have HY := Lib.hid hy
      have HO := Lib.hid hown
      have C1 := Lib.hid (refs_any B d l wr hrl (by omega))
      have i1 : (k : Int) < (ll.length : Int) := by omega
      clear hf hcell hy hown HX hrl
      go_wp2_with fail
      refine C1.out.mono ?_
      rintro e w1 ⟨B2, d2, rfl, ho1, hb1⟩
      have SB := bch hb1 (one_below w1 (.cells #[.slice B2 l.length d2] 28))
      have HO2 := Lib.hid (HO.out.below SB)
      have HB2 := Lib.hid (bch hb SB)
      have HR2 := Lib.hid (ho1.rd.below (one_below w1 (.cells #[.slice B2 l.length d2] 28)))
      have HF2 := Lib.hid (own_far ho1 HO.out.lt)
      clear HO hb1 SB c1 C1 ho1
      go_wp2_with (at_builtin; refine wpList_append_l 33 28 Tryd.underlying33 Tryd.infoL28 _ rfl _ _ rfl w.heap.size C cc xs rfl HO2.out w1.heap.size B2 d2 l rfl (new_one _ _ _) HR2.out HF2.out (by omega) HB2.out.size ys HY.out ?_; intro N2 nc2 w3 hown2 hb3)
      have hb4 := HB2.out.trans hb3
      clear HO2 HB2 hb3
      go_roundw
      case rel => exact ⟨k + 1, N2, nc2, ys, by omega, by go_num, rfl, HN, by have := HYL.out; omega, hown2, hb4⟩
      case measure => simp [intOf]; omega
    · have hfin := HX.out
      rw [List.take_of_length_le (by omega)] at hfin
      have HF := Lib.hid hfin
      have HO := Lib.hid hown
      clear hfin HX hown
      go_wp2
      go_ret
      rw [HF.out]
      exact ⟨C, cc, rfl, HO.out, hb⟩
end Go.Proofs.YtjneeikkakekjaaDoor

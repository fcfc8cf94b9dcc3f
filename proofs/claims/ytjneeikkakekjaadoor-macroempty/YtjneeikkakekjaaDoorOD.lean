/-
  The walk of MacroEmpty: for every input it returns true; old memory stays.
-/
import Derived.Test.YtjneeikkakekjaaDoorOC
import Derived.Deep.CutRange
namespace Go.Proofs.YtjneeikkakekjaaDoor
open Go.RowKit

/-- These blocks are kept. -/
def Kept (p : Nat → Prop) (w w' : World) : Prop := ∀ b, p b → b < w.heap.size → w'.heap[b]? = w.heap[b]?
/-- The slice at A reads as these lists, all of it in such blocks. -/
def RdLP (w : World) (p : Nat → Prop) (A : Option Addr) (ll : List (List Tok)) : Prop :=
  0 < ll.length → ∃ b o, A = some ⟨b, o, none⟩ ∧ p b ∧ ∀ i l, ll[i]? = some l → ∃ (B : Option Addr) (d : Nat), w.cell? ⟨b, o + i, none⟩ = some (.slice B l.length d) ∧ Rd w B l ∧ (0 < l.length → ∀ a, B = some a → p a.block)
theorem cell_keep {w w' : World} {p : Nat → Prop} (hk : Kept p w w') {q : Addr} {v : Value} (hp : p q.block) (h : w.cell? q = some v) : w'.cell? q = some v := by
  have hs := hk q.block hp (World.block_lt_of_cell? w q h)
  rw [← h]; simp only [World.cell?, hs]
theorem RdLP.plain {w : World} {p : Nat → Prop} {A : Option Addr} {ll : List (List Tok)} (h : RdLP w p A ll) : RdL w A ll := fun h0 => by
  obtain ⟨b, o, e, _, hc⟩ := h h0
  refine ⟨b, o, e, fun i l hi => ?_⟩
  obtain ⟨B, d, h1, h2, _⟩ := hc i l hi
  exact ⟨B, d, h1, h2⟩
theorem RdLP.keep {w w' : World} {p : Nat → Prop} {A : Option Addr} {ll : List (List Tok)} (h : RdLP w p A ll) (hk : Kept p w w') : RdLP w' p A ll := fun h0 => by
  obtain ⟨b, o, e, h1, hc⟩ := h h0
  refine ⟨b, o, e, h1, fun i l hi => ?_⟩
  obtain ⟨B, d, h2, h3, h4⟩ := hc i l hi
  refine ⟨B, d, cell_keep hk h1 h2, fun h0 => ?_, h4⟩
  obtain ⟨b2, o2, e2, hc2⟩ := h3 h0
  have hp := h4 h0 _ e2
  exact ⟨b2, o2, e2, fun j f hj => ⟨cell_keep hk hp (hc2 j f hj).1, cell_keep hk hp (hc2 j f hj).2⟩⟩
theorem kept_below {w w' : World} (p : Nat → Prop) (hb : Below w.heap.size w w') : Kept p w w' := fun b _ h => hb.block b h
theorem kept_set (w : World) {p : Nat → Prop} {q : Addr} (v : Value) (hp : ¬ p q.block) : Kept p w (w.setCell q v) := fun b h _ => heap_setCell_other w q b v (fun e => hp (by rw [← e]; exact h))
theorem kept_grown {w w' : World} {row : Option Nat} {p : Nat → Prop} (h : w.grownBy w' row) (hp : ∀ b, p b → some b ≠ row) : Kept p w w' := fun b hb hl => by
  obtain ⟨_, _, _, _, hk⟩ := h
  exact hk b hl (hp b hb)
theorem run_append_gr (w : World) (base : Nat) (ty : TypeId) (C : Option Addr) (cc : Nat) (xs : List Tok) (hown : Own 41 w base C cc xs) (A : Option Addr) (c : Nat) (gs : List Tok) (hr : Rd w A gs)
    (hlen : xs.length + gs.length ≤ 200000) (hbase : base ≤ w.heap.size) :
    ∃ A' c' w', (Builtin.append_ #[22, 22] ty #[.slice C xs.length cc, .slice A gs.length c]).run Tryd.prog w = .ok (.slice A' (xs ++ gs).length c') w' ∧ Own 41 w' base A' c' (xs ++ gs) ∧ w.grownBy w' (Value.slice C xs.length cc).ownBlock ∧
      ((Value.slice A' (xs ++ gs).length c').ownBlock = (Value.slice C xs.length cc).ownBlock ∨ (Value.slice A' (xs ++ gs).length c').ownBlock = some w.heap.size) := by
  obtain ⟨i0, hi, hz0, hz1, hz2⟩ := info_parts Tryd.info41
  have main : ∀ (ad : Addr), (∀ j u, (fcells gs)[j]? = some u → w.cell? (ad.add j) = some u) →
      ∃ A' c' w', (Builtin.append_ #[22, 22] ty #[.slice C xs.length cc, .slice (some ad) gs.length c]).run Tryd.prog w = .ok (.slice A' (xs ++ gs).length c') w' ∧ Own 41 w' base A' c' (xs ++ gs) ∧ w.grownBy w' (Value.slice C xs.length cc).ownBlock ∧
      ((Value.slice A' (xs ++ gs).length c').ownBlock = (Value.slice C xs.length cc).ownBlock ∨ (Value.slice A' (xs ++ gs).length c').ownBlock = some w.heap.size) := fun ad hn => by
    obtain ⟨v', w', h1, h2, h3, _, h5⟩ := run_append_own_at (P := Tryd.prog) w base 22 ty 41 i0 _ 2 24 Tryd.underlying22 hi hz0 hz1 hz2 rfl (by decide) (.slice C xs.length cc) xs.length (fcells xs) hown ad gs.length c (fcells gs) (fcells_len gs) hn (fcells_one gs)
      (by unfold maxLen; omega) (by omega) hbase
    rw [← fcells_app] at h2
    obtain ⟨A', c', rfl⟩ := own_shape h2
    rw [← List.length_append] at h2 h1 h5
    exact ⟨A', c', w', h1, h2, h3, h5⟩
  cases A with
  | none =>
    have hg : gs = [] := by
      rcases Nat.eq_zero_or_pos gs.length with h | h
      · exact List.length_eq_zero_iff.1 h
      · obtain ⟨b, o, e, _⟩ := hr h; cases e
    subst hg
    refine ⟨C, cc, w, ?_, ?_, ⟨rfl, rfl, rfl, Nat.le_refl _, fun _ _ _ => rfl⟩, ?_⟩
    · rw [List.append_nil]; exact run_append_none w base 22 ty 41 i0 2 c Tryd.underlying22 hi _ _ _ hown
    · rw [List.append_nil]; exact hown
    · rw [List.append_nil]; exact .inl rfl
  | some ad =>
    rcases Nat.eq_zero_or_pos gs.length with h | h
    · have hg := List.length_eq_zero_iff.1 h
      subst hg
      exact main ad fun j u hu => by simp [fcells] at hu
    · obtain ⟨b, o, e, hc⟩ := hr h
      cases e
      exact main _ (Rd.news hc)
theorem wpList_append_gr {ops : Array Oper} {rest : List Oper} {o : Oper} {a : Act} {Q : Exit → Act → World → Prop} (w : World) (hgd : o.guard = none) (s x : Operand)
    (ho : o.op = .call { callee := .builtin .append, args := #[s, x], argTypes := #[22, 22] }) (base : Nat) (C : Option Addr) (cc : Nat) (xs : List Tok) (hs : a.eval s = .slice C xs.length cc) (hown : Own 41 w base C cc xs)
    (A : Option Addr) (m c : Nat) (gs : List Tok) (hm : m = gs.length) (hx : a.eval x = .slice A m c) (hr : Rd w A gs) (hlen : xs.length + gs.length ≤ 200000) (hbase : base ≤ w.heap.size) (r : List Tok) (hr0 : xs ++ gs = r)
    (h : ∀ A' c' w', Own 41 w' base A' c' r → w.grownBy w' (Value.slice C xs.length cc).ownBlock → ((Value.slice A' r.length c').ownBlock = (Value.slice C xs.length cc).ownBlock ∨ (Value.slice A' r.length c').ownBlock = some w.heap.size) → wpList Tryd.prog ops Q rest (a.put o.dst (.slice A' r.length c')) w') : wpList Tryd.prog ops Q (o :: rest) a w := by
  subst hm hr0
  refine wpList_plain hgd fun K hK => ?_
  obtain ⟨A', c', w', hrun, h2, h3, h4⟩ := run_append_gr w base o.type C cc xs hown A c gs hr hlen hbase
  unfold Oper.wp
  simp only [execOp, ho, resolve, invoke, builtin, Sem.run_bind, Sem.run_pure, Result.andThen_ok, List.map_toArray, List.map_cons, List.map_nil, hs, hx, hrun]
  exact hK _ _ (h A' c' w' h2 h3 h4)
/-- What stands behind the literal of two lists, and of none. -/
def MeetR (w2 : World) (r0 r1 : List Tok) (v7 v8 : Value) (wc : World) : Prop := ∃ (b p0 : Nat), v7 = .slice (some ⟨b, 0, none⟩) 2 2 ∧ v8 = .slice (some ⟨p0, 0, none⟩) 0 0 ∧ RdLP wc (fun q => w2.heap.size ≤ q ∧ q < wc.heap.size ∧ q ≠ p0) (some ⟨b, 0, none⟩) [r0, r1] ∧ Own 41 wc w2.heap.size (some ⟨p0, 0, none⟩) 0 [] ∧ Below w2.heap.size w2 wc
theorem meet_lists {W : World} {p : Nat → Prop} {b : Nat} {B3 B4 : Option Addr} {d3 d4 : Nat} {r0 r1 : List Tok} (c0 : W.cell? ⟨b, 0, none⟩ = some (.slice B3 r0.length d3)) (c1 : W.cell? ⟨b, 1, none⟩ = some (.slice B4 r1.length d4))
    (R3 : Rd W B3 r0) (R4 : Rd W B4 r1) (hb : p b) (h3 : 0 < r0.length → ∀ a, B3 = some a → p a.block) (h4 : 0 < r1.length → ∀ a, B4 = some a → p a.block) : RdLP W p (some ⟨b, 0, none⟩) [r0, r1] := fun _ => by
  refine ⟨b, 0, rfl, hb, fun i l hi => ?_⟩
  match i, hi with
  | 0, hi => simp at hi; subst hi; exact ⟨B3, d3, c0, R3, h3⟩
  | 1, hi => simp at hi; subst hi; exact ⟨B4, d4, c1, R4, h4⟩
  | i + 2, hi => simp at hi
theorem own_in {t : TypeId} {w : World} {base : Nat} {B : Option Addr} {d : Nat} {l : List Tok} (h : Own t w base B d l) : 0 < l.length → ∀ a, B = some a → base ≤ a.block ∧ a.block < w.heap.size := fun h0 a ha => by
  obtain ⟨g, e, h1, h2⟩ := h.addr h0
  rw [e] at ha; cases ha; exact ⟨h1, h2⟩
theorem meet1 {w2 w3 w4 : World} {B3 B4 : Option Addr} {d3 d4 : Nat} {r0 r1 : List Tok} (ho3 : Own 41 w3 w2.heap.size B3 d3 r0) (hA : Below w2.heap.size w2 w3) (ho4 : Own 41 w4 w3.heap.size B4 d4 r1) (hb4 : Below w3.heap.size w3 w4) :
    MeetR w2 r0 r1 (.slice (some ⟨w4.heap.size, 0, none⟩) 2 2) (.slice (some ⟨w4.heap.size + 1, 0, none⟩) 0 0) ((w4.alloc (.cells #[.slice B3 r0.length d3, .slice B4 r1.length d4] 22)).alloc (.cells #[] 41)) := by
  have o1 := one_below w4 (.cells #[.slice B3 r0.length d3, .slice B4 r1.length d4] 22)
  have o2 := one_below (w4.alloc (.cells #[.slice B3 r0.length d3, .slice B4 r1.length d4] 22)) (.cells #[] 41)
  have s1 : (w4.alloc (.cells #[.slice B3 r0.length d3, .slice B4 r1.length d4] 22)).heap.size = w4.heap.size + 1 := by simp
  have s2 : ((w4.alloc (.cells #[.slice B3 r0.length d3, .slice B4 r1.length d4] 22)).alloc (.cells #[] 41)).heap.size = w4.heap.size + 2 := by simp
  have hE := own_empty 41 (w4.alloc (.cells #[.slice B3 r0.length d3, .slice B4 r1.length d4] 22))
  have z1 := hA.size
  have z2 := hb4.size
  have ob := bch o1 o2
  refine ⟨_, _, rfl, rfl, meet_lists (cell_below o2 (new_fst _ _ _ _)) (cell_below o2 (new_snd _ _ _ _)) ((ho3.rd.below hb4).below ob) (ho4.rd.below ob) ⟨by omega, by rw [s2]; omega, by omega⟩ (fun h0 a ha => ?_) (fun h0 a ha => ?_), ?_, bch (bch hA hb4) ob⟩
  · have := own_in ho3 h0 a ha; exact ⟨by omega, by rw [s2]; omega, by omega⟩
  · have := own_in ho4 h0 a ha; exact ⟨by omega, by rw [s2]; omega, by omega⟩
  · rw [s1] at hE; exact hE.mono (by omega)
theorem meet2 {w2 w3 w4 : World} {B3 B4 : Option Addr} {d3 d4 : Nat} {r0 r1 : List Tok} (ho3 : Own 41 w3 w2.heap.size B3 d3 r0) (hA : Below w2.heap.size w2 w3) (ho4 : Own 41 w4 w3.heap.size B4 d4 r1) (hb4 : Below w3.heap.size w3 w4) :
    MeetR w2 r0 r1 (.slice (some ⟨w4.heap.size + 1, 0, none⟩) 2 2) (.slice (some ⟨w4.heap.size, 0, none⟩) 0 0) ((w4.alloc (.cells #[] 41)).alloc (.cells #[.slice B3 r0.length d3, .slice B4 r1.length d4] 22)) := by
  have o1 := one_below w4 (.cells #[] 41)
  have o2 := one_below (w4.alloc (.cells #[] 41)) (.cells #[.slice B3 r0.length d3, .slice B4 r1.length d4] 22)
  have s1 : (w4.alloc (.cells #[] 41)).heap.size = w4.heap.size + 1 := by simp
  have s2 : ((w4.alloc (.cells #[] 41)).alloc (.cells #[.slice B3 r0.length d3, .slice B4 r1.length d4] 22)).heap.size = w4.heap.size + 2 := by simp
  have hE := (own_empty 41 w4).below o2
  have c0 := new_fst (w4.alloc (.cells #[] 41)) (.slice B3 r0.length d3) (.slice B4 r1.length d4) 22
  have c1 := new_snd (w4.alloc (.cells #[] 41)) (.slice B3 r0.length d3) (.slice B4 r1.length d4) 22
  rw [s1] at c0 c1
  have z1 := hA.size
  have z2 := hb4.size
  have ob := bch o1 o2
  refine ⟨_, _, rfl, rfl, meet_lists c0 c1 ((ho3.rd.below hb4).below ob) (ho4.rd.below ob) ⟨by omega, by rw [s2]; omega, by omega⟩ (fun h0 a ha => ?_) (fun h0 a ha => ?_), hE.mono (by omega), bch (bch hA hb4) ob⟩
  · have := own_in ho3 h0 a ha; exact ⟨by omega, by rw [s2]; omega, by omega⟩
  · have := own_in ho4 h0 a ha; exact ⟨by omega, by rw [s2]; omega, by omega⟩
theorem meet3 {w2 w3 w4 : World} {B3 B4 : Option Addr} {d3 d4 : Nat} {r0 r1 : List Tok} (ho3 : Own 41 w3 w2.heap.size B3 d3 r0) (hA : Below w2.heap.size w2 w3) (ho4 : Own 41 w4 (w3.alloc (.cells #[] 41)).heap.size B4 d4 r1) (hb4 : Below (w3.alloc (.cells #[] 41)).heap.size (w3.alloc (.cells #[] 41)) w4) :
    MeetR w2 r0 r1 (.slice (some ⟨w4.heap.size, 0, none⟩) 2 2) (.slice (some ⟨w3.heap.size, 0, none⟩) 0 0) (w4.alloc (.cells #[.slice B3 r0.length d3, .slice B4 r1.length d4] 22)) := by
  have o1 := one_below w3 (.cells #[] 41)
  have o2 := one_below w4 (.cells #[.slice B3 r0.length d3, .slice B4 r1.length d4] 22)
  have s1 : (w3.alloc (.cells #[] 41)).heap.size = w3.heap.size + 1 := by simp
  have s2 : (w4.alloc (.cells #[.slice B3 r0.length d3, .slice B4 r1.length d4] 22)).heap.size = w4.heap.size + 1 := by simp
  have hE := ((own_empty 41 w3).below hb4).below o2
  have z1 := hA.size
  have z2 := hb4.size
  rw [s1] at z2
  have ob := bch hb4 o2
  refine ⟨_, _, rfl, rfl, meet_lists (new_fst _ _ _ _) (new_snd _ _ _ _) ((ho3.rd.below o1).below ob) (ho4.rd.below o2) ⟨by omega, by rw [s2]; omega, by omega⟩ (fun h0 a ha => ?_) (fun h0 a ha => ?_), hE.mono (by omega), bch (bch hA o1) ob⟩
  · have := own_in ho3 h0 a ha; exact ⟨by omega, by rw [s2]; omega, by omega⟩
  · have := own_in ho4 h0 a ha; rw [s1] at this; exact ⟨by omega, by rw [s2]; omega, by omega⟩
theorem meet4 {w2 w3 w4 : World} {B3 B4 : Option Addr} {d3 d4 : Nat} {r0 r1 : List Tok} (ho3 : Own 41 w3 (w2.drew.alloc (.cells #[] 41)).heap.size B3 d3 r0) (hb3 : Below (w2.drew.alloc (.cells #[] 41)).heap.size (w2.drew.alloc (.cells #[] 41)) w3) (ho4 : Own 41 w4 w3.heap.size B4 d4 r1) (hb4 : Below w3.heap.size w3 w4) :
    MeetR w2 r0 r1 (.slice (some ⟨w4.heap.size, 0, none⟩) 2 2) (.slice (some ⟨w2.heap.size, 0, none⟩) 0 0) (w4.alloc (.cells #[.slice B3 r0.length d3, .slice B4 r1.length d4] 22)) := by
  have o1 := one_below w2.drew (.cells #[] 41)
  have o2 := one_below w4 (.cells #[.slice B3 r0.length d3, .slice B4 r1.length d4] 22)
  have s1 : (w2.drew.alloc (.cells #[] 41)).heap.size = w2.heap.size + 1 := by simp
  have s2 : (w4.alloc (.cells #[.slice B3 r0.length d3, .slice B4 r1.length d4] 22)).heap.size = w4.heap.size + 1 := by simp
  have hE := (((own_empty 41 w2.drew).below hb3).below hb4).below o2
  have z1 := hb3.size
  rw [s1] at z1
  have z2 := hb4.size
  have ob := bch hb4 o2
  refine ⟨_, _, rfl, rfl, meet_lists (new_fst _ _ _ _) (new_snd _ _ _ _) (ho3.rd.below ob) (ho4.rd.below o2) ⟨by omega, by rw [s2]; omega, by omega⟩ (fun h0 a ha => ?_) (fun h0 a ha => ?_), hE.mono (Nat.le_refl _), bch (bch (below_drew w2) (bch o1 hb3)) ob⟩
  · have := own_in ho3 h0 a ha; rw [s1] at this; exact ⟨by omega, by rw [s2]; omega, by omega⟩
  · have := own_in ho4 h0 a ha; exact ⟨by omega, by rw [s2]; omega, by omega⟩
def fixE (t : Tok) : Tok := if t.1 = 7 then (t.1, [UInt8.ofNat (49 + t.2.length % 3)]) else t
def fix2 (t : Tok) : Tok := if t.1 = 7 then (t.1, [50]) else t
theorem fixE_kind (t : Tok) : (fixE t).1 = t.1 := by unfold fixE; split <;> rfl
theorem fix2_kind (t : Tok) : (fix2 t).1 = t.1 := by unfold fix2; split <;> rfl
theorem filt_fix (F : Tok → Tok) (hF : ∀ t, (F t).1 = t.1) (hid : ∀ t, t.1 ≠ 7 → F t = t) : ∀ (l : List Tok), (l.map F).filter (fun t => t.1 != 7) = l.filter fun t => t.1 != 7
  | [] => rfl
  | t :: r => by
    have ih := filt_fix F hF hid r
    rw [List.map_cons, List.filter_cons, List.filter_cons, hF, ih]
    by_cases h : t.1 = 7
    · simp [h]
    · rw [hid t h]
theorem filt_step {cs : List Tok} {k : Nat} {f : Tok} (h : cs[k]? = some f) : (cs.take (k + 1)).filter (fun t => t.1 != 7) = (cs.take k).filter (fun t => t.1 != 7) ++ (if f.1 = 7 then [] else [f]) := by
  rw [at_take h, List.filter_append]
  by_cases e : f.1 = 7 <;> simp [e]
theorem fixE_small {cs : List Tok} {n : Nat} (hn : 1 ≤ n) (h : ∀ t ∈ cs, t.2.length ≤ n) : ∀ t ∈ cs.map fixE, t.2.length ≤ n := fun t ht => by
  obtain ⟨x, hx, rfl⟩ := List.mem_map.1 ht
  unfold fixE
  split
  · simpa using hn
  · exact h x hx
theorem fix2_small {cs : List Tok} {n : Nat} (hn : 1 ≤ n) (h : ∀ t ∈ cs, t.2.length ≤ n) : ∀ t ∈ cs.map fix2, t.2.length ≤ n := fun t ht => by
  obtain ⟨x, hx, rfl⟩ := List.mem_map.1 ht
  unfold fix2
  split
  · simpa using hn
  · exact h x hx
theorem own_other {t : TypeId} {w : World} {base : Nat} {A : Option Addr} {c : Nat} {fs : List Tok} (h : Own t w base A c fs) {p : Addr} (hp : (Value.slice A fs.length c).ownBlock ≠ some p.block) (v : Value) : Own t (w.setCell p v) base A c fs := ownsRow_setCell_other h hp v
theorem own_spelt {A : Option Addr} {n m c : Nat} {q : Nat → Prop} (h : ∀ k, (Value.slice A n c).ownBlock = some k → q k) : ∀ k, (Value.slice A m c).ownBlock = some k → q k := fun k hk => h k (by cases A <;> exact hk)
set_option maxRecDepth 100000 in
set_option maxHeartbeats 8000000 in
theorem macroEmpty_walk (A B E0 E1 : Option Addr) (c d d0 d1 : Nat) (xs ys a0 a1 : List Tok) (w : World) (hr : Rd w A xs) (hl : xs.length ≤ 9223372036854775807) (hfit : Hid (∀ t ∈ xs, t.2.length ≤ 9223372036854775807))
    (hq : Rd w B ys) (hl2 : ys.length ≤ 9223372036854775807) (hfit2 : Hid (∀ t ∈ ys, t.2.length ≤ 9223372036854775807))
    (hr0 : Rd w E0 a0) (hl0 : a0.length ≤ 9223372036854775807) (hf0 : Hid (∀ t ∈ a0, t.2.length ≤ 9223372036854775807))
    (hr1 : Rd w E1 a1) (hl1 : a1.length ≤ 9223372036854775807) (hf1 : Hid (∀ t ∈ a1, t.2.length ≤ 9223372036854775807)) :
    Calls Tryd.prog 8 #[.slice A xs.length c, .slice B ys.length d, .agg #[.slice E0 a0.length d0, .slice E1 a1.length d1]] w fun e w' => e = .returned (.bool true) ∧ Below w.heap.size w w' := by
  have bx := one_below w (.cells #[.slice E0 a0.length d0, .slice E1 a1.length d1] 76)
  have X0 := Lib.hid (new_fst w (.slice E0 a0.length d0) (.slice E1 a1.length d1) 76)
  have X1 := Lib.hid (new_snd w (.slice E0 a0.length d0) (.slice E1 a1.length d1) 76)
  have h30 := cut_len 30 xs
  have g30 := cut_len 30 ys
  obtain ⟨N, hN⟩ : ∃ N, (cutL 30 xs).length = N := ⟨_, rfl⟩
  obtain ⟨M, hM⟩ : ∃ M, (cutL 30 ys).length = M := ⟨_, rfl⟩
  have C1 := Lib.hid ((lcut_any A c 30 xs _ (hr.below bx) hl hfit (by omega)).mono fun _ _ h => h.spelt hN)
  have C2 := Lib.hid (fun W (h : Rd W B ys) => (lcut_any B d 30 ys W h hl2 hfit2 (by omega)).mono fun _ _ h => h.spelt hM)
  have C3 := Lib.hid (fun W (h : Rd W E0 a0) => (show Calls Tryd.prog 9 #[.slice E0 a0.length d0, .int .i64 20] W (Res 41 W (cutL 20 a0)) from lcut_any E0 d0 20 a0 W h hl0 hf0 (by omega)))
  have C4 := Lib.hid (fun W (h : Rd W E1 a1) => (show Calls Tryd.prog 9 #[.slice E1 a1.length d1, .int .i64 20] W (Res 41 W (cutL 20 a1)) from lcut_any E1 d1 20 a1 W h hl1 hf1 (by omega)))
  have m1 := cut_mild 30 xs
  have m2 := cut_mild 30 ys
  have HCS := Lib.hid hN
  have HDS := Lib.hid hM
  obtain ⟨ar0, har0⟩ : ∃ r, cutL 20 a0 = r := ⟨_, rfl⟩
  obtain ⟨ar1, har1⟩ : ∃ r, cutL 20 a1 = r := ⟨_, rfl⟩
  have ha20 : ∀ l ∈ [ar0, ar1], l.length ≤ 20 := fun l hl => by
    simp only [List.mem_cons, List.not_mem_nil, or_false] at hl
    rcases hl with rfl | rfl
    · rw [← har0]; exact cut_len 20 a0
    · rw [← har1]; exact cut_len 20 a1
  rw [har0] at C3
  rw [har1] at C4
  generalize cutL 30 xs = cs at *
  generalize cutL 30 ys = ds at *
  obtain ⟨ms, hms⟩ : ∃ ms, cs.map fixE = ms := ⟨_, rfl⟩
  obtain ⟨ns, hns⟩ : ∃ ns, ds.map fix2 = ns := ⟨_, rfl⟩
  have e1 := fixE_small (by omega) m1
  have e2 := fix2_small (by omega) m2
  obtain ⟨pl, hpl⟩ : ∃ pl, cs.filter (fun t => t.1 != 7) = pl := ⟨_, rfl⟩
  have hpl2 : ms.filter (fun t => t.1 != 7) = pl := by rw [← hpl, ← hms]; exact filt_fix fixE fixE_kind (fun t h => by unfold fixE; rw [if_neg h]) cs
  rw [hms] at e1
  rw [hns] at e2
  have hmN : ms.length = N := by rw [← hms, List.length_map, hN]
  have hnM : ns.length = M := by rw [← hns, List.length_map, hM]
  have HMS := Lib.hid hms
  have HNS := Lib.hid hns
  have HPL := Lib.hid hpl
  have hp30 : pl.length ≤ 30 := by rw [← hpl]; exact Nat.le_trans (List.length_filter_le _ _) h30
  have hpm : ∀ t ∈ pl, t.2.length ≤ 40 := fun t ht => by rw [← hpl] at ht; exact m1 t (List.mem_filter.1 ht).1
  have hp7 : ∀ t ∈ pl, t.1 ≠ 7 := fun t ht => by rw [← hpl] at ht; have := (List.mem_filter.1 ht).2; simpa using this
  have hN30 : N ≤ 30 := by omega
  have hM30 : M ≤ 30 := by omega
  have z1 : (fillL ms [ar0, ar1]).length ≤ 30 * 20 := Nat.le_trans (fill_size (by omega) ha20 ms) (Nat.mul_le_mul_right _ (by omega))
  have z2 : (fillL ns [ar0, ar1]).length ≤ 30 * 20 := Nat.le_trans (fill_size (by omega) ha20 ns) (Nat.mul_le_mul_right _ (by omega))
  have FN := Lib.hid (fun A c w (hr : Rd w A ms) => fill_any A none c 0 ms [] w hr (fun h => absurd h (by simp)) (by omega) (by simp) (Lib.hid fun t ht => by have := e1 t ht; omega) (by rw [fill_nil, hpl2]; omega))
  have FP := Lib.hid (fun A c D w (hr : Rd w A pl) (hq : RdL w D [ar0, ar1]) => fill_any A D c 2 pl [ar0, ar1] w hr hq (by omega) (by simp) (Lib.hid fun t ht => by have := hpm t ht; omega) (by rw [fill_plain hp7]; omega))
  have FL := Lib.hid (fun A c D w (hr : Rd w A ms) (hq : RdL w D [ar0, ar1]) => fill_any A D c 2 ms [ar0, ar1] w hr hq (by omega) (by simp) (Lib.hid fun t ht => by have := e1 t ht; omega) (by omega))
  have FK := Lib.hid (fun A c D w (hr : Rd w A ns) (hq : RdL w D [ar0, ar1]) => fill_any A D c 2 ns [ar0, ar1] w hr hq (by omega) (by simp) (Lib.hid fun t ht => by have := e2 t ht; omega) (by omega))
  obtain ⟨bo, hbo⟩ : ∃ bo, ms ++ ns = bo := ⟨_, rfl⟩
  have hbol : bo.length ≤ 60 := by rw [← hbo, List.length_append]; omega
  have hfb : fillL bo [ar0, ar1] = fillL ms [ar0, ar1] ++ fillL ns [ar0, ar1] := by rw [← hbo, fill_app]
  have FB := Lib.hid (fun A c D w (hr : Rd w A bo) (hq : RdL w D [ar0, ar1]) => fill_any A D c 2 bo [ar0, ar1] w hr hq (by omega) (by simp) (Lib.hid fun t ht => by
    rw [← hbo] at ht
    rcases List.mem_append.1 ht with ht | ht
    · have := e1 t ht; omega
    · have := e2 t ht; omega) (by rw [hfb, List.length_append]; omega))
  rw [fill_nil, hpl2, hmN] at FN
  rw [fill_plain hp7] at FP
  rw [hfb] at FB
  rw [hmN] at FL
  rw [hnM] at FK
  obtain ⟨fl1, hf1l⟩ : ∃ f, fillL ms [ar0, ar1] = f := ⟨_, rfl⟩
  obtain ⟨fl2, hf2l⟩ : ∃ f, fillL ns [ar0, ar1] = f := ⟨_, rfl⟩
  rw [hf1l] at FL FB z1
  rw [hf2l] at FK FB z2
  obtain ⟨wa, hwa⟩ : ∃ wa, fl1 ++ fl2 = wa := ⟨_, rfl⟩
  rw [hwa] at FB
  have hwal : wa.length ≤ 1200 := by rw [← hwa, List.length_append]; omega
  have HBO := Lib.hid hbo
  have HWA := Lib.hid hwa
  have HMN := Lib.hid hmN
  have HNM := Lib.hid hnM
  clear hwa hf1l hf2l hbo hfb hp7 hpm hmN hnM hpl2 hpl hns hms e1 e2 m1 m2 har0 har1 ha20 h30 g30 hN hM
  have HQ := Lib.hid (hq.below bx)
  have HR0 := Lib.hid (hr0.below bx)
  have HR1 := Lib.hid (hr1.below bx)
  have HBX := Lib.hid bx
  clear bx hq hr0 hr1 hr
  go_enter Tryd.func8, Tryd.ntmps8
  go_wp2_with fail
  refine C1.out.mono ?_
  rintro e w1 ⟨A1, c1, rfl, ho, hb⟩
  replace HQ := Lib.hid (HQ.out.below hb)
  replace HR0 := Lib.hid (HR0.out.below hb)
  replace HR1 := Lib.hid (HR1.out.below hb)
  replace X0 := Lib.hid (cell_below hb X0.out)
  replace X1 := Lib.hid (cell_below hb X1.out)
  have HB := Lib.hid (bch HBX.out hb)
  have HO := Lib.hid (ho.mono HBX.out.size)
  have HGA := Lib.hid (show ∀ k, (Value.slice A1 cs.length c1).ownBlock = some k → w.heap.size ≤ k ∧ k < w1.heap.size from fun k hk => (World.ownsRow.lt HO.out k hk))
  have HW1 := Lib.hid HB.out.size
  clear hb ho C1 HBX
  go_wp2_with fail
  refine (C2.out _ HQ.out).mono ?_
  rintro e w2 ⟨A2, c2, rfl, ho, hb⟩
  replace HR0 := Lib.hid (HR0.out.below hb)
  replace HR1 := Lib.hid (HR1.out.below hb)
  replace X0 := Lib.hid (cell_below hb X0.out)
  replace X1 := Lib.hid (cell_below hb X1.out)
  replace HO := Lib.hid (HO.out.below hb)
  have HO2 := Lib.hid ho
  have HGB := Lib.hid (show ∀ k, (Value.slice A2 ds.length c2).ownBlock = some k → w1.heap.size ≤ k ∧ k < w2.heap.size from fun k hk => (World.ownsRow.lt ho k hk))
  have HW2 := Lib.hid hb.size
  replace HB := Lib.hid (bch HB.out hb)
  clear hb ho C2 HQ
  go_upto_region 3 with fail
  have x0 := X0.out
  have x1 := X1.out
  go_cut [7, 8] from 17 to 24 (fun v7 v8 wc => Hid (MeetR w2 ar0 ar1 v7 v8 wc))
  case first =>
    go_region_held3 (fun w' => w'.cell? ⟨w.heap.size, 0, none⟩ = some (.slice E0 a0.length d0) ∧ w'.cell? ⟨w.heap.size, 1, none⟩ = some (.slice E1 a1.length d1))
      (first
        | go_keep
        | exact ⟨cell_below hbA X0.out, cell_below hbA X1.out⟩
        | exact ⟨cell_below hbB X0.out, cell_below hbB X1.out⟩)
      (first
        | (go_at_call 9; (with_reducible refine (C3.out _ ?h1).mono ?_); (case h1 => (first | exact HR0.out.below (below_drew w2) | exact HR0.out.below (bch (below_drew w2) (one_below _ _)))); rintro e w3 ⟨B3, d3, rfl, ho3, hb3⟩; first | (have hbA : Below w2.heap.size w2 w3 := bch (below_drew w2) hb3) | (have hbA : Below w2.heap.size w2 w3 := bch (bch (below_drew w2) (one_below _ _)) hb3))
        | (go_at_call 9; (with_reducible refine (C4.out _ ?h3).mono ?_); (case h3 => (first | exact HR1.out.below hbA | exact HR1.out.below (bch hbA (one_below _ _)))); rintro e w4 ⟨B4, d4, rfl, ho4, hb4⟩; first | (have hbB : Below w2.heap.size w2 w4 := bch hbA hb4) | (have hbB : Below w2.heap.size w2 w4 := bch (bch hbA (one_below _ _)) hb4)))
    all_goals
      go_wp2_with fail
      go_meet
      first
        | exact Lib.hid (meet1 ho3 hbA ho4 hb4)
        | exact Lib.hid (meet2 ho3 hbA ho4 hb4)
        | exact Lib.hid (meet3 ho3 hbA ho4 hb4)
        | exact Lib.hid (meet4 ho3 hb3 ho4 hb4)
  case rest =>
  obtain ⟨b, p0, rfl, rfl, hL, hP, hbW⟩ := hcut.out
  obtain ⟨p, hp⟩ : ∃ p : Nat → Prop, p = fun q => w2.heap.size ≤ q ∧ q < wc.heap.size ∧ q ≠ p0 := ⟨_, rfl⟩
  rw [← hp] at hL
  have HP := Lib.hid hp
  have HL := Lib.hid hL
  have HPO := Lib.hid hP
  have HPN := Lib.hid (show ∀ q, (Value.slice (some ⟨p0, 0, none⟩) ([] : List Tok).length 0).ownBlock = some q → ¬ p q from fun q hq h => by
    rw [hp] at h; cases hq; exact h.2.2 rfl)
  replace HO := Lib.hid (HO.out.below hbW)
  replace HO2 := Lib.hid (HO2.out.below hbW)
  replace HB := Lib.hid (bch HB.out hbW)
  have HSZ := Lib.hid (Nat.le_refl wc.heap.size)
  have HWC := Lib.hid hbW.size
  clear hL hP hbW hp X0 X1 x0 x1 HR0 HR1 C3 C4 hcut
  go_wp2_with fail
  go_loopw [9, 8] (fun v9 v8 wr => ∃ (k : Nat) (xs2 : List Tok) (C : Option Addr) (cc : Nat) (ps : List Tok), v9 = .int .i64 k ∧ v8 = .slice C ps.length cc ∧ k ≤ N ∧ ps.length ≤ k ∧ Hid (xs2.length = N) ∧ Hid ((cs.take k).map fixE ++ cs.drop k = xs2) ∧ Hid ((cs.take k).filter (fun t => t.1 != 7) = ps) ∧ Hid (Own 41 wr w.heap.size A1 c1 xs2) ∧ Hid (Own 41 wr w1.heap.size A2 c2 ds) ∧ Hid (Own 41 wr w2.heap.size C cc ps) ∧ Hid (∀ q, (Value.slice C ps.length cc).ownBlock = some q → ¬ p q) ∧ Hid (RdLP wr p (some ⟨b, 0, none⟩) [ar0, ar1]) ∧ Hid (Below w.heap.size w wr) ∧ Hid (wc.heap.size ≤ wr.heap.size)) (fun v9 _ _ => N - (intOf v9).toNat)
  case atStart => exact ⟨0, cs, some ⟨p0, 0, none⟩, 0, [], rfl, rfl, Nat.zero_le _, by simp, HCS, Lib.hid (by simp), Lib.hid rfl, HO, HO2, HPO, HPN, HL, HB, HSZ⟩
  case round =>
    clear HO HO2 HPO HPN HL HB HSZ
    obtain ⟨k, xs2, C, cc, ps, rfl, rfl, hk, hpk, HXL, HX, HPS, HO, HO2, HPO, HPN, HL, HB, HSZ⟩ := hrel
    by_cases hlt : k < N
    · obtain ⟨g, e1, hg0, hg9⟩ := HO.out.addr (by rw [HXL.out]; omega)
      subst e1
      have hg1 : w.heap.size ≤ g ∧ g < w1.heap.size := HGA.out g rfl
      obtain ⟨f, hf⟩ : ∃ f, cs[k]? = some f := ⟨_, List.getElem?_eq_getElem (by rw [HCS.out]; exact hlt)⟩
      obtain ⟨hx1, hx2⟩ := fix_step hf fixE
      have hfs := filt_step hf
      rw [HPS.out] at hfs
      rw [HX.out] at hx1 hx2
      obtain ⟨c1', c2'⟩ := HO.out.cells2 hx1
      obtain ⟨κ, z⟩ := f
      simp only at c1' c2' hfs
      have j1 : (k : Int) < (N : Int) := by omega
      by_cases h7 : κ = 7
      · subst h7
        rw [if_pos rfl, List.append_nil] at hfs
        have hfx : fixE ((7 : Int), z) = (7, [UInt8.ofNat (49 + z.length % 3)]) := by unfold fixE; rw [if_pos rfl]
        rw [hfx] at hx2
        have fz := HO.out.frozen (k * 2 + 1)
        have HXX := Lib.hid hx1
        have HXY := Lib.hid hx2
        have HFS := Lib.hid hfs
        rcases (show z.length % 3 = 0 ∨ z.length % 3 = 1 ∨ z.length % 3 = 2 by omega) with h3 | h3 | h3
        · have t1 : (z.length : Int) % 3 = ((z.length % 3 : Nat) : Int) := by omega
          have t2 : Int.tmod (z.length : Int) 3 = ((z.length % 3 : Nat) : Int) := by rw [Int.tmod_eq_emod_of_nonneg (by omega)]; omega
          rw [h3] at t1 t2
          have hs : [UInt8.ofNat (49 + z.length % 3)] = [(49 : UInt8)] := by rw [h3]; rfl
          rw [hs] at hx2
          have o1 := one_below (wr.setCell ⟨g, k * 2 + 1, none⟩ (.string ⟨#[49]⟩)) (.cells #[.string ⟨#[49]⟩, .string ⟨#[50]⟩, .string ⟨#[51]⟩] 9)
          have HO3 := Lib.hid ((HO.out.store2 hx1 [49] hx2).below o1)
          have HXL3 := Lib.hid (show ((cs.take (k + 1)).map fixE ++ cs.drop (k + 1)).length = N by rw [← hx2, List.length_set]; exact HXL.out)
          have HO4 := Lib.hid ((own_set HO2.out (p := ⟨g, k * 2 + 1, none⟩) hg1.2 (.string ⟨#[49]⟩)).below o1)
          have HPO3 := Lib.hid ((own_set HPO.out (p := ⟨g, k * 2 + 1, none⟩) (Nat.lt_of_lt_of_le hg1.2 HW2.out) (.string ⟨#[49]⟩)).below o1)
          have HL3 := Lib.hid ((HL.out.keep (kept_set wr (q := ⟨g, k * 2 + 1, none⟩) (.string ⟨#[49]⟩) (fun h => absurd (show w2.heap.size ≤ g from (by rw [HP.out] at h; exact h.1)) (by have := HW2.out; have := hg1.2; omega)))).keep (kept_below p o1))
          have HB3 := Lib.hid ((HB.out.setCell hg1.1 (p := ⟨g, k * 2 + 1, none⟩) (.string ⟨#[49]⟩)).trans (o1.mono (Nat.le_trans HB.out.size (by simp))))
          have HSZ3 := Lib.hid (Nat.le_trans HSZ.out (Nat.le_trans (by simp : wr.heap.size ≤ (wr.setCell ⟨g, k * 2 + 1, none⟩ (.string ⟨#[49]⟩)).heap.size) o1.size))
          clear hf hx1 hx2 hfs hfx HX HPS h3 hs o1 HXX HXY HO HO2 HPO HL HB HSZ
          go_wp2_with fail
          go_roundw
          case rel => exact ⟨k + 1, _, C, cc, ps, by go_num, rfl, by omega, by omega, HXL3, Lib.hid rfl, HFS, HO3, HO4, HPO3, HPN, HL3, HB3, HSZ3⟩
          case measure => simp [intOf]; omega
        · have t1 : (z.length : Int) % 3 = ((z.length % 3 : Nat) : Int) := by omega
          have t2 : Int.tmod (z.length : Int) 3 = ((z.length % 3 : Nat) : Int) := by rw [Int.tmod_eq_emod_of_nonneg (by omega)]; omega
          rw [h3] at t1 t2
          have hs : [UInt8.ofNat (49 + z.length % 3)] = [(50 : UInt8)] := by rw [h3]; rfl
          rw [hs] at hx2
          have o1 := one_below (wr.setCell ⟨g, k * 2 + 1, none⟩ (.string ⟨#[50]⟩)) (.cells #[.string ⟨#[49]⟩, .string ⟨#[50]⟩, .string ⟨#[51]⟩] 9)
          have HO3 := Lib.hid ((HO.out.store2 hx1 [50] hx2).below o1)
          have HXL3 := Lib.hid (show ((cs.take (k + 1)).map fixE ++ cs.drop (k + 1)).length = N by rw [← hx2, List.length_set]; exact HXL.out)
          have HO4 := Lib.hid ((own_set HO2.out (p := ⟨g, k * 2 + 1, none⟩) hg1.2 (.string ⟨#[50]⟩)).below o1)
          have HPO3 := Lib.hid ((own_set HPO.out (p := ⟨g, k * 2 + 1, none⟩) (Nat.lt_of_lt_of_le hg1.2 HW2.out) (.string ⟨#[50]⟩)).below o1)
          have HL3 := Lib.hid ((HL.out.keep (kept_set wr (q := ⟨g, k * 2 + 1, none⟩) (.string ⟨#[50]⟩) (fun h => absurd (show w2.heap.size ≤ g from (by rw [HP.out] at h; exact h.1)) (by have := HW2.out; have := hg1.2; omega)))).keep (kept_below p o1))
          have HB3 := Lib.hid ((HB.out.setCell hg1.1 (p := ⟨g, k * 2 + 1, none⟩) (.string ⟨#[50]⟩)).trans (o1.mono (Nat.le_trans HB.out.size (by simp))))
          have HSZ3 := Lib.hid (Nat.le_trans HSZ.out (Nat.le_trans (by simp : wr.heap.size ≤ (wr.setCell ⟨g, k * 2 + 1, none⟩ (.string ⟨#[50]⟩)).heap.size) o1.size))
          clear hf hx1 hx2 hfs hfx HX HPS h3 hs o1 HXX HXY HO HO2 HPO HL HB HSZ
          go_wp2_with fail
          go_roundw
          case rel => exact ⟨k + 1, _, C, cc, ps, by go_num, rfl, by omega, by omega, HXL3, Lib.hid rfl, HFS, HO3, HO4, HPO3, HPN, HL3, HB3, HSZ3⟩
          case measure => simp [intOf]; omega
        · have t1 : (z.length : Int) % 3 = ((z.length % 3 : Nat) : Int) := by omega
          have t2 : Int.tmod (z.length : Int) 3 = ((z.length % 3 : Nat) : Int) := by rw [Int.tmod_eq_emod_of_nonneg (by omega)]; omega
          rw [h3] at t1 t2
          have hs : [UInt8.ofNat (49 + z.length % 3)] = [(51 : UInt8)] := by rw [h3]; rfl
          rw [hs] at hx2
          have o1 := one_below (wr.setCell ⟨g, k * 2 + 1, none⟩ (.string ⟨#[51]⟩)) (.cells #[.string ⟨#[49]⟩, .string ⟨#[50]⟩, .string ⟨#[51]⟩] 9)
          have HO3 := Lib.hid ((HO.out.store2 hx1 [51] hx2).below o1)
          have HXL3 := Lib.hid (show ((cs.take (k + 1)).map fixE ++ cs.drop (k + 1)).length = N by rw [← hx2, List.length_set]; exact HXL.out)
          have HO4 := Lib.hid ((own_set HO2.out (p := ⟨g, k * 2 + 1, none⟩) hg1.2 (.string ⟨#[51]⟩)).below o1)
          have HPO3 := Lib.hid ((own_set HPO.out (p := ⟨g, k * 2 + 1, none⟩) (Nat.lt_of_lt_of_le hg1.2 HW2.out) (.string ⟨#[51]⟩)).below o1)
          have HL3 := Lib.hid ((HL.out.keep (kept_set wr (q := ⟨g, k * 2 + 1, none⟩) (.string ⟨#[51]⟩) (fun h => absurd (show w2.heap.size ≤ g from (by rw [HP.out] at h; exact h.1)) (by have := HW2.out; have := hg1.2; omega)))).keep (kept_below p o1))
          have HB3 := Lib.hid ((HB.out.setCell hg1.1 (p := ⟨g, k * 2 + 1, none⟩) (.string ⟨#[51]⟩)).trans (o1.mono (Nat.le_trans HB.out.size (by simp))))
          have HSZ3 := Lib.hid (Nat.le_trans HSZ.out (Nat.le_trans (by simp : wr.heap.size ≤ (wr.setCell ⟨g, k * 2 + 1, none⟩ (.string ⟨#[51]⟩)).heap.size) o1.size))
          clear hf hx1 hx2 hfs hfx HX HPS h3 hs o1 HXX HXY HO HO2 HPO HL HB HSZ
          go_wp2_with fail
          go_roundw
          case rel => exact ⟨k + 1, _, C, cc, ps, by go_num, rfl, by omega, by omega, HXL3, Lib.hid rfl, HFS, HO3, HO4, HPO3, HPN, HL3, HB3, HSZ3⟩
          case measure => simp [intOf]; omega
      · have q7 : (κ == 7) = false := by rw [beq_eq_false_iff_ne]; exact h7
        rw [if_neg h7] at hfs
        have hfx : fixE (κ, z) = (κ, z) := by unfold fixE; rw [if_neg h7]
        have hsame := fix_same hx1 fixE hfx
        rw [hx2] at hsame
        have HN2 := Lib.hid hsame
        obtain ⟨rs, hrs⟩ : ∃ rs, ps ++ [(κ, z)] = rs := ⟨_, rfl⟩
        rw [hrs] at hfs
        have HFS := Lib.hid hfs
        have HRS := Lib.hid hrs
        have HRL := Lib.hid (show rs.length = ps.length + 1 by rw [← hrs]; simp)
        have o1 := one_below wr (.cells #[.int .i64 κ, .string ⟨z.toArray⟩] 41)
        have HT := Lib.hid (one_read (f := (κ, z)) (new_fst wr (.int .i64 κ) (.string ⟨z.toArray⟩) 41) (new_snd wr (.int .i64 κ) (.string ⟨z.toArray⟩) 41))
        replace HO := Lib.hid (HO.out.below o1)
        replace HO2 := Lib.hid (HO2.out.below o1)
        replace HPO := Lib.hid (HPO.out.below o1)
        replace HL := Lib.hid (HL.out.keep (kept_below p o1))
        replace HB := Lib.hid (bch HB.out o1)
        replace HSZ := Lib.hid (Nat.le_trans HSZ.out o1.size)
        have HWW := Lib.hid (Nat.le_trans HWC.out HSZ.out)
        clear hf hx1 hx2 hfs hrs hfx hsame o1 h7 HX HPS
        go_wp2_with (at_builtin; refine wpList_append_gr _ rfl _ _ rfl w2.heap.size C cc ps rfl HPO.out (some ⟨wr.heap.size, 0, none⟩) 1 1 [(κ, z)] rfl rfl HT.out (by show ps.length + 1 ≤ _; omega) HWW.out rs HRS.out ?_; intro N2 nc2 w3 hown2 hgr hnb)
        have hb2 := below_grown HPO.out hgr HWW.out
        have HO3 := Lib.hid (own_under HO.out (fun q hq => Nat.lt_of_lt_of_le (own_spelt HGA.out q hq).2 HW2.out) hb2)
        have HO4 := Lib.hid (own_under HO2.out (fun q hq => (own_spelt HGB.out q hq).2) hb2)
        have HL3 := Lib.hid (HL.out.keep (kept_grown hgr (fun q hq e => HPN.out q e.symm hq)))
        have HB3 := Lib.hid (HB.out.trans (hb2.mono (Nat.le_trans HW1.out HW2.out)))
        have HSZ3 := Lib.hid (Nat.le_trans HSZ.out hb2.size)
        have HPN3 := Lib.hid (show ∀ q, (Value.slice N2 rs.length nc2).ownBlock = some q → ¬ p q from fun q hq => by
          rcases hnb with e | e
          · exact HPN.out q (e.symm.trans hq)
          · rw [e] at hq
            intro h
            rw [HP.out] at h
            have := HSZ.out
            have := Option.some.inj hq
            omega)
        have HPO3 := Lib.hid hown2
        clear hgr hnb hb2 hown2 HO HO2 HL HB HSZ HPN HPO HWW HT
        go_roundw
        case rel => exact ⟨k + 1, xs2, N2, nc2, rs, by go_num, rfl, by omega, by have := HRL.out; omega, HXL, HN2, HFS, HO3, HO4, HPO3, HPN3, HL3, HB3, HSZ3⟩
        case measure => simp [intOf]; omega
    · have i1 : ¬ (k : Int) < (N : Int) := by omega
      have hxs : xs2 = ms := by rw [← HX.out, ← HMS.out, List.take_of_length_le (by rw [HCS.out]; omega), List.drop_of_length_le (by rw [HCS.out]; omega), List.append_nil]
      have hps : ps = pl := by rw [← HPS.out, ← HPL.out, List.take_of_length_le (by rw [HCS.out]; omega)]
      subst hxs hps
      clear HX HPS HPL HMS HXL HPN hpk
      go_wp2_with fail
      go_loopw [10] (fun v wr2 => ∃ (k : Nat) (ys2 : List Tok), v = .int .i64 k ∧ k ≤ M ∧ Hid (ys2.length = M) ∧ Hid ((ds.take k).map fix2 ++ ds.drop k = ys2) ∧ Hid (Own 41 wr2 w.heap.size A1 c1 xs2) ∧ Hid (Own 41 wr2 w1.heap.size A2 c2 ys2) ∧ Hid (Own 41 wr2 w2.heap.size C cc ps) ∧ Hid (RdLP wr2 p (some ⟨b, 0, none⟩) [ar0, ar1]) ∧ Hid (Below w.heap.size w wr2)) (fun v _ => M - (intOf v).toNat)
      case atStart => exact ⟨0, ds, rfl, Nat.zero_le _, HDS, Lib.hid (by simp), HO, HO2, HPO, HL, HB⟩
      case round =>
        clear HO HO2 HPO HL HB HSZ
        obtain ⟨k, ys2, rfl, hk, HYL, HY, HO, HO2, HPO, HL, HB⟩ := hrel
        by_cases hlt : k < M
        · obtain ⟨g, e1, hg0, hg9⟩ := HO2.out.addr (by rw [HYL.out]; omega)
          subst e1
          have hg2 : w1.heap.size ≤ g ∧ g < w2.heap.size := HGB.out g rfl
          obtain ⟨f, hf⟩ : ∃ f, ds[k]? = some f := ⟨_, List.getElem?_eq_getElem (by rw [HDS.out]; exact hlt)⟩
          obtain ⟨hx1, hx2⟩ := fix_step hf fix2
          rw [HY.out] at hx1 hx2
          obtain ⟨c1', c2'⟩ := HO2.out.cells2 hx1
          obtain ⟨κ, z⟩ := f
          simp only at c1' c2'
          have j1 : (k : Int) < (M : Int) := by omega
          by_cases h7 : κ = 7
          · subst h7
            have hfx : fix2 ((7 : Int), z) = (7, [50]) := by unfold fix2; rw [if_pos rfl]
            rw [hfx] at hx2
            have fz := HO2.out.frozen (k * 2 + 1)
            have HO4 := Lib.hid (HO2.out.store2 hx1 [50] hx2)
            have HYL3 := Lib.hid (show ((ds.take (k + 1)).map fix2 ++ ds.drop (k + 1)).length = M by rw [← hx2, List.length_set]; exact HYL.out)
            have HO3 := Lib.hid (own_other HO.out (p := ⟨g, k * 2 + 1, none⟩) (fun e => by have := (own_spelt HGA.out g e).2; omega) (.string ⟨#[50]⟩))
            have HPO3 := Lib.hid (own_set HPO.out (p := ⟨g, k * 2 + 1, none⟩) hg2.2 (.string ⟨#[50]⟩))
            have HL3 := Lib.hid (HL.out.keep (kept_set wr (q := ⟨g, k * 2 + 1, none⟩) (.string ⟨#[50]⟩) (fun h => absurd (show w2.heap.size ≤ g from (by rw [HP.out] at h; exact h.1)) (by have := hg2.2; omega))))
            have HB3 := Lib.hid (HB.out.setCell (Nat.le_trans HW1.out hg2.1) (p := ⟨g, k * 2 + 1, none⟩) (.string ⟨#[50]⟩))
            clear hf hx1 hx2 hfx HY HO HO2 HPO HL HB
            go_wp2_with fail
            go_roundw
            case rel => exact ⟨k + 1, _, by go_num, by omega, HYL3, Lib.hid rfl, HO3, HO4, HPO3, HL3, HB3⟩
            case measure => simp [intOf]; omega
          · have q7 : (κ == 7) = false := by rw [beq_eq_false_iff_ne]; exact h7
            have hfx : fix2 (κ, z) = (κ, z) := by unfold fix2; rw [if_neg h7]
            have hsame := fix_same hx1 fix2 hfx
            rw [hx2] at hsame
            have HN2 := Lib.hid hsame
            clear hf hx1 hx2 hfx hsame h7 HY
            go_wp2_with fail
            go_roundw
            case rel => exact ⟨k + 1, ys2, by go_num, by omega, HYL, HN2, HO, HO2, HPO, HL, HB⟩
            case measure => simp [intOf]; omega
        · have i2 : ¬ (k : Int) < (M : Int) := by omega
          have hys : ys2 = ns := by rw [← HY.out, ← HNS.out, List.take_of_length_le (by rw [HDS.out]; omega), List.drop_of_length_le (by rw [HDS.out]; omega), List.append_nil]
          subst hys
          have R1 := Lib.hid HO.out.rd
          have R2 := Lib.hid HO2.out.rd
          have RP := Lib.hid HPO.out.rd
          have RL := Lib.hid HL.out.plain
          clear HY HO HO2 HPO HL HNS HYL
          have HE := Lib.hid (own_empty 41 wr)
          have HW := Lib.hid (one_below wr (.cells #[] 41))
          go_wp2_with (at_builtin; first
            | (refine wpList_append_rdn37 _ rfl (.tmp 74) (.tmp 75) rfl wr.heap.size _ [] rfl HE.out A1 N c1 xs2 HMN.out.symm rfl (R1.out.below HW.out) (by rw [HMN.out]; show 0 + N ≤ _; omega) HW.out.size xs2 rfl ?_
               intro B1 d1 w5 ho1 hb1
               have HO5 := Lib.hid ho1
               have HW5 := Lib.hid (HW.out.trans hb1)
               clear ho1 hb1)
            | (refine wpList_append_rdn37 _ rfl (.tmp 77) (.tmp 78) rfl wr.heap.size _ xs2 rfl HO5.out A2 M c2 ys2 HNM.out.symm rfl (R2.out.below HW5.out) (by rw [HMN.out, HNM.out]; omega) HW5.out.size bo HBO.out ?_
               intro B2 d2 w6 ho2 hb2
               have RB := Lib.hid ho2.rd
               have HW6 := Lib.hid (HW5.out.trans hb2)
               have HE6 := Lib.hid (own_empty 41 w6)
               have HA7 := Lib.hid (one_below w6 (.cells #[] 41))
               clear ho2 hb2))
          replace R1 := Lib.hid (R1.out.below HW6.out)
          replace R2 := Lib.hid (R2.out.below HW6.out)
          replace RP := Lib.hid (RP.out.below HW6.out)
          replace RL := Lib.hid (RL.out.below HW6.out)
          replace HB := Lib.hid (bch HB.out HW6.out)
          clear HW6 HW5 HW HO5 HE
          refine (FL.out A1 c1 _ _ (R1.out.below HA7.out) (RL.out.below HA7.out)).mono ?_
          rintro e w7 ⟨B7, d7, rfl, ho, hb⟩
          have HE7 := Lib.hid (HE6.out.below hb)
          have HW7 := Lib.hid (bch HA7.out hb)
          have R7 := Lib.hid ho.rd
          clear hb ho HE6 HA7 FL
          go_wp2_with (at_builtin; refine wpList_append_rdn37 _ rfl (.tmp 80) (.tmp 83) rfl w6.heap.size _ [] rfl HE7.out B7 fl1.length d7 fl1 rfl rfl R7.out (by show 0 + fl1.length ≤ _; omega) HW7.out.size fl1 rfl ?_; intro B8 d8 w8 ho8 hb8)
          have HO8 := Lib.hid ho8
          have HW8 := Lib.hid (HW7.out.trans hb8)
          clear ho8 hb8 HE7 HW7 R7
          refine (FK.out A2 c2 _ _ (R2.out.below HW8.out) (RL.out.below HW8.out)).mono ?_
          rintro e w9 ⟨B9, d9, rfl, ho, hb⟩
          have HO9 := Lib.hid (HO8.out.below hb)
          have HW9 := Lib.hid (HW8.out.trans (hb.mono HW8.out.size))
          have R9 := Lib.hid ho.rd
          clear hb ho HO8 HW8 FK R2
          go_wp2_with (at_builtin; refine wpList_append_rdn37 _ rfl (.tmp 85) (.tmp 88) rfl w6.heap.size _ fl1 rfl HO9.out B9 fl2.length d9 fl2 rfl rfl R9.out (by omega) HW9.out.size wa HWA.out ?_; intro B10 d10 w10 ho10 hb10)
          have RW := Lib.hid ho10.rd
          have HW10 := Lib.hid (HW9.out.trans hb10)
          replace R1 := Lib.hid (R1.out.below HW10.out)
          replace RP := Lib.hid (RP.out.below HW10.out)
          replace RL := Lib.hid (RL.out.below HW10.out)
          replace RB := Lib.hid (RB.out.below HW10.out)
          replace HB := Lib.hid (bch HB.out HW10.out)
          clear ho10 hb10 HW9 HW10 HO9 R9
          refine (FN.out A1 c1 _ R1.out).mono ?_
          rintro e w11 ⟨B11, d11, rfl, ho, hb⟩
          replace RP := Lib.hid (RP.out.below hb)
          replace RL := Lib.hid (RL.out.below hb)
          replace RB := Lib.hid (RB.out.below hb)
          replace RW := Lib.hid (RW.out.below hb)
          replace HB := Lib.hid (bch HB.out hb)
          have R11 := Lib.hid ho.rd
          clear hb ho FN R1
          go_wp2_with fail
          refine (refs_any B11 d11 ps _ R11.out (by omega)).mono ?_
          rintro e w12 ⟨B12, d12, rfl, ho, hb⟩
          replace RP := Lib.hid (RP.out.below hb)
          replace RL := Lib.hid (RL.out.below hb)
          replace RB := Lib.hid (RB.out.below hb)
          replace RW := Lib.hid (RW.out.below hb)
          replace HB := Lib.hid (bch HB.out hb)
          have R12 := Lib.hid ho.rd
          clear hb ho R11
          go_wp2_with fail
          refine (refs_any C cc ps _ RP.out (by omega)).mono ?_
          rintro e w13 ⟨B13, d13, rfl, ho, hb⟩
          replace RP := Lib.hid (RP.out.below hb)
          replace RL := Lib.hid (RL.out.below hb)
          replace RB := Lib.hid (RB.out.below hb)
          replace RW := Lib.hid (RW.out.below hb)
          replace R12 := Lib.hid (R12.out.below hb)
          replace HB := Lib.hid (bch HB.out hb)
          have R13 := Lib.hid ho.rd
          clear hb ho
          go_wp2_with fail
          refine (same_eq B12 B13 d12 d13 ps _ R12.out R13.out (by omega)).mono ?_
          rintro e w14 ⟨rfl, hb⟩
          replace RP := Lib.hid (RP.out.below hb)
          replace RL := Lib.hid (RL.out.below hb)
          replace RB := Lib.hid (RB.out.below hb)
          replace RW := Lib.hid (RW.out.below hb)
          replace HB := Lib.hid (bch HB.out hb)
          clear hb R12 R13
          go_wp2_with fail
          refine (FP.out C cc _ _ RP.out RL.out).mono ?_
          rintro e w15 ⟨B15, d15, rfl, ho, hb⟩
          replace RP := Lib.hid (RP.out.below hb)
          replace RL := Lib.hid (RL.out.below hb)
          replace RB := Lib.hid (RB.out.below hb)
          replace RW := Lib.hid (RW.out.below hb)
          replace HB := Lib.hid (bch HB.out hb)
          have R15 := Lib.hid ho.rd
          clear hb ho FP
          go_wp2_with fail
          refine (refs_any B15 d15 ps _ R15.out (by omega)).mono ?_
          rintro e w16 ⟨B16, d16, rfl, ho, hb⟩
          replace RP := Lib.hid (RP.out.below hb)
          replace RL := Lib.hid (RL.out.below hb)
          replace RB := Lib.hid (RB.out.below hb)
          replace RW := Lib.hid (RW.out.below hb)
          replace HB := Lib.hid (bch HB.out hb)
          have R16 := Lib.hid ho.rd
          clear hb ho R15
          go_wp2_with fail
          refine (refs_any C cc ps _ RP.out (by omega)).mono ?_
          rintro e w17 ⟨B17, d17, rfl, ho, hb⟩
          replace RL := Lib.hid (RL.out.below hb)
          replace RB := Lib.hid (RB.out.below hb)
          replace RW := Lib.hid (RW.out.below hb)
          replace R16 := Lib.hid (R16.out.below hb)
          replace HB := Lib.hid (bch HB.out hb)
          have R17 := Lib.hid ho.rd
          clear hb ho RP
          go_wp2_with fail
          refine (same_eq B16 B17 d16 d17 ps _ R16.out R17.out (by omega)).mono ?_
          rintro e w18 ⟨rfl, hb⟩
          replace RL := Lib.hid (RL.out.below hb)
          replace RB := Lib.hid (RB.out.below hb)
          replace RW := Lib.hid (RW.out.below hb)
          replace HB := Lib.hid (bch HB.out hb)
          clear hb R16 R17
          go_wp2_with fail
          refine (FB.out B2 d2 _ _ RB.out RL.out).mono ?_
          rintro e w19 ⟨B19, d19, rfl, ho, hb⟩
          replace RW := Lib.hid (RW.out.below hb)
          replace HB := Lib.hid (bch HB.out hb)
          have R19 := Lib.hid ho.rd
          clear hb ho FB RB RL
          go_wp2_with fail
          refine (refs_any B19 d19 wa _ R19.out (by omega)).mono ?_
          rintro e w20 ⟨B20, d20, rfl, ho, hb⟩
          replace RW := Lib.hid (RW.out.below hb)
          replace HB := Lib.hid (bch HB.out hb)
          have R20 := Lib.hid ho.rd
          clear hb ho R19
          go_wp2_with fail
          refine (refs_any B10 d10 wa _ RW.out (by omega)).mono ?_
          rintro e w21 ⟨B21, d21, rfl, ho, hb⟩
          replace R20 := Lib.hid (R20.out.below hb)
          replace HB := Lib.hid (bch HB.out hb)
          have R21 := Lib.hid ho.rd
          clear hb ho RW
          go_wp2_with fail
          refine (same_eq B20 B21 d20 d21 wa _ R20.out R21.out (by omega)).mono ?_
          rintro e w22 ⟨rfl, hb⟩
          replace HB := Lib.hid (bch HB.out hb)
          clear hb R20 R21
          go_wp2_with fail
          refine (fixed_any _).mono ?_
          rintro e w23 ⟨rfl, hb⟩
          replace HB := Lib.hid (bch HB.out hb)
          clear hb 
          go_wp2
          go_ret
          exact ⟨rfl, HB.out⟩
end Go.Proofs.YtjneeikkakekjaaDoor

/-
  The walk of MacroWithin: for every input it returns true; old memory stays.
-/
import Derived.Test.YtjneeikkakekjaaDoorOD
namespace Go.Proofs.YtjneeikkakekjaaDoor
open Go.RowKit

theorem word_size : ∀ (f : Nat) (s : By), s.length ≤ f → (wordG s).1.length ≤ s.length
  | _, [], _ => by simp [wordG]
  | _, [c], _ => by rw [wordG_one]; split <;> simp
  | 0, c :: x :: r, h => by simp at h
  | f + 1, c :: x :: r, h => by
    simp at h
    rw [wordG_two]
    split
    · split
      · have := word_size f r (by omega); simp; omega
      · have := word_size f (x :: r) (by simp; omega); simp at this ⊢; omega
    · simp
theorem one_size (c : UInt8) (r : By) : (one c r).1.2.length ≤ (c :: r).length := by
  unfold one
  split
  · exact word_size _ _ (Nat.le_refl _)
  · split
    · simp
    · split
      · have := lead_le r; simp; omega
      · split
        · simp; omega
        · simp
theorem toks_sizes : ∀ (f : Nat) (s : By), s.length ≤ f → (toks s).length ≤ s.length ∧ ∀ t ∈ toks s, t.2.length ≤ s.length
  | _, [], _ => by simp [toks_nil]
  | 0, c :: r, h => by simp at h
  | f + 1, c :: r, h => by
    have h1 := one_less c r
    have h2 := one_size c r
    simp only [List.length_cons] at h h2 ⊢
    obtain ⟨i1, i2⟩ := toks_sizes f (one c r).2 (by omega)
    rw [toks_cons]
    refine ⟨by simp only [List.length_cons]; omega, fun t ht => ?_⟩
    rcases List.mem_cons.1 ht with rfl | ht
    · exact h2
    · have := i2 t ht; omega
theorem toks_len (s : By) : (toks s).length ≤ s.length := (toks_sizes _ s (Nat.le_refl _)).1
theorem toks_each (s : By) : ∀ t ∈ toks s, t.2.length ≤ s.length := (toks_sizes _ s (Nat.le_refl _)).2
theorem lex_list (s : By) (w : World) (hs : s.length ≤ 190000) : Calls Tryd.prog 34 #[.string ⟨s.toArray⟩] w (Res 41 w (toks s)) := lex_any ⟨s.toArray⟩ w hs
/-- A slice that reads as texts. -/
def RdS (w : World) (A : Option Addr) (xs : List By) : Prop :=
  0 < xs.length → ∃ b o, A = some ⟨b, o, none⟩ ∧ ∀ i x, xs[i]? = some x → w.cell? ⟨b, o + i, none⟩ = some (.string ⟨x.toArray⟩)
theorem RdS.below {w w' : World} {A : Option Addr} {xs : List By} (h : RdS w A xs) (hb : Below w.heap.size w w') : RdS w' A xs := fun h0 => by
  obtain ⟨b, o, e, hc⟩ := h h0
  exact ⟨b, o, e, fun i f hi => cell_below hb (hc i f hi)⟩
/-- A row of one's own that holds these lists, none in that block. -/
def OwnLF (t : TypeId) (w : World) (base : Nat) (G : Option Nat) (A : Option Addr) (c : Nat) (ll : List (List Tok)) : Prop :=
  ∃ cs : List Value, w.ownsRow base t 1 (Value.slice A ll.length c) ll.length cs ∧ ∀ (i : Nat) (l : List Tok), ll[i]? = some l → ∃ (B : Option Addr) (d : Nat), cs[i]? = some (Value.slice B l.length d) ∧ Rd w B l ∧ (0 < l.length → Far (Value.slice A ll.length c).ownBlock B) ∧ (0 < l.length → Far G B)
theorem OwnLF.rd {t : TypeId} {w : World} {base : Nat} {G : Option Nat} {A : Option Addr} {c : Nat} {ll : List (List Tok)} (h : OwnLF t w base G A c ll) : RdL w A ll := fun h0 => by
  obtain ⟨cs, hown, hc⟩ := h
  obtain ⟨g, cap, hv, hg, _⟩ := World.ownsRow.form hown h0
  simp only [Value.slice.injEq] at hv
  obtain ⟨rfl, _, _⟩ := hv
  refine ⟨g, 0, rfl, fun i l hi => ?_⟩
  obtain ⟨B, d, h1, h2, _⟩ := hc i l hi
  have hlt : i < ll.length := (List.getElem?_eq_some_iff.1 hi).1
  have c1 := World.ownsRow.cellAt hown i (by omega)
  rw [Nat.zero_add]
  exact ⟨B, d, c1.trans h1, h2⟩
theorem OwnLF.below {t : TypeId} {w w' : World} {base : Nat} {G : Option Nat} {A : Option Addr} {c : Nat} {ll : List (List Tok)} (h : OwnLF t w base G A c ll) (hb : Below w.heap.size w w') : OwnLF t w' base G A c ll := by
  obtain ⟨cs, hown, hc⟩ := h
  refine ⟨cs, own_row_below hown hb, fun i l hi => ?_⟩
  obtain ⟨B, d, h1, h2, h3⟩ := hc i l hi
  exact ⟨B, d, h1, h2.below hb, h3⟩
theorem OwnLF.lt {t : TypeId} {w : World} {base : Nat} {G : Option Nat} {A : Option Addr} {c : Nat} {ll : List (List Tok)} (h : OwnLF t w base G A c ll) : ∀ g, (Value.slice A ll.length c).ownBlock = some g → g < w.heap.size := fun g hg => by
  obtain ⟨cs, hown, _⟩ := h
  exact (hown.lt g hg).2
theorem ownLF_empty (t : TypeId) (w : World) (G : Option Nat) : OwnLF t (w.alloc (.cells #[] t)) w.heap.size G (some ⟨w.heap.size, 0, none⟩) 0 [] :=
  ⟨[], World.ownsRow_lit w #[] 0 (Nat.le_refl _) (by unfold maxLen; omega) (by simp), fun i l hi => by simp at hi⟩
/-- Two rows of unlike types never share a block. -/
theorem rows_apart {w : World} {b1 b2 t1 t2 s1 s2 n1 n2 : Nat} {v1 v2 : Value} {xs1 xs2 : List Value} (h1 : w.ownsRow b1 t1 s1 v1 n1 xs1) (h2 : w.ownsRow b2 t2 s2 v2 n2 xs2) (ht : t1 ≠ t2) : v1.ownBlock = none ∨ v1.ownBlock ≠ v2.ownBlock := by
  rcases h1.2 with ⟨rfl, _⟩ | ⟨g1, cap1, cur1, rfl, _, hg1, _⟩
  · exact .inl rfl
  · right
    intro e
    rcases h2.2 with ⟨rfl, _⟩ | ⟨g2, cap2, cur2, rfl, _, hg2, _⟩
    · cases e
    · have : g1 = g2 := Option.some.inj e
      subst this
      have := hg1.symm.trans hg2
      simp only [Option.some.injEq, Obj.cells.injEq] at this
      exact ht this.2.1
/-- The lists behind an append onto another row. -/
theorem OwnLF.grown {w w' : World} {base b1 : Nat} {C : Option Addr} {cc : Nat} {xs : List Tok} {A : Option Addr} {c : Nat} {ll : List (List Tok)} {G' : Option Nat} (h : OwnLF 22 w base (Value.slice C xs.length cc).ownBlock A c ll) (ho : Own 41 w b1 C cc xs)
    (hg : w.grownBy w' (Value.slice C xs.length cc).ownBlock) (hG : G' = (Value.slice C xs.length cc).ownBlock ∨ G' = some w.heap.size) : OwnLF 22 w' base G' A c ll := by
  obtain ⟨cs, hown, hc⟩ := h
  refine ⟨cs, hown.kept hg (rows_apart hown ho (by decide)), fun i l hi => ?_⟩
  obtain ⟨B, d, h1, h2, h3, h4⟩ := hc i l hi
  refine ⟨B, d, h1, h2.grown hg h4, h3, fun h0 a ha e => ?_⟩
  rcases hG with q | q
  · rw [q] at e; exact h4 h0 a ha e
  · rw [q] at e
    have := rd_lt h2 h0 a ha
    have := Option.some.inj e
    omega
theorem far_next {w : World} {B : Option Addr} {l : List Tok} {G G' : Option Nat} (h : Rd w B l) (hf : 0 < l.length → Far G B) (hG : G' = G ∨ G' = some w.heap.size) : 0 < l.length → Far G' B := fun h0 a ha e => by
  rcases hG with q | q
  · rw [q] at e; exact hf h0 a ha e
  · rw [q] at e
    have := rd_lt h h0 a ha
    have := Option.some.inj e
    omega
theorem run_append_lf (w : World) (base : Nat) (ty : TypeId) (G : Option Nat) (A : Option Addr) (c : Nat) (ll : List (List Tok)) (hown : OwnLF 22 w base G A c ll) (g : Nat) (B : Option Addr) (d : Nat) (l : List Tok)
    (hc : w.cell? ⟨g, 0, none⟩ = some (.slice B l.length d)) (hr : Rd w B l) (hf : 0 < l.length → Far (Value.slice A ll.length c).ownBlock B) (hge : 0 < l.length → Far G B) (hlen : ll.length + 1 ≤ 200000) (hbase : base ≤ w.heap.size) :
    ∃ A' c' w', (Builtin.append_ #[30, 30] ty #[.slice A ll.length c, .slice (some ⟨g, 0, none⟩) 1 1]).run Tryd.prog w = .ok (.slice A' (ll ++ [l]).length c') w' ∧ OwnLF 22 w' base G A' c' (ll ++ [l]) ∧ Below base w w' ∧ w.grownBy w' (Value.slice A ll.length c).ownBlock := by
  obtain ⟨i0, hi, hz0, hz1, hz2⟩ := info_parts Tryd.infoL22
  obtain ⟨cs, ho, hcs⟩ := hown
  obtain ⟨v', w', h1, h2, h3, _, h5⟩ := run_append_own_at (P := Tryd.prog) w base 30 ty 22 i0 _ 1 24 Tryd.underlying30 hi hz0 hz1 hz2 rfl (by decide) (.slice A ll.length c) ll.length cs ho ⟨g, 0, none⟩ 1 1 [.slice B l.length d] rfl
    (fun j u hu => by
      match j, hu with
      | 0, hu => simp at hu; subst hu; rw [add_lit]; exact hc
      | j + 1, hu => simp at hu)
    (fun u hu => by simp at hu; subst hu; rfl) (by unfold maxLen; omega) (by omega) hbase
  obtain ⟨A', c', rfl⟩ := own_shape h2
  have e1 : ll.length + 1 = (ll ++ [l]).length := by simp
  rw [e1] at h1 h2 h5
  refine ⟨A', c', w', h1, ⟨cs ++ [.slice B l.length d], h2, fun i m hi => ?_⟩, below_grown ho h3 hbase, h3⟩
  rcases Nat.lt_or_ge i ll.length with q | q
  · rw [List.getElem?_append_left q] at hi
    obtain ⟨B2, d2, k1, k2, k3, k4⟩ := hcs i m hi
    have hcl : i < cs.length := (List.getElem?_eq_some_iff.1 k1).1
    exact ⟨B2, d2, by rw [List.getElem?_append_left hcl]; exact k1, k2.grown h3 k3, far_next k2 k3 h5, k4⟩
  · have hil : i = ll.length := by
      have := (List.getElem?_eq_some_iff.1 hi).1
      simp at this; omega
    subst hil
    rw [List.getElem?_append_right (Nat.le_refl _), Nat.sub_self] at hi
    simp at hi
    subst hi
    have hcl : cs.length = ll.length := by have := ho.1; omega
    exact ⟨B, d, by rw [List.getElem?_append_right (by omega), hcl, Nat.sub_self]; rfl, hr.grown h3 hf, far_next hr hf h5, hge⟩
theorem wpList_append_lf {ops : Array Oper} {rest : List Oper} {o : Oper} {a : Act} {Q : Exit → Act → World → Prop} (w : World) (hgd : o.guard = none) (s x : Operand)
    (ho : o.op = .call { callee := .builtin .append, args := #[s, x], argTypes := #[30, 30] }) (base : Nat) (G : Option Nat) (A : Option Addr) (c : Nat) (ll : List (List Tok)) (hs : a.eval s = .slice A ll.length c) (hown : OwnLF 22 w base G A c ll)
    (g : Nat) (B : Option Addr) (d : Nat) (l : List Tok) (hx : a.eval x = .slice (some ⟨g, 0, none⟩) 1 1) (hc : w.cell? ⟨g, 0, none⟩ = some (.slice B l.length d)) (hr : Rd w B l) (hf : 0 < l.length → Far (Value.slice A ll.length c).ownBlock B)
    (hge : 0 < l.length → Far G B) (hlen : ll.length + 1 ≤ 200000) (hbase : base ≤ w.heap.size) (r : List (List Tok)) (hr0 : ll ++ [l] = r)
    (h : ∀ A' c' w', OwnLF 22 w' base G A' c' r → Below base w w' → w.grownBy w' (Value.slice A ll.length c).ownBlock → wpList Tryd.prog ops Q rest (a.put o.dst (.slice A' r.length c')) w') : wpList Tryd.prog ops Q (o :: rest) a w := by
  subst hr0
  refine wpList_plain hgd fun K hK => ?_
  obtain ⟨A', c', w', hrun, h2, h3, h4⟩ := run_append_lf w base o.type G A c ll hown g B d l hc hr hf hge hlen hbase
  unfold Oper.wp
  simp only [execOp, ho, resolve, invoke, builtin, Sem.run_bind, Sem.run_pure, Result.andThen_ok, List.map_toArray, List.map_cons, List.map_nil, hs, hx, hrun]
  exact hK _ _ (h A' c' w' h2 h3 h4)
theorem all_app : ∀ (ws : List (List Tok)) (i : Nat) (a : List Tok), allL i (ws ++ [a]) = allL i ws ++ ((5, []) :: (a ++ (6, []) :: spL (i + ws.length)))
  | [], i, a => by simp [allL]
  | b :: r, i, a => by
    have ih := all_app r (i + 1) a
    rw [List.cons_append]
    simp only [allL]
    rw [ih, show i + 1 + r.length = i + (b :: r).length by simp; omega]
    simp
theorem bal_in {l : List Tok} {k d : Nat} {t : Tok} {V : Bool} (h : l[k]? = some t) (hV : balG d (l.drop k) = V) : (if t.1 = 5 then balG (d + 1) (l.drop (k + 1)) else if t.1 = 6 then (if d = 0 then false else balG (d - 1) (l.drop (k + 1))) else balG d (l.drop (k + 1))) = V := by
  rw [← hV, drop_one h]; rfl
theorem row_mono {w : World} {base base' t s n : Nat} {v : Value} {xs : List Value} (h : w.ownsRow base t s v n xs) (hb : base' ≤ base) : w.ownsRow base' t s v n xs := by
  refine ⟨h.1, ?_⟩
  rcases h.2 with q | ⟨g, cap, cur, k1, k2, r⟩
  · exact .inl q
  · exact .inr ⟨g, cap, cur, k1, Nat.le_trans hb k2, r⟩
/-- All that stands beside the tokens of one text. -/
structure St (w wr : World) (C : Option Addr) (cc : Nat) (al : List Tok) (D : Option Addr) (dc : Nat) (ws : List (List Tok)) (A2 : Option Addr) (ins : List Tok) : Prop where
  own : Own 41 wr w.heap.size C cc al
  lists : OwnLF 22 wr w.heap.size (Value.slice C al.length cc).ownBlock D dc ws
  below : Below w.heap.size w wr
  read : Rd wr A2 ins
  far1 : 0 < ins.length → Far (Value.slice C al.length cc).ownBlock A2
  far2 : 0 < ins.length → Far (Value.slice D ws.length dc).ownBlock A2
theorem St.on {w wr w' : World} {C : Option Addr} {cc : Nat} {al : List Tok} {D : Option Addr} {dc : Nat} {ws : List (List Tok)} {A2 : Option Addr} {ins : List Tok} (h : St w wr C cc al D dc ws A2 ins) (hb : Below wr.heap.size wr w') : St w w' C cc al D dc ws A2 ins :=
  ⟨h.own.below hb, h.lists.below hb, bch h.below hb, h.read.below hb, h.far1, h.far2⟩
theorem St.step {w wr w' : World} {C C' : Option Addr} {cc cc' : Nat} {al al' : List Tok} {D : Option Addr} {dc : Nat} {ws : List (List Tok)} {A2 : Option Addr} {ins : List Tok} (h : St w wr C cc al D dc ws A2 ins) (ho : Own 41 w' w.heap.size C' cc' al')
    (hg : wr.grownBy w' (Value.slice C al.length cc).ownBlock) (hn : (Value.slice C' al'.length cc').ownBlock = (Value.slice C al.length cc).ownBlock ∨ (Value.slice C' al'.length cc').ownBlock = some wr.heap.size) : St w w' C' cc' al' D dc ws A2 ins :=
  ⟨ho, h.lists.grown h.own hg hn, h.below.trans (below_grown h.own hg h.below.size), h.read.grown hg h.far1, far_next h.read h.far1 hn, h.far2⟩
/-- Behind the list that is put to the others. -/
theorem St.last {w wr w' : World} {C : Option Addr} {cc : Nat} {al : List Tok} {D D' : Option Addr} {dc dc' : Nat} {ws ws' : List (List Tok)} {A2 : Option Addr} {ins : List Tok} (h : St w wr C cc al D dc ws A2 ins) (ho : OwnLF 22 w' w.heap.size (Value.slice C al.length cc).ownBlock D' dc' ws')
    (hb : Below w.heap.size wr w') (hg : wr.grownBy w' (Value.slice D ws.length dc).ownBlock) : Own 41 w' w.heap.size C cc al ∧ OwnLF 22 w' w.heap.size (Value.slice C al.length cc).ownBlock D' dc' ws' ∧ Below w.heap.size w w' := by
  obtain ⟨cs, hl, _⟩ := h.lists
  exact ⟨World.ownsRow.kept h.own hg (rows_apart h.own hl (by decide)), ho, h.below.trans hb⟩
set_option maxRecDepth 100000 in
set_option maxHeartbeats 8000000 in
theorem macroWithin_walk (A : Option Addr) (c : Nat) (xs : List By) (w : World) (hr : RdS w A xs) (hl : xs.length ≤ 9223372036854775807) (_hfit : Hid (∀ x ∈ xs, x.length ≤ 9223372036854775807)) :
    Calls Tryd.prog 6 #[.slice A xs.length c] w fun e w' => e = .returned (.bool true) ∧ Below w.heap.size w w' := by
  have o1 := one_below w (.cells #[] 41)
  have o2 := one_below (w.alloc (.cells #[] 41)) (.cells #[] 22)
  have s1 : (w.alloc (.cells #[] 41)).heap.size = w.heap.size + 1 := by simp
  have hE := (own_empty 41 w).below o2
  have hF := ownLF_empty 22 (w.alloc (.cells #[] 41)) (some w.heap.size)
  rw [s1] at hF
  have HA0 := Lib.hid hE
  have HW0 := Lib.hid (show OwnLF 22 ((w.alloc (.cells #[] 41)).alloc (.cells #[] 22)) w.heap.size (Value.slice (some ⟨w.heap.size, 0, none⟩) ([] : List Tok).length 0).ownBlock (some ⟨w.heap.size + 1, 0, none⟩) 0 [] from by
    obtain ⟨cs, h1, h2⟩ := hF
    exact ⟨cs, row_mono h1 (by omega), h2⟩)
  have HB0 := Lib.hid (bch o1 o2)
  have HS0 := Lib.hid (bch o1 o2).size
  clear o1 o2 s1 hE hF
  go_enter Tryd.func6, Tryd.ntmps6
  go_wp2_with fail
  go_loopw [3, 4, 5] (fun v3 v4 v5 wr => ∃ (k : Nat) (C D : Option Addr) (cc dc : Nat) (al : List Tok) (ws : List (List Tok)), v5 = .int .i64 k ∧ v3 = .slice C al.length cc ∧ v4 = .slice D ws.length dc ∧ k ≤ 9 ∧ al.length ≤ 50 * k ∧ Hid (ws.length = k) ∧ Hid (allL 0 ws = al) ∧ Hid (∀ x ∈ ws, balG 0 x = true ∧ x.length ≤ 40) ∧ Hid (Own 41 wr w.heap.size C cc al) ∧ Hid (OwnLF 22 wr w.heap.size (Value.slice C al.length cc).ownBlock D dc ws) ∧ Hid (Below w.heap.size w wr)) (fun _ _ v5 _ => 9 - (intOf v5).toNat)
  case atStart => exact ⟨0, _, _, 0, 0, [], [], rfl, rfl, rfl, by omega, by simp, Lib.hid rfl, Lib.hid rfl, Lib.hid (by simp), HA0, HW0, HB0⟩
  case round =>
    clear HA0 HW0 HB0 HS0
    obtain ⟨k, C, D, cc, dc, al, ws, rfl, rfl, rfl, hk9, hal, HWL, HAL, HBAL, HO, HW, HB⟩ := hrel
    by_cases hgo : k < xs.length ∧ k < 9
    · obtain ⟨hlt, hlt9⟩ := hgo
      have i1 : (k : Int) < (xs.length : Int) := by omega
      have i2 : (k : Int) < 9 := by omega
      obtain ⟨b, o, rfl, hcell⟩ := hr (by omega)
      obtain ⟨x, hx⟩ : ∃ x, xs[k]? = some x := ⟨_, List.getElem?_eq_getElem hlt⟩
      have c1 := cell_below HB.out (hcell k x hx)
      obtain ⟨cz, r, HCY, hrl, hmin, hcut⟩ := cut_facts x 40 40 rfl
      have htl := toks_len r
      have L1 := Lib.hid (fun w => lex_list r w (by omega))
      generalize toks r = ins at *
      have hinl : ins.length ≤ 40 := by omega
      obtain ⟨V, hV⟩ : ∃ V, balG 0 ins = V := ⟨_, rfl⟩
      have HV := Lib.hid hV
      have HV0 := Lib.hid (show balG 0 (ins.drop 0) = V by rw [← hV]; rfl)
      clear htl hV
      have HB1 := Lib.hid (bch HB.out (below_drew wr))
      have HO1 := Lib.hid (HO.out.below (below_drew wr))
      have HW1 := Lib.hid (HW.out.below (below_drew wr))
      have C1 : Hid (wr.drew.cell? ⟨b, o + k, none⟩ = some (.string ⟨x.toArray⟩)) := Lib.hid c1
      clear hcell hx HCY HO HW HB
      go_wp2_with fail
      go_region_held3 (fun w' => w'.cell? ⟨b, o + k, none⟩ = some (.string ⟨x.toArray⟩))
        (first
          | go_keep
          | exact cell_below hb2 C1.out)
        (first
          | (go_at_call 34; (with_reducible refine (L1.out _).mono ?_); rintro e w2 ⟨A2, c2, rfl, ho2, hb2⟩))
      have SS := Lib.hid (show St w w2 C cc al D dc ws A2 ins from ⟨HO1.out.below hb2, HW1.out.below hb2, bch HB1.out hb2, ho2.rd, own_far ho2 (fun q hq => (World.ownsRow.lt HO1.out q hq).2), own_far ho2 HW1.out.lt⟩)
      clear ho2 hb2 HO1 HW1 HB1 C1 c1 L1
      go_wp2_with fail
      go_loop [7, 8] (fun v7 v8 => ∃ (d j : Nat), v7 = .int .i64 d ∧ v8 = .int .i64 j ∧ j ≤ ins.length ∧ d ≤ j ∧ Hid (balG d (ins.drop j) = V)) (fun _ v8 => ins.length - (intOf v8).toNat)
      case atStart => exact ⟨0, 0, rfl, rfl, Nat.zero_le _, Nat.le_refl _, HV0⟩
      case round =>
        obtain ⟨d, j, rfl, rfl, hj, hdj, HE⟩ := hrel
        by_cases hlt2 : j < ins.length
        · obtain ⟨b3, o3, e3, hcell3⟩ := SS.out.read (by omega)
          subst e3
          obtain ⟨f, hf⟩ : ∃ f, ins[j]? = some f := ⟨_, List.getElem?_eq_getElem hlt2⟩
          obtain ⟨k1, k2⟩ := hcell3 j f hf
          have i3 : (j : Int) < (ins.length : Int) := by omega
          have hbi := bal_in hf HE.out
          obtain ⟨κ, z⟩ := f
          simp only at k1 hbi
          clear hcell3 hf k2 HE
          by_cases h5 : κ = 5
          · rw [if_pos h5] at hbi
            have HN := Lib.hid hbi
            subst h5
            have q1 : ¬ (d : Int) + 1 < 0 := by omega
            clear hbi
            go_wp2_with fail
            go_round
            case rel => exact ⟨d + 1, j + 1, by go_num, by go_num, by omega, by omega, HN⟩
            case measure => simp [intOf]; omega
          · rw [if_neg h5] at hbi
            have q5 : (κ == 5) = false := by rw [beq_eq_false_iff_ne]; exact h5
            by_cases h6 : κ = 6
            · rw [if_pos h6] at hbi
              subst h6
              by_cases h0 : d = 0
              · subst h0
                have HB := Lib.hid SS.out.below
                clear hbi h5
                go_wp2_with fail
                refine (fixed_any _).mono ?_
                rintro e w3 ⟨rfl, hb⟩
                replace HB := Lib.hid (bch HB.out hb)
                clear hb
                go_wp2
                go_ret
                exact ⟨rfl, HB.out⟩
              · rw [if_neg h0] at hbi
                obtain ⟨d2, rfl⟩ : ∃ d2, d = d2 + 1 := ⟨d - 1, by omega⟩
                rw [Nat.add_sub_cancel] at hbi
                have HN := Lib.hid hbi
                have q1 : ¬ ((d2 + 1 : Nat) : Int) - 1 < 0 := by omega
                have q2 : ((d2 + 1 : Nat) : Int) - 1 = (d2 : Int) := by omega
                have q3 : IntKind.i64.wrap (((d2 + 1 : Nat) : Int) - 1) = (d2 : Int) := by rw [q2]; exact IntWalk.i64_in _ (by omega)
                have q4 : ¬ (d2 : Int) < 0 := by omega
                clear hbi h5 h0
                go_wp2_with fail
                go_round
                case rel => exact ⟨d2, j + 1, by go_num, by go_num, by omega, by omega, HN⟩
                case measure => simp [intOf]; omega
            · rw [if_neg h6] at hbi
              have q6 : (κ == 6) = false := by rw [beq_eq_false_iff_ne]; exact h6
              have HN := Lib.hid hbi
              have q1 : ¬ (d : Int) < 0 := by omega
              clear hbi h5 h6
              go_wp2_with fail
              go_round
              case rel => exact ⟨d, j + 1, by go_num, by go_num, by omega, by omega, HN⟩
              case measure => simp [intOf]; omega
        · have hfin := HE.out
          rw [List.drop_of_length_le (by omega)] at hfin
          have i3 : ¬ (j : Int) < (ins.length : Int) := by omega
          clear HE
          by_cases h0 : d = 0
          · have hbt : balG 0 ins = true := by rw [HV.out, ← hfin, h0]; rfl
            have HBT := Lib.hid hbt
            subst h0
            clear hfin hbt HV HV0
            obtain ⟨n1, hn1⟩ : ∃ n, al ++ [((5 : Int), ([] : By))] = n := ⟨_, rfl⟩
            obtain ⟨n2, hn2⟩ : ∃ n, n1 ++ ins = n := ⟨_, rfl⟩
            obtain ⟨n3, hn3⟩ : ∃ n, n2 ++ [((6 : Int), ([] : By))] = n := ⟨_, rfl⟩
            obtain ⟨n4, hn4⟩ : ∃ n, n3 ++ [((2 : Int), ([] : By))] = n := ⟨_, rfl⟩
            obtain ⟨ws2, hws2⟩ : ∃ r, ws ++ [ins] = r := ⟨_, rfl⟩
            have l1 : n1.length = al.length + 1 := by rw [← hn1]; simp
            have l2 : n2.length = n1.length + ins.length := by rw [← hn2]; simp
            have l3 : n3.length = n2.length + 1 := by rw [← hn3]; simp
            have l4 : n4.length = n3.length + 1 := by rw [← hn4]; simp
            have hal4 : allL 0 ws2 = n3 ++ spL k := by
              rw [← hws2, all_app, HAL.out, HWL.out, ← hn3, ← hn2, ← hn1, Nat.zero_add]; simp
            have HN1 := Lib.hid hn1
            have HN2 := Lib.hid hn2
            have HN3 := Lib.hid hn3
            have HN4 := Lib.hid hn4
            have HWS := Lib.hid hws2
            have hb1 : n1.length ≤ 500 := by omega
            have hb2 : n2.length ≤ 550 := by omega
            have hb3 : n3.length ≤ 560 := by omega
            have hb4 : n3.length + 1 ≤ 50 * (k + 1) := by omega
            have HL4 := Lib.hid l4
            have HWL2 := Lib.hid (show ws2.length = k + 1 by rw [← hws2, List.length_append, HWL.out]; rfl)
            have HBAL2 := Lib.hid (show ∀ x ∈ ws2, balG 0 x = true ∧ x.length ≤ 40 from fun x hx => by
              rw [← hws2] at hx
              rcases List.mem_append.1 hx with h | h
              · exact HBAL.out x h
              · simp at h; subst h; exact ⟨HBT.out, hinl⟩)
            have HWL9 := Lib.hid (show ws.length + 1 ≤ 200000 by rw [HWL.out]; omega)
            have o2 := one_below w2 (.cells #[.int .i64 5, .string ⟨#[]⟩] 41)
            have HT := Lib.hid (one_read (f := ((5 : Int), ([] : By))) (new_fst w2 (.int .i64 5) (.string ⟨#[]⟩) 41) (new_snd w2 (.int .i64 5) (.string ⟨#[]⟩) 41))
            have SA := Lib.hid (SS.out.on o2)
            clear hn1 hn2 hn3 hn4 hws2 l1 l2 l3 l4 o2 SS HAL HWL HBT
            rcases Nat.mod_two_eq_zero_or_one k with hk2 | hk2
            · have HALN := Lib.hid (show allL 0 ws2 = n4 by rw [hal4, ← HN4.out]; unfold spL; rw [if_pos hk2])
              have t1 : (k : Int) % 2 = 0 := by omega
              have t2 : Int.tmod (k : Int) 2 = 0 := by rw [Int.tmod_eq_emod_of_nonneg (by omega)]; omega
              have HK2 := Lib.hid hk2
              clear hal4 hk2
              go_wp2_with (at_builtin; first
                | (refine wpList_append_gr _ rfl (.tmp 67) (.tmp 69) rfl w.heap.size C cc al rfl SA.out.own (some ⟨w2.heap.size, 0, none⟩) 1 1 [(5, [])] rfl rfl HT.out (by show al.length + 1 ≤ _; omega) SA.out.below.size n1 HN1.out ?_
                   intro N1 m1 w3 ho3 hg3 hx3
                   have SB := Lib.hid (SA.out.step ho3 hg3 hx3)
                   clear ho3 hg3 hx3 SA HT)
                | (refine wpList_append_gr _ rfl (.tmp 71) (.tmp 72) rfl w.heap.size N1 m1 n1 rfl SB.out.own A2 ins.length c2 ins rfl rfl SB.out.read (by omega) SB.out.below.size n2 HN2.out ?_
                   intro N2 m2 w4 ho4 hg4 hx4
                   have SC0 := SB.out.step ho4 hg4 hx4
                   have SC := Lib.hid (SC0.on (one_below w4 (.cells #[.int .i64 6, .string ⟨#[]⟩] 41)))
                   have HT2 := Lib.hid (one_read (f := ((6 : Int), ([] : By))) (new_fst w4 (.int .i64 6) (.string ⟨#[]⟩) 41) (new_snd w4 (.int .i64 6) (.string ⟨#[]⟩) 41))
                   clear ho4 hg4 hx4 SB SC0)
                | (refine wpList_append_gr _ rfl (.tmp 74) (.tmp 76) rfl w.heap.size N2 m2 n2 rfl SC.out.own (some ⟨w4.heap.size, 0, none⟩) 1 1 [(6, [])] rfl rfl HT2.out (by show n2.length + 1 ≤ _; omega) SC.out.below.size n3 HN3.out ?_
                   intro N3 m3 w5 ho5 hg5 hx5
                   have SD0 := SC.out.step ho5 hg5 hx5
                   have SD := Lib.hid (SD0.on (one_below w5 (.cells #[.int .i64 2, .string ⟨#[]⟩] 41)))
                   have HT3 := Lib.hid (one_read (f := ((2 : Int), ([] : By))) (new_fst w5 (.int .i64 2) (.string ⟨#[]⟩) 41) (new_snd w5 (.int .i64 2) (.string ⟨#[]⟩) 41))
                   clear ho5 hg5 hx5 SC HT2 SD0)
                | (refine wpList_append_gr _ rfl (.tmp 81) (.tmp 83) rfl w.heap.size N3 m3 n3 rfl SD.out.own (some ⟨w5.heap.size, 0, none⟩) 1 1 [(2, [])] rfl rfl HT3.out (by show n3.length + 1 ≤ _; omega) SD.out.below.size n4 HN4.out ?_
                   intro N4 m4 w6 ho6 hg6 hx6
                   have SE0 := SD.out.step ho6 hg6 hx6
                   have SE := Lib.hid (SE0.on (one_below w6 (.cells #[.slice A2 ins.length c2] 22)))
                   clear ho6 hg6 hx6 SD HT3 SE0)
                | (refine wpList_append_lf _ rfl (.tmp 85) (.tmp 87) rfl w.heap.size (Value.slice N4 n4.length m4).ownBlock D dc ws rfl SE.out.lists w6.heap.size A2 c2 ins rfl (new_one _ _ _) SE.out.read SE.out.far2 SE.out.far1 HWL9.out SE.out.below.size ws2 HWS.out ?_
                   intro D7 d7 w7 ho7 hb7 hg7
                   have HZ := Lib.hid (SE.out.last ho7 hb7 hg7)
                   clear ho7 hb7 hg7 SE))
              go_roundw
              case rel => exact ⟨k + 1, N4, D7, m4, d7, n4, ws2, by go_num, rfl, rfl, by omega, by have := HL4.out; omega, HWL2, HALN, HBAL2, Lib.hid HZ.out.1, Lib.hid HZ.out.2.1, Lib.hid HZ.out.2.2⟩
              case measure => simp [intOf]; omega
            · have HALN := Lib.hid (show allL 0 ws2 = n3 by rw [hal4]; unfold spL; rw [if_neg (by omega), List.append_nil])
              have t1 : (k : Int) % 2 = 1 := by omega
              have t2 : Int.tmod (k : Int) 2 = 1 := by rw [Int.tmod_eq_emod_of_nonneg (by omega)]; omega
              have HK2 := Lib.hid hk2
              clear hal4 hk2
              go_wp2_with (at_builtin; first
                | (refine wpList_append_gr _ rfl (.tmp 67) (.tmp 69) rfl w.heap.size C cc al rfl SA.out.own (some ⟨w2.heap.size, 0, none⟩) 1 1 [(5, [])] rfl rfl HT.out (by show al.length + 1 ≤ _; omega) SA.out.below.size n1 HN1.out ?_
                   intro N1 m1 w3 ho3 hg3 hx3
                   have SB := Lib.hid (SA.out.step ho3 hg3 hx3)
                   clear ho3 hg3 hx3 SA HT)
                | (refine wpList_append_gr _ rfl (.tmp 71) (.tmp 72) rfl w.heap.size N1 m1 n1 rfl SB.out.own A2 ins.length c2 ins rfl rfl SB.out.read (by omega) SB.out.below.size n2 HN2.out ?_
                   intro N2 m2 w4 ho4 hg4 hx4
                   have SC0 := SB.out.step ho4 hg4 hx4
                   have SC := Lib.hid (SC0.on (one_below w4 (.cells #[.int .i64 6, .string ⟨#[]⟩] 41)))
                   have HT2 := Lib.hid (one_read (f := ((6 : Int), ([] : By))) (new_fst w4 (.int .i64 6) (.string ⟨#[]⟩) 41) (new_snd w4 (.int .i64 6) (.string ⟨#[]⟩) 41))
                   clear ho4 hg4 hx4 SB SC0)
                | (refine wpList_append_gr _ rfl (.tmp 74) (.tmp 76) rfl w.heap.size N2 m2 n2 rfl SC.out.own (some ⟨w4.heap.size, 0, none⟩) 1 1 [(6, [])] rfl rfl HT2.out (by show n2.length + 1 ≤ _; omega) SC.out.below.size n3 HN3.out ?_
                   intro N3 m3 w5 ho5 hg5 hx5
                   have SD0 := SC.out.step ho5 hg5 hx5
                   have SD := Lib.hid (SD0.on (one_below w5 (.cells #[.slice A2 ins.length c2] 22)))
                   clear ho5 hg5 hx5 SC HT2 SD0)
                | (refine wpList_append_lf _ rfl (.tmp 85) (.tmp 87) rfl w.heap.size (Value.slice N3 n3.length m3).ownBlock D dc ws rfl SD.out.lists w5.heap.size A2 c2 ins rfl (new_one _ _ _) SD.out.read SD.out.far2 SD.out.far1 HWL9.out SD.out.below.size ws2 HWS.out ?_
                   intro D7 d7 w7 ho7 hb7 hg7
                   have HZ := Lib.hid (SD.out.last ho7 hb7 hg7)
                   clear ho7 hb7 hg7 SD))
              go_roundw
              case rel => exact ⟨k + 1, N3, D7, m3, d7, n3, ws2, by go_num, rfl, rfl, by omega, by omega, HWL2, HALN, HBAL2, Lib.hid HZ.out.1, Lib.hid HZ.out.2.1, Lib.hid HZ.out.2.2⟩
              case measure => simp [intOf]; omega
          · have q1 : ((d : Int) != 0) = true := by simp; exact h0
            have q2 : ((d : Int) == 0) = false := by rw [beq_eq_false_iff_ne]; omega
            have HB := Lib.hid SS.out.below
            clear hfin h0
            go_wp2_with fail
            refine (fixed_any _).mono ?_
            rintro e w3 ⟨rfl, hb⟩
            replace HB := Lib.hid (bch HB.out hb)
            clear hb
            go_wp2
            go_ret
            exact ⟨rfl, HB.out⟩
    · have hcond : ((k : Int) < (xs.length : Int) ∧ ¬ (k : Int) < 9) ∨ ¬ (k : Int) < (xs.length : Int) := by omega
      obtain ⟨e, g1, g2, g3, g4⟩ := args_all ws 0 [] [] (by simp) (by simp) (fun a ha => (HBAL.out a ha).1)
      simp only [List.nil_append, List.length_nil, HAL.out] at g1 g2 g3 g4
      have hw9 : ws.length ≤ 9 := by rw [HWL.out]; exact hk9
      have E1 : argsE al 0 ws.length = (ws, (e : Int), 0) := by
        rw [show (0 : Int) = ((0 : Nat) : Int) from rfl, argsE_in (Nat.zero_le _) hw9, g1]; rfl
      have E2 : argsE al e 1 = ([], 0, 10) := by
        rw [show (1 : Int) = ((1 : Nat) : Int) from rfl, argsE_in g2 (by omega), g4]; rfl
      obtain ⟨k1, k2, _⟩ := HO.out.cap
      have RA := Lib.hid HO.out.rd
      have RW := Lib.hid HW.out.rd
      have AA := Lib.hid (fun w (hr : Rd w C al) => args_any C cc al 0 ws.length w hr (by omega) k1 k2)
      have AB := Lib.hid (fun w (hr : Rd w C al) => args_any C cc al e 1 w hr (by omega) k1 k2)
      rw [E1] at AA
      rw [E2] at AB
      have HF := Lib.hid (show ∀ l ∈ ws, l.length ≤ 100000 from fun l hl => by have := (HBAL.out l hl).2; omega)
      have hal9 : al.length ≤ 450 := by omega
      have i4 : ¬ (e : Int) < (al.length : Int) - 1 := by omega
      have i5 : ¬ (al.length : Int) < (e : Int) := by omega
      have i6 : IntKind.i64.wrap ((al.length : Int) - 1) = (al.length : Int) - 1 := IntWalk.i64_in _ (by omega)
      have hw1k : ws.length ≤ 10000 := by omega
      clear g1 g2 g3 g4 E1 E2 HO HW HAL HBAL HWL hgo hal k1 k2
      rcases hcond with ⟨i1, i2⟩ | i1
      all_goals
        go_wp2_with fail
        refine (AA.out _ RA.out).mono ?_
        rintro e1 w3 ⟨A3, c3, rfl, ho, hb⟩
        replace RA := Lib.hid (RA.out.below hb)
        replace RW := Lib.hid (RW.out.below hb)
        replace HB := Lib.hid (bch HB.out hb)
        have R3 := Lib.hid ho.rd
        simp only at R3 ⊢
        clear hb ho AA
        go_wp2_with fail
        refine (AB.out _ RA.out).mono ?_
        rintro e1 w4 ⟨A4, c4, rfl, ho, hb⟩
        replace RW := Lib.hid (RW.out.below hb)
        replace R3 := Lib.hid (R3.out.below hb)
        replace HB := Lib.hid (bch HB.out hb)
        simp only
        clear hb ho AB RA
        by_cases h0 : ws.length = 0
        · have i7 : ¬ (0 : Int) < (ws.length : Int) := by omega
          have H0 := Lib.hid h0
          clear h0
          go_wp2_with fail
          refine (lists7_any A3 c3 ws _ R3.out hw1k HF).mono ?_
          rintro e1 w5 ⟨A5, c5, rfl, ho, hb⟩
          replace RW := Lib.hid (RW.out.below hb)
          replace HB := Lib.hid (bch HB.out hb)
          have R5 := Lib.hid ho.rd
          clear hb ho R3
          go_wp2_with fail
          refine (lists7_any D dc ws _ RW.out hw1k HF).mono ?_
          rintro e1 w6 ⟨A6, c6, rfl, ho, hb⟩
          replace R5 := Lib.hid (R5.out.below hb)
          replace HB := Lib.hid (bch HB.out hb)
          have R6 := Lib.hid ho.rd
          clear hb ho RW
          go_wp2_with fail
          refine (lists_eq A5 A6 c5 c6 ws _ R5.out R6.out hw1k HF).mono ?_
          rintro e1 w7 ⟨rfl, hb⟩
          replace HB := Lib.hid (bch HB.out hb)
          clear hb R5 R6
          go_wp2_with fail
          refine (fixed_any _).mono ?_
          rintro e1 w8 ⟨rfl, hb⟩
          replace HB := Lib.hid (bch HB.out hb)
          clear hb
          go_wp2
          go_ret
          exact ⟨rfl, HB.out⟩
        · have i7 : (0 : Int) < (ws.length : Int) := by omega
          clear h0
          go_wp2_with fail
          refine (lists7_any A3 c3 ws _ R3.out hw1k HF).mono ?_
          rintro e1 w5 ⟨A5, c5, rfl, ho, hb⟩
          replace RW := Lib.hid (RW.out.below hb)
          replace HB := Lib.hid (bch HB.out hb)
          have R5 := Lib.hid ho.rd
          clear hb ho R3
          go_wp2_with fail
          refine (lists7_any D dc ws _ RW.out hw1k HF).mono ?_
          rintro e1 w6 ⟨A6, c6, rfl, ho, hb⟩
          replace R5 := Lib.hid (R5.out.below hb)
          replace HB := Lib.hid (bch HB.out hb)
          have R6 := Lib.hid ho.rd
          clear hb ho RW
          go_wp2_with fail
          refine (lists_eq A5 A6 c5 c6 ws _ R5.out R6.out hw1k HF).mono ?_
          rintro e1 w7 ⟨rfl, hb⟩
          replace HB := Lib.hid (bch HB.out hb)
          clear hb R5 R6
          go_wp2_with fail
          refine (fixed_any _).mono ?_
          rintro e1 w8 ⟨rfl, hb⟩
          replace HB := Lib.hid (bch HB.out hb)
          clear hb
          go_wp2
          go_ret
          exact ⟨rfl, HB.out⟩
end Go.Proofs.YtjneeikkakekjaaDoor

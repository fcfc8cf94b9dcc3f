/-
  Words for lists of lists of tokens: one that reads, a row of one's own, append of a list. Contracts of the law's Lists and of the document's.
  Contracts of the document's own answers of layer 7: Lists, Named.
  Package macro: parts of a slice, slices.Index and Contains of numbers, is, place, skip, Word, fresh.
-/
import Derived.Test.YtmnbepapgghdaaaGreatK04
import Derived.Maps.AppendAt
import Derived.BigQuiet
namespace Go.Proofs.YtmnbepapgghdaaaGreat
open Go.RowKit

/-- The slice at A reads as these lists. -/
def RdL (w : World) (A : Option Addr) (ll : List (List Tok)) : Prop :=
  0 < ll.length → ∃ b o, A = some ⟨b, o, none⟩ ∧ ∀ i l, ll[i]? = some l → ∃ B d, w.cell? ⟨b, o + i, none⟩ = some (.slice B l.length d) ∧ Rd w B l
theorem RdL.below {w w' : World} {A : Option Addr} {ll : List (List Tok)} (h : RdL w A ll) (hb : Below w.heap.size w w') : RdL w' A ll := fun h0 => by
  obtain ⟨b, o, e, hc⟩ := h h0
  refine ⟨b, o, e, fun i l hi => ?_⟩
  obtain ⟨B, d, h1, h2⟩ := hc i l hi
  exact ⟨B, d, cell_below hb h1, h2.below hb⟩
/-- Another block than that. -/
def Far (g : Option Nat) (B : Option Addr) : Prop := ∀ a, B = some a → some a.block ≠ g
/-- A row of one's own that holds these lists, each in another block. -/
def OwnL (t : TypeId) (w : World) (base : Nat) (A : Option Addr) (c : Nat) (ll : List (List Tok)) : Prop :=
  ∃ cs : List Value, w.ownsRow base t 1 (Value.slice A ll.length c) ll.length cs ∧ ∀ (i : Nat) (l : List Tok), ll[i]? = some l → ∃ (B : Option Addr) (d : Nat), cs[i]? = some (Value.slice B l.length d) ∧ Rd w B l ∧ (0 < l.length → Far (Value.slice A ll.length c).ownBlock B)
theorem OwnL.rd {t : TypeId} {w : World} {base : Nat} {A : Option Addr} {c : Nat} {ll : List (List Tok)} (h : OwnL t w base A c ll) : RdL w A ll := fun h0 => by
  obtain ⟨cs, hown, hc⟩ := h
  obtain ⟨g, cap, hv, _, _⟩ := World.ownsRow.form hown h0
  simp only [Value.slice.injEq] at hv
  obtain ⟨rfl, _, _⟩ := hv
  refine ⟨g, 0, rfl, fun i l hi => ?_⟩
  obtain ⟨B, d, h1, h2, _⟩ := hc i l hi
  have hlt : i < ll.length := (List.getElem?_eq_some_iff.1 hi).1
  have c1 := World.ownsRow.cellAt hown i (by omega)
  rw [Nat.zero_add]
  exact ⟨B, d, c1.trans h1, h2⟩
theorem own_row_below {t : TypeId} {w w' : World} {base size n : Nat} {v : Value} {cs : List Value} (h : w.ownsRow base t size v n cs) (hb : Below w.heap.size w w') : w'.ownsRow base t size v n cs := by
  refine ⟨h.1, ?_⟩
  rcases h.2 with q | ⟨g, cap, cur, h1, h2, h3, r⟩
  · exact .inl q
  · exact .inr ⟨g, cap, cur, h1, h2, (hb.block g (lt_of_blk h3)).trans h3, r⟩
theorem OwnL.below {t : TypeId} {w w' : World} {base : Nat} {A : Option Addr} {c : Nat} {ll : List (List Tok)} (h : OwnL t w base A c ll) (hb : Below w.heap.size w w') : OwnL t w' base A c ll := by
  obtain ⟨cs, hown, hc⟩ := h
  refine ⟨cs, own_row_below hown hb, fun i l hi => ?_⟩
  obtain ⟨B, d, h1, h2, h3⟩ := hc i l hi
  exact ⟨B, d, h1, h2.below hb, h3⟩
theorem OwnL.lt {t : TypeId} {w : World} {base : Nat} {A : Option Addr} {c : Nat} {ll : List (List Tok)} (h : OwnL t w base A c ll) : ∀ g, (Value.slice A ll.length c).ownBlock = some g → g < w.heap.size := fun g hg => by
  obtain ⟨cs, hown, _⟩ := h
  exact (hown.lt g hg).2
theorem ownL_empty (t : TypeId) (w : World) : OwnL t (w.alloc (.cells #[] t)) w.heap.size (some ⟨w.heap.size, 0, none⟩) 0 [] :=
  ⟨[], World.ownsRow_lit w #[] 0 (Nat.le_refl _) (by unfold maxLen; omega) (by simp), fun i l hi => by simp at hi⟩
/-- A list of one's own lies in another block than what was there before. -/
theorem own_far {t : TypeId} {w : World} {base : Nat} {B : Option Addr} {d : Nat} {l : List Tok} (h : Own t w base B d l) {g : Option Nat} (hg : ∀ k, g = some k → k < base) : 0 < l.length → Far g B := fun h0 a ha e => by
  obtain ⟨k, cap, hv, hb, _⟩ := World.ownsRow.form h h0
  simp only [Value.slice.injEq] at hv
  obtain ⟨rfl, _, _⟩ := hv
  cases ha
  have := hg _ e.symm
  simp only at this
  omega
theorem Rd.grown {w w' : World} {row : Option Nat} {B : Option Addr} {l : List Tok} (h : Rd w B l) (hg : w.grownBy w' row) (hf : 0 < l.length → Far row B) : Rd w' B l := fun h0 => by
  obtain ⟨b, o, e, hc⟩ := h h0
  subst e
  have hne : some b ≠ row := hf h0 _ rfl
  refine ⟨b, o, rfl, fun i f hi => ?_⟩
  obtain ⟨k1, k2⟩ := hc i f hi
  have l1 := World.block_lt_of_cell? w _ k1
  have l2 := World.block_lt_of_cell? w _ k2
  exact ⟨(hg.cell_far _ l1 hne).trans k1, (hg.cell_far _ l2 hne).trans k2⟩
theorem run_append_l (T E : TypeId) (hT : Tryz.prog.underlying T = some (.slice E)) (hI : (Tryz.prog.info? E).map (fun i => (i.zero, i.size, i.bytes)) = some (some (.slice none 0 0), 1, 24))
    (w : World) (base : Nat) (ty : TypeId) (A : Option Addr) (c : Nat) (ll : List (List Tok)) (hown : OwnL E w base A c ll) (g : Nat) (B : Option Addr) (d : Nat) (l : List Tok)
    (hc : w.cell? ⟨g, 0, none⟩ = some (.slice B l.length d)) (hr : Rd w B l) (hf : 0 < l.length → Far (Value.slice A ll.length c).ownBlock B) (hlen : ll.length + 1 ≤ 200000) (hbase : base ≤ w.heap.size) :
    ∃ A' c' w', (Builtin.append_ #[T, T] ty #[.slice A ll.length c, .slice (some ⟨g, 0, none⟩) 1 1]).run Tryz.prog w = .ok (.slice A' (ll ++ [l]).length c') w' ∧ OwnL E w' base A' c' (ll ++ [l]) ∧ Below base w w' ∧ w.grownBy w' (Value.slice A ll.length c).ownBlock := by
  obtain ⟨i0, hi, hz0, hz1, hz2⟩ := info_parts hI
  obtain ⟨cs, ho, hcs⟩ := hown
  have hlt := fun k hk => (ho.lt k hk)
  obtain ⟨v', w', h1, h2, h3, _, h5⟩ := run_append_own_at (P := Tryz.prog) w base T ty E i0 _ 1 24 hT hi hz0 hz1 hz2 rfl (by decide) (.slice A ll.length c) ll.length cs ho ⟨g, 0, none⟩ 1 1 [.slice B l.length d] rfl
    (fun j u hu => by
      match j, hu with
      | 0, hu => simp at hu; subst hu; rw [add_lit]; exact hc
      | j + 1, hu => simp at hu)
    (fun u hu => by simp at hu; subst hu; rfl) (by unfold maxLen; omega) (by omega) hbase
  obtain ⟨A', c', rfl⟩ := own_shape h2
  have e1 : ll.length + 1 = (ll ++ [l]).length := by simp
  rw [e1] at h1 h2 h5
  have far : ∀ (B : Option Addr) (m : List Tok), Rd w B m → (0 < m.length → Far (Value.slice A ll.length c).ownBlock B) → 0 < m.length → Far (Value.slice A' (ll ++ [l]).length c').ownBlock B := fun B m hm hfm h0 a ha e => by
    obtain ⟨b, o, eb, hcm⟩ := hm h0
    rcases h5 with q | q
    · rw [q] at e; exact hfm h0 a ha e
    · rw [q] at e
      obtain ⟨f, hf0⟩ : ∃ f, m[0]? = some f := ⟨_, List.getElem?_eq_getElem h0⟩
      have hl := World.block_lt_of_cell? w _ (hcm 0 f hf0).1
      rw [eb] at ha
      cases ha
      have := Option.some.inj e
      simp only at this hl
      omega
  refine ⟨A', c', w', h1, ⟨cs ++ [.slice B l.length d], h2, fun i m hi => ?_⟩, below_grown ho h3 hbase, h3⟩
  rcases Nat.lt_or_ge i ll.length with q | q
  · rw [List.getElem?_append_left q] at hi
    obtain ⟨B2, d2, k1, k2, k3⟩ := hcs i m hi
    have hcl : i < cs.length := (List.getElem?_eq_some_iff.1 k1).1
    exact ⟨B2, d2, by rw [List.getElem?_append_left hcl]; exact k1, k2.grown h3 k3, far B2 m k2 k3⟩
  · have hil : i = ll.length := by
      have := (List.getElem?_eq_some_iff.1 hi).1
      simp at this; omega
    subst hil
    rw [List.getElem?_append_right (Nat.le_refl _), Nat.sub_self] at hi
    simp at hi
    subst hi
    have hcl : cs.length = ll.length := by have := ho.1; omega
    exact ⟨B, d, by rw [List.getElem?_append_right (by omega), hcl, Nat.sub_self]; rfl, hr.grown h3 hf, far B l hr hf⟩
theorem wpList_append_l (T E : TypeId) (hT : Tryz.prog.underlying T = some (.slice E)) (hI : (Tryz.prog.info? E).map (fun i => (i.zero, i.size, i.bytes)) = some (some (.slice none 0 0), 1, 24))
    {ops : Array Oper} {rest : List Oper} {o : Oper} {a : Act} {Q : Exit → Act → World → Prop} (w : World) (hgd : o.guard = none) (s x : Operand)
    (ho : o.op = .call { callee := .builtin .append, args := #[s, x], argTypes := #[T, T] }) (base : Nat) (A : Option Addr) (c : Nat) (ll : List (List Tok)) (hs : a.eval s = .slice A ll.length c) (hown : OwnL E w base A c ll)
    (g : Nat) (B : Option Addr) (d : Nat) (l : List Tok) (hx : a.eval x = .slice (some ⟨g, 0, none⟩) 1 1) (hc : w.cell? ⟨g, 0, none⟩ = some (.slice B l.length d)) (hr : Rd w B l) (hf : 0 < l.length → Far (Value.slice A ll.length c).ownBlock B)
    (hlen : ll.length + 1 ≤ 200000) (hbase : base ≤ w.heap.size) (r : List (List Tok)) (hr0 : ll ++ [l] = r)
    (h : ∀ A' c' w', OwnL E w' base A' c' r → Below base w w' → wpList Tryz.prog ops Q rest (a.put o.dst (.slice A' r.length c')) w') : wpList Tryz.prog ops Q (o :: rest) a w := by
  subst hr0
  refine wpList_plain hgd fun K hK => ?_
  obtain ⟨A', c', w', hrun, h2, h3, _⟩ := run_append_l T E hT hI w base o.type A c ll hown g B d l hc hr hf hlen hbase
  unfold Oper.wp
  simp only [execOp, ho, resolve, invoke, builtin, Sem.run_bind, Sem.run_pure, Result.andThen_ok, List.map_toArray, List.map_cons, List.map_nil, hs, hx, hrun]
  exact hK _ _ (h A' c' w' h2 h3)
theorem Tryz.infoL35 : (Tryz.prog.info? 35).map (fun i => (i.zero, i.size, i.bytes)) = some (some (.slice none 0 0), 1, 24) := by kernel_rfl
theorem Tryz.infoL27 : (Tryz.prog.info? 27).map (fun i => (i.zero, i.size, i.bytes)) = some (some (.slice none 0 0), 1, 24) := by kernel_rfl
/-- A new list of lists of the call's own. -/
def ResL (t : TypeId) (w : World) (ll : List (List Tok)) (e : Ending) (w' : World) : Prop := ∃ A c, e = .returned (.slice A ll.length c) ∧ OwnL t w' w.heap.size A c ll ∧ Below w.heap.size w w'
theorem new_one (w : World) (a : Value) (t : TypeId) : (w.alloc (.cells #[a] t)).cell? ⟨w.heap.size, 0, none⟩ = some a := by rw [World.cell?_alloc_new]; rfl
end Go.Proofs.YtmnbepapgghdaaaGreat

namespace Go.Proofs.YtmnbepapgghdaaaGreat
open Go.RowKit

theorem quiet_draws {P : Program} {f : FuncId} {args : Array Value} {w : World} {n : Nat} {v : Value}
    (h : Calls P f args (w.drewN n) fun e w' => e = .returned v ∧ ∃ m, w' = (w.drewN n).drewN m) : Calls P f args (w.drewN n) fun e w'' => e = .returned v ∧ ∃ m, w'' = w.drewN m :=
  h.mono fun _ _ ⟨he, _, hm⟩ => ⟨he, _, hm.trans (World.drewN_drewN _ _ _)⟩
/-- A macro's name. -/
def nameB (s : By) : Bool := s.all ltr && decide (1 ≤ s.length ∧ s.length ≤ 20)
theorem name_stop {s : By} {k : Nat} {c : UInt8} (h : s[k]? = some c) (hc : ltr c = false) : nameB s = false := by
  unfold nameB
  cases hv : s.all ltr with
  | false => rfl
  | true =>
    rw [List.all_eq_true] at hv
    have := hv c (List.mem_of_getElem? h)
    rw [hc] at this; cases this
set_option maxRecDepth 100000 in
set_option maxHeartbeats 2000000 in
theorem rnamed_any (s : ByteArray) (w : World) (hs : s.size ≤ 4611686018427387904) :
    Calls Tryz.prog 108 #[.string s] w fun e w' => e = .returned (.bool (nameB s.data.toList)) ∧ w = w' := by
  obtain ⟨V, hV⟩ : ∃ V, nameB s.data.toList = V := ⟨_, rfl⟩
  rw [hV]
  have HV := Lib.hid hV
  clear hV
  go_enter Tryz.func108, Tryz.ntmps108
  go_wp2
  go_loop [3] (fun i => ∃ k : Nat, k ≤ s.size ∧ i = .int .i64 k ∧ Hid ((s.data.toList.take k).all ltr = true)) (fun i => s.size - (intOf i).toNat)
  case atStart => exact ⟨0, Nat.zero_le _, rfl, Lib.hid rfl⟩
  case round =>
    obtain ⟨k, hk, rfl, HA⟩ := hrel
    by_cases hlt : k < s.size
    · have HS := take_step s k hlt
      have hat : s.data.toList[k]? = some s[k] := List.getElem?_eq_getElem (by rw [size_list]; exact hlt)
      have hli := ltr_int s[k]
      obtain ⟨x, hx⟩ : ∃ x : Int, (s[k].toNat : Int) = x := ⟨_, rfl⟩
      rw [hx] at hli
      have i1 : (k : Int) < (s.size : Int) := by omega
      rcases ltr_ways x with ⟨h1, h2, h⟩ | ⟨h1, h⟩ | ⟨h1, h2, h⟩ | ⟨h1, h2, h⟩ | ⟨h1, h⟩
      all_goals
        rw [h] at hli
        try (have d1 : decide (x ≤ 122) = false := decide_eq_false (by omega))
        try (have d2 : decide (x ≤ 90) = false := decide_eq_false (by omega))
      · have HN := Lib.hid (show (s.data.toList.take (k + 1)).all ltr = true by rw [HS, List.all_append, HA.out]; simp [hli])
        clear HS hat hli HA h
        go_wp2
        go_round
        case rel => exact ⟨k + 1, by omega, by go_num, HN⟩
        case measure => simp [intOf]; omega
      · have HE := Lib.hid ((name_stop hat hli).symm.trans HV.out)
        clear HS hat hli HA h
        go_wp2
        go_ret
        exact ⟨ret_bool HE.out, rfl⟩
      · have HE := Lib.hid ((name_stop hat hli).symm.trans HV.out)
        clear HS hat hli HA h
        go_wp2
        go_ret
        exact ⟨ret_bool HE.out, rfl⟩
      · have HN := Lib.hid (show (s.data.toList.take (k + 1)).all ltr = true by rw [HS, List.all_append, HA.out]; simp [hli])
        clear HS hat hli HA h
        go_wp2
        go_round
        case rel => exact ⟨k + 1, by omega, by go_num, HN⟩
        case measure => simp [intOf]; omega
      · have HE := Lib.hid ((name_stop hat hli).symm.trans HV.out)
        clear HS hat hli HA h
        go_wp2
        go_ret
        exact ⟨ret_bool HE.out, rfl⟩
    · have hfin := HA.out
      rw [List.take_of_length_le (by rw [size_list]; omega)] at hfin
      have i1 : ¬ (k : Int) < (s.size : Int) := by omega
      have HE := Lib.hid (show decide (1 ≤ s.size ∧ s.size ≤ 20) = V by rw [← HV.out]; unfold nameB; rw [hfin, size_list]; simp)
      clear hfin HA
      by_cases h1 : 1 ≤ s.size
      · by_cases h2 : s.size ≤ 20
        · rw [decide_eq_true ⟨h1, h2⟩] at HE
          go_wp2
          go_ret
          exact ⟨ret_bool ((decide_eq_true (by omega)).trans HE.out), rfl⟩
        · rw [decide_eq_false (fun h => h2 h.2)] at HE
          go_wp2
          go_ret
          exact ⟨ret_bool ((decide_eq_false (by omega)).trans HE.out), rfl⟩
      · rw [decide_eq_false (fun h => h1 h.1)] at HE
        go_wp2
        go_ret
        exact ⟨ret_bool HE.out, rfl⟩
end Go.Proofs.YtmnbepapgghdaaaGreat

namespace Go.Proofs.YtmnbepapgghdaaaGreat
open Go.RowKit

/-- Where a part of a slice begins; s cells an element. -/
def cutS (s : Nat) (A : Option Addr) (c k : Nat) : Option Addr := if c = k then A else A.map (·.add (k * s))
theorem sz_run {e : TypeId} {z : Value} {s b : Nat} (h : (Tryz.prog.info? e).map (fun i => (i.zero, i.size, i.bytes)) = some (some z, s, b)) (w : World) : (sizeOf e).run Tryz.prog w = .ok s w := by
  obtain ⟨i0, hi, hz0, hz1, hz2⟩ := info_parts h
  simp [sizeOf, typeInfo, hi, hz1]
theorem part_lh (t e : TypeId) (s : Nat) (hT : Tryz.prog.underlying t = some (.slice (Tryz.prog.elem t))) (he : Tryz.prog.elem t = e) (hs : ∀ w, (sizeOf e).run Tryz.prog w = .ok s w)
    (A : Option Addr) (n c l h : Nat) (h1 : l ≤ h) (h2 : h ≤ c) (w : World) : (Instr.slice t (.slice A n c) (some (.int .i64 l)) (some (.int .i64 h)) none).run Tryz.prog w = .ok (.slice (cutS s A c l) (h - l) (c - l)) w := by
  rw [run_slice_lh (P := Tryz.prog) w t A n c hT .i64 .i64 l h (by omega) (by omega) (by omega), he, hs]
  simp [sliced, Result.andThen, cutS]
theorem part_l (t e : TypeId) (s : Nat) (hT : Tryz.prog.underlying t = some (.slice (Tryz.prog.elem t))) (he : Tryz.prog.elem t = e) (hs : ∀ w, (sizeOf e).run Tryz.prog w = .ok s w)
    (A : Option Addr) (n c l : Nat) (h1 : l ≤ n) (w : World) : (Instr.slice t (.slice A n c) (some (.int .i64 l)) none none).run Tryz.prog w = .ok (.slice (cutS s A c l) (n - l) (c - l)) w := by
  rw [run_slice_l (P := Tryz.prog) w t A n c hT .i64 l (by omega) (by omega), he, hs]
  simp [sliced, Result.andThen, cutS]
theorem part_h (t e : TypeId) (s : Nat) (hT : Tryz.prog.underlying t = some (.slice (Tryz.prog.elem t))) (he : Tryz.prog.elem t = e) (hs : ∀ w, (sizeOf e).run Tryz.prog w = .ok s w)
    (A : Option Addr) (n c h : Nat) (h2 : h ≤ c) (w : World) : (Instr.slice t (.slice A n c) none (some (.int .i64 h)) none).run Tryz.prog w = .ok (.slice A h c) w := by
  rw [run_slice_h (P := Tryz.prog) w t A n c hT .i64 h (by omega) (by omega), he, hs]
  simp [sliced, Result.andThen]
  cases A <;> simp [Addr.add]
theorem tok_part {A : Option Addr} {n c l h : Nat} (h1 : l ≤ h) (h2 : h ≤ c) (w : World) : (Instr.slice 27 (.slice A n c) (some (.int .i64 l)) (some (.int .i64 h)) none).run Tryz.prog w = .ok (.slice (cutS 2 A c l) (h - l) (c - l)) w :=
  part_lh 27 89 2 (by kernel_rfl) (by kernel_rfl) (sz_run Tryz.info89) A n c l h h1 h2 w
theorem tok_from {A : Option Addr} {n c l : Nat} (h1 : l ≤ n) (w : World) : (Instr.slice 27 (.slice A n c) (some (.int .i64 l)) none none).run Tryz.prog w = .ok (.slice (cutS 2 A c l) (n - l) (c - l)) w :=
  part_l 27 89 2 (by kernel_rfl) (by kernel_rfl) (sz_run Tryz.info89) A n c l h1 w
theorem tok_to {A : Option Addr} {n c h : Nat} (h2 : h ≤ c) (w : World) : (Instr.slice 27 (.slice A n c) none (some (.int .i64 h)) none).run Tryz.prog w = .ok (.slice A h c) w :=
  part_h 27 89 2 (by kernel_rfl) (by kernel_rfl) (sz_run Tryz.info89) A n c h h2 w
theorem rtok_part {A : Option Addr} {n c l h : Nat} (h1 : l ≤ h) (h2 : h ≤ c) (w : World) : (Instr.slice 35 (.slice A n c) (some (.int .i64 l)) (some (.int .i64 h)) none).run Tryz.prog w = .ok (.slice (cutS 2 A c l) (h - l) (c - l)) w :=
  part_lh 35 82 2 (by kernel_rfl) (by kernel_rfl) (sz_run Tryz.info82) A n c l h h1 h2 w
theorem Rd.part {w : World} {A : Option Addr} {fs : List Tok} (h : Rd w A fs) {l m c : Nat} (hm : l + m ≤ fs.length) (hc : fs.length ≤ c) : Rd w (cutS 2 A c l) ((fs.drop l).take m) := fun h0 => by
  have hl : 0 < m := by
    rw [List.length_take] at h0; omega
  obtain ⟨b, o, rfl, hcell⟩ := h (by omega)
  unfold cutS
  rw [if_neg (by omega), Option.map_some, add_lit]
  refine ⟨b, o + l * 2, rfl, fun i f hi => ?_⟩
  have hi2 : fs[l + i]? = some f := by
    rw [List.getElem?_take] at hi
    split at hi
    · rw [List.getElem?_drop] at hi; exact hi
    · cases hi
  obtain ⟨h1, h2⟩ := hcell _ f hi2
  rw [show o + l * 2 + i * 2 = o + (l + i) * 2 by omega]
  exact ⟨h1, h2⟩
theorem Rd.take {w : World} {A : Option Addr} {fs : List Tok} (h : Rd w A fs) (m : Nat) : Rd w A (fs.take m) := fun h0 => by
  obtain ⟨b, o, rfl, hcell⟩ := h (by rw [List.length_take] at h0; omega)
  refine ⟨b, o, rfl, fun i f hi => ?_⟩
  rw [List.getElem?_take] at hi
  split at hi
  · exact hcell i f hi
  · cases hi

/-- Numbers in a block. -/
def RdI (w : World) (g : Nat) (ks : List Int) : Prop := ∀ i k, ks[i]? = some k → w.cell? ⟨g, i, none⟩ = some (.int .i64 k)
/-- A place, or a number below none. -/
def IdxPost (b : Bool) (w : World) (e : Ending) (w' : World) : Prop := (∃ v : Int, e = .returned (.int .i64 v) ∧ decide (0 ≤ v) = b) ∧ w = w'
set_option maxRecDepth 100000 in
set_option maxHeartbeats 1000000 in
theorem sindex_any (g n : Nat) (ks : List Int) (x : Int) (w : World) (hr : Hid (RdI w g ks)) (hn : n = ks.length) (hl : ks.length ≤ 1000) :
    Calls Tryz.prog 132 #[.slice (some ⟨g, 0, none⟩) n n, .int .i64 x] w (IdxPost (decide (x ∈ ks)) w) := by
  subst hn
  go_enter Tryz.func132, Tryz.ntmps132
  go_wp2
  go_loop [8] (fun i => ∃ k : Nat, k ≤ ks.length ∧ i = .int .i64 k ∧ Hid (x ∉ ks.take k)) (fun i => ks.length - (intOf i).toNat)
  case atStart => exact ⟨0, Nat.zero_le _, rfl, Lib.hid (by simp)⟩
  case round =>
    obtain ⟨k, hk, rfl, HX⟩ := hrel
    by_cases hlt : k < ks.length
    · obtain ⟨y, hy⟩ : ∃ y, ks[k]? = some y := ⟨_, List.getElem?_eq_getElem hlt⟩
      have c1 := hr.out k y hy
      have i1 : (k : Int) < (ks.length : Int) := by omega
      by_cases hxy : x = y
      · have HI := Lib.hid (show x ∈ ks by rw [hxy]; exact List.mem_of_getElem? hy)
        have q : (x == y) = true := by simpa using hxy
        clear hy HX hxy
        go_wp2
        go_ret
        exact ⟨⟨k, rfl, by rw [decide_eq_true HI.out]; exact decide_eq_true (by omega)⟩, rfl⟩
      · have HN := Lib.hid (show x ∉ ks.take (k + 1) by
          rw [at_take hy, List.mem_append]
          rintro (h | h)
          · exact HX.out h
          · simp at h; exact hxy h)
        have q : (x == y) = false := by simpa using hxy
        clear hy HX hxy
        go_wp2
        go_round
        case rel => exact ⟨k + 1, by omega, by go_num, HN⟩
        case measure => simp [intOf]; omega
    · have hfin := HX.out
      rw [List.take_of_length_le (by omega)] at hfin
      have HF := Lib.hid hfin
      have i1 : ¬ (k : Int) < (ks.length : Int) := by omega
      clear HX hfin
      go_wp2
      go_ret
      exact ⟨⟨-1, rfl, by rw [decide_eq_false HF.out]; rfl⟩, rfl⟩
set_option maxRecDepth 100000 in
set_option maxHeartbeats 1000000 in
theorem scont_any (g n : Nat) (ks : List Int) (x : Int) (w : World) (hr : Hid (RdI w g ks)) (hn : n = ks.length) (hl : ks.length ≤ 1000) :
    Calls Tryz.prog 127 #[.slice (some ⟨g, 0, none⟩) n n, .int .i64 x] w fun e w' => e = .returned (.bool (decide (x ∈ ks))) ∧ w = w' := by
  have C := Lib.hid (sindex_any g n ks x w hr hn hl)
  generalize decide (x ∈ ks) = b at *
  clear hr hn hl
  go_enter Tryz.func127, Tryz.ntmps127
  go_wp2_with fail
  refine C.out.mono ?_
  rintro e w' ⟨⟨v, rfl, hv⟩, rfl⟩
  have HV := Lib.hid hv
  clear hv
  go_wp2
  go_ret
  exact ⟨ret_bool (by first | exact HV.out | (rw [← HV.out]; rfl)), rfl⟩
theorem RdI.below {w w' : World} {g : Nat} {ks : List Int} (h : RdI w g ks) (hb : Below w.heap.size w w') : RdI w' g ks := fun i k hi => cell_below hb (h i k hi)
set_option maxRecDepth 100000 in
set_option maxHeartbeats 1000000 in
theorem is_any (κ : Int) (z : ByteArray) (g n : Nat) (ks : List Int) (w : World) (hr : RdI w g ks) (hn : n = ks.length) (hl : ks.length ≤ 1000) :
    Calls Tryz.prog 115 #[.agg #[.int .i64 κ, .string z], .slice (some ⟨g, 0, none⟩) n n] w fun e w' => e = .returned (.bool (decide (κ ∈ ks))) ∧ Below w.heap.size w w' := by
  have hb := one_below w (.cells #[.int .i64 κ, .string z] 89)
  have C := Lib.hid (scont_any g n ks κ (w.alloc (.cells #[.int .i64 κ, .string z] 89)) (Lib.hid (hr.below hb)) hn hl)
  have HB := Lib.hid hb
  generalize decide (κ ∈ ks) = b at *
  clear hr hn hl hb
  go_enter Tryz.func115, Tryz.ntmps115
  go_wp2_with fail
  refine C.out.mono ?_
  rintro e w' ⟨rfl, rfl⟩
  go_wp2
  go_ret
  exact ⟨rfl, HB.out⟩
set_option maxRecDepth 100000 in
theorem is1_any (κ : Int) (z : ByteArray) (k : Int) (t : TypeId) (b : Bool) (hb : decide (κ = k) = b) (w : World) :
    Calls Tryz.prog 115 #[.agg #[.int .i64 κ, .string z], .slice (some ⟨w.heap.size, 0, none⟩) 1 1] (w.alloc (.cells #[.int .i64 k] t)) fun e w' => e = .returned (.bool b) ∧ Below w.heap.size w w' := by
  refine (is_any κ z w.heap.size 1 [k] (w.alloc (.cells #[.int .i64 k] t)) (fun i y hi => ?_) rfl (by simp)).mono ?_
  · match i, hi with
    | 0, hi => simp at hi; subst hi; exact new_one _ _ _
    | i + 1, hi => simp at hi
  · rintro e w' ⟨rfl, h⟩
    refine ⟨by rw [← hb]; simp, bch (one_below w _) h⟩
set_option maxRecDepth 100000 in
theorem is2_any (κ : Int) (z : ByteArray) (k j : Int) (t : TypeId) (b : Bool) (hb : decide (κ = k ∨ κ = j) = b) (w : World) :
    Calls Tryz.prog 115 #[.agg #[.int .i64 κ, .string z], .slice (some ⟨w.heap.size, 0, none⟩) 2 2] (w.alloc (.cells #[.int .i64 k, .int .i64 j] t)) fun e w' => e = .returned (.bool b) ∧ Below w.heap.size w w' := by
  refine (is_any κ z w.heap.size 2 [k, j] (w.alloc (.cells #[.int .i64 k, .int .i64 j] t)) (fun i y hi => ?_) rfl (by simp)).mono ?_
  · match i, hi with
    | 0, hi => simp at hi; subst hi; exact new_fst _ _ _ _
    | 1, hi => simp at hi; subst hi; exact new_snd _ _ _ _
    | i + 2, hi => simp at hi
  · rintro e w' ⟨rfl, h⟩
    refine ⟨by rw [← hb]; simp, bch (one_below w _) h⟩
set_option maxRecDepth 100000 in
theorem place_any (A : Option Addr) (c n : Nat) (x : Int) (w : World) (_hl : n ≤ 200000) :
    Calls Tryz.prog 112 #[.slice A n c, .int .i64 x] w fun e w' => e = .returned (.bool (decide (0 ≤ x ∧ x ≤ n))) ∧ w = w' := by
  by_cases h1 : 0 ≤ x
  · by_cases h2 : x ≤ n
    · rw [decide_eq_true ⟨h1, h2⟩]
      go_enter Tryz.func112, Tryz.ntmps112
      go_wp2
      go_ret
      exact ⟨rfl, rfl⟩
    · rw [decide_eq_false (fun h => h2 h.2)]
      go_enter Tryz.func112, Tryz.ntmps112
      go_wp2
      go_ret
      exact ⟨rfl, rfl⟩
  · rw [decide_eq_false (fun h => h1 h.1)]
    go_enter Tryz.func112, Tryz.ntmps112
    go_wp2
    go_ret
    exact ⟨rfl, rfl⟩
set_option maxRecDepth 100000 in
set_option maxHeartbeats 2000000 in
theorem skip_any (A : Option Addr) (c : Nat) (ts : List Tok) (a : Nat) (w : World) (hr : Rd w A ts) (hl : ts.length ≤ 200000) (ha : a ≤ ts.length) :
    Calls Tryz.prog 113 #[.slice A ts.length c, .int .i64 a] w fun e w' => e = .returned (.int .i64 (skipN ts a)) ∧ Below w.heap.size w w' := by
  obtain ⟨N, hN⟩ : ∃ N, skipN ts a = N := ⟨_, rfl⟩
  rw [hN]
  have HN := Lib.hid hN
  clear hN
  have hb0 := Below.refl w.heap.size w
  go_enter Tryz.func113, Tryz.ntmps113
  go_wp2
  go_loopw [1] (fun i wr => ∃ k : Nat, k ≤ ts.length ∧ i = .int .i64 k ∧ Hid (skipN ts k = N) ∧ Below w.heap.size w wr) (fun i _ => ts.length - (intOf i).toNat)
  case atStart => exact ⟨a, ha, rfl, HN, hb0⟩
  case round =>
    obtain ⟨k, hk, rfl, HK, hb⟩ := hrel
    clear hb0
    by_cases hlt : k < ts.length
    · obtain ⟨b, o, rfl, hcell⟩ := (hr.below hb) (by omega)
      obtain ⟨f, hf⟩ : ∃ f, ts[k]? = some f := ⟨_, List.getElem?_eq_getElem hlt⟩
      obtain ⟨c1, c2⟩ := hcell k f hf
      have i1 : (k : Int) < (ts.length : Int) := by omega
      by_cases h2 : f.1 = 2
      · have HS := Lib.hid ((skip_step hf h2).symm.trans HK.out)
        have C := Lib.hid (is1_any f.1 ⟨f.2.toArray⟩ 2 3 true (decide_eq_true h2) wr)
        clear hf hcell h2 HK
        go_wp2_with fail
        refine C.out.mono ?_
        rintro e w1 ⟨rfl, hb1⟩
        have hb2 := bch hb hb1
        clear hb hb1 c1 c2
        go_wp2
        go_roundw
        case rel => exact ⟨k + 1, by omega, by go_num, HS, hb2⟩
        case measure => simp [intOf]; omega
      · have HS := Lib.hid ((skip_stop hf h2).symm.trans HK.out)
        have C := Lib.hid (is1_any f.1 ⟨f.2.toArray⟩ 2 3 false (decide_eq_false h2) wr)
        clear hf hcell h2 HK
        go_wp2_with fail
        refine C.out.mono ?_
        rintro e w1 ⟨rfl, hb1⟩
        have hb2 := bch hb hb1
        clear hb hb1 c1 c2
        go_wp2
        go_ret
        exact ⟨ret_eq (int_eq (by have := HS.out; omega)), hb2⟩
    · have HS := Lib.hid ((skip_end (by omega)).symm.trans HK.out)
      have i1 : ¬ (k : Int) < (ts.length : Int) := by omega
      clear HK
      go_wp2
      go_ret
      exact ⟨ret_eq (int_eq (by have := HS.out; omega)), hb⟩
set_option maxRecDepth 100000 in
set_option maxHeartbeats 1000000 in
theorem word7_any (A : Option Addr) (c : Nat) (ts : List Tok) (w : World) (hr : Rd w A ts) (hl : ts.length ≤ 200000) :
    Calls Tryz.prog 94 #[.slice A ts.length c] w fun e w' => e = .returned (.tuple #[.string ⟨(wordE ts).1.toArray⟩, .bool (wordE ts).2]) ∧ Below w.heap.size w w' := by
  by_cases h1 : ts.length = 1
  · match ts, h1 with
    | [t], _ =>
      obtain ⟨b, o, rfl, hcell⟩ := hr (by simp)
      obtain ⟨c1, c2⟩ := hcell 0 t rfl
      have d1 : w.cell? ⟨b, o, none⟩ = some (.int .i64 t.1) := by simpa using c1
      have d2 : w.cell? ⟨b, o + 1, none⟩ = some (.string ⟨t.2.toArray⟩) := by simpa using c2
      clear hcell hr hl
      by_cases ht : t.1 = 1
      · have HE := Lib.hid (show wordE [t] = (t.2, true) by simp [wordE, ht])
        obtain ⟨k, z⟩ := t
        simp only at c2 d2 HE c1 d1 ht
        have C := Lib.hid (is1_any k ⟨z.toArray⟩ 1 3 true (decide_eq_true ht) w)
        clear ht
        generalize hts : wordE [(k, z)] = v at *
        go_enter Tryz.func94, Tryz.ntmps94
        go_wp2_with fail
        refine C.out.mono ?_
        rintro e w1 ⟨rfl, hb1⟩
        have e2 := cell_below hb1 d2
        have e1 := cell_below hb1 c2
        clear c1 c2 d1 d2
        go_wp2
        go_ret2
        rw [HE.out]
        exact ⟨rfl, hb1⟩
      · have HE := Lib.hid (show wordE [t] = ([], false) by simp [wordE, ht])
        obtain ⟨k, z⟩ := t
        simp only at c1 d1 c2 d2 HE ht
        have C := Lib.hid (is1_any k ⟨z.toArray⟩ 1 3 false (decide_eq_false ht) w)
        clear ht
        generalize hts : wordE [(k, z)] = v at *
        go_enter Tryz.func94, Tryz.ntmps94
        go_wp2_with fail
        refine C.out.mono ?_
        rintro e w1 ⟨rfl, hb1⟩
        clear c1 c2 d1 d2
        go_wp2
        go_ret2
        rw [HE.out]
        exact ⟨rfl, hb1⟩
  · rw [wordE_len h1]
    have q : ((ts.length : Int) != 1) = true := by simp; omega
    have q' : ((ts.length : Int) == 1) = false := by rw [beq_eq_false_iff_ne]; omega
    clear hr h1
    go_enter Tryz.func94, Tryz.ntmps94
    go_wp2
    go_ret2
    exact ⟨rfl, Below.refl _ _⟩
theorem own_nil (t : TypeId) (w : World) (base : Nat) : Own t w base none 0 [] := ⟨rfl, .inl ⟨rfl, rfl⟩⟩
set_option maxRecDepth 100000 in
set_option maxHeartbeats 1000000 in
theorem fresh_any (A : Option Addr) (n c : Nat) (ts : List Tok) (w : World) (hr : Rd w A ts) (hn : n = ts.length) (hl : ts.length ≤ 200000) :
    Calls Tryz.prog 98 #[.slice A n c] w (Res 89 w ts) := by
  have HO := Lib.hid (own_nil 89 w w.heap.size)
  have HR := Lib.hid hr
  have HN := Lib.hid hn
  clear hr hn
  go_enter Tryz.func98, Tryz.ntmps98
  go_wp2_with (at_builtin; refine wpList_append_rdn37 _ rfl _ _ rfl w.heap.size _ [] rfl HO.out A n c ts HN.out rfl HR.out (by simpa using hl) (Nat.le_refl _) ts rfl ?_; intro N2 nc2 w3 hown2 hb3)
  go_ret
  exact ⟨N2, nc2, rfl, hown2, hb3⟩
end Go.Proofs.YtmnbepapgghdaaaGreat

/-
  Append of a write onto a row of writes of one's own; the contract of Write.
-/
import Derived.Test.YtmggpockikcjjaaGreatDoorDC
import Derived.Deep.RegionLaw
import Derived.Deep.RegionHeld3
import Derived.StillTailTactics
namespace Go.Proofs.YtmggpockikcjjaaGreatDoor.Dsk
open Go.RowKit

theorem inf67 : (Tryz.prog.info? 75).map (fun i => (i.zero, i.size, i.bytes)) = some (some (.agg #[.int .i64 0, .string ⟨#[]⟩]), 2, 24) := by kernel_rfl
theorem inf9 : (Tryz.prog.info? 9).map (fun i => (i.zero, i.size, i.bytes)) = some (some (.string ⟨#[]⟩), 1, 16) := by kernel_rfl
theorem inf3 : (Tryz.prog.info? 3).map (fun i => (i.zero, i.size, i.bytes)) = some (some (.int .i64 0), 1, 8) := by kernel_rfl
theorem inf4 : (Tryz.prog.info? 4).map (fun i => (i.zero, i.size, i.bytes)) = some (some (.bool false), 1, 1) := by kernel_rfl

theorem op_append_w {o : Oper} {a : Act} {K : Act → World → Prop} {Q : Exit → Act → World → Prop} (w : World) (s x : Operand)
    (ho : o.op = .call { callee := .builtin .append, args := #[s, x], argTypes := #[67, 67] }) (A : Option Addr) (k c : Nat) (p : List Wt) (hk : k = p.length) (hs : a.eval s = .slice A k c) (hown : OwnW w A c p)
    (b : Nat) (y : Wt) (hx : a.eval x = .slice (some ⟨b, 0, none⟩) 1 1) (h1 : w.cell? ⟨b, 0, none⟩ = some (.int .i64 y.1)) (h2 : w.cell? ⟨b, 1, none⟩ = some (.string ⟨y.2.toArray⟩)) (hlen : p.length + 1 ≤ 200000) (r : List Wt) (hr0 : p ++ [y] = r)
    (h : ∀ A' c' w', OwnW w' A' c' r → w.grownBy w' (rowB A) → (∀ g, rowB A' = some g → rowB A = some g ∨ w.heap.size = g) → K (a.put o.dst (.slice A' r.length c')) w') : Oper.wp Tryz.prog o a w K Q := by
  subst hk
  obtain ⟨i0, hi, hz0, hz1, hz2⟩ := info_parts inf67
  have hob : (Value.slice A p.length c).ownBlock = rowB A := by cases A <;> rfl
  refine wp_append_lies w s x 67 ho 0 75 i0 _ 2 24 Tryz.underlying67 hi hz0 hz1 hz2 rfl (by decide) _ p.length (wcells p) hs hown ⟨b, 0, none⟩ 1 1 [.int .i64 y.1, .string ⟨y.2.toArray⟩] hx rfl ?_ ?_ (by decide) (by unfold maxLen; omega) (by omega) (Nat.zero_le _) w.heap.size rfl ?_
  · intro j u hj
    match j, hj with
    | 0, hj => simp at hj; subst hj; simpa [Addr.add] using h1
    | 1, hj => simp at hj; subst hj; simpa [Addr.add] using h2
    | j + 2, hj => simp at hj
  · intro u hu
    simp at hu
    rcases hu with rfl | rfl <;> rfl
  · intro g cap w' hown' hgrow hlies _
    have e1 : p.length + 1 = r.length := by rw [← hr0]; simp
    have e2 : wcells p ++ [.int .i64 y.1, .string ⟨y.2.toArray⟩] = wcells r := by rw [← hr0, wcells_app]; rfl
    rw [e1] at hown' ⊢
    rw [e2] at hown'
    rw [hob] at hgrow hlies
    refine h _ _ _ hown' hgrow (fun q hq => ?_)
    simp [rowB] at hq
    subst hq
    rcases hlies with q | q
    · exact .inl q
    · exact .inr q.symm
theorem step_append_w {ops : Array Oper} {o : Oper} {a : Act} {K : Act → World → Prop} {Q : Exit → Act → World → Prop} {E : Prop} (w : World) (hgd : o.guard = none) (s x : Operand)
    (ho : o.op = .call { callee := .builtin .append, args := #[s, x], argTypes := #[67, 67] }) (A : Option Addr) (k c : Nat) (p : List Wt) (hk : k = p.length) (hs : a.eval s = .slice A k c) (hown : OwnW w A c p)
    (b : Nat) (y : Wt) (hx : a.eval x = .slice (some ⟨b, 0, none⟩) 1 1) (h1 : w.cell? ⟨b, 0, none⟩ = some (.int .i64 y.1)) (h2 : w.cell? ⟨b, 1, none⟩ = some (.string ⟨y.2.toArray⟩)) (hlen : p.length + 1 ≤ 200000) (r : List Wt) (hr0 : p ++ [y] = r)
    (h : ∀ A' c' w', OwnW w' A' c' r → w.grownBy w' (rowB A) → (∀ g, rowB A' = some g → rowB A = some g ∨ w.heap.size = g) → K (a.put o.dst (.slice A' r.length c')) w') : if Region.wanted o (yielded ops a.tmps) = true then Oper.wp Tryz.prog o a w K Q else E := by
  have hw : Region.wanted o (yielded ops a.tmps) = true := by simp [Region.wanted, hgd]
  rw [if_pos hw]
  exact op_append_w w s x ho A k c p hk hs hown b y hx h1 h2 hlen r hr0 h
theorem wpList_append_w {ops : Array Oper} {rest : List Oper} {o : Oper} {a : Act} {Q : Exit → Act → World → Prop} (w : World) (hgd : o.guard = none) (s x : Operand)
    (ho : o.op = .call { callee := .builtin .append, args := #[s, x], argTypes := #[67, 67] }) (A : Option Addr) (k c : Nat) (p : List Wt) (hk : k = p.length) (hs : a.eval s = .slice A k c) (hown : OwnW w A c p)
    (b : Nat) (y : Wt) (hx : a.eval x = .slice (some ⟨b, 0, none⟩) 1 1) (h1 : w.cell? ⟨b, 0, none⟩ = some (.int .i64 y.1)) (h2 : w.cell? ⟨b, 1, none⟩ = some (.string ⟨y.2.toArray⟩)) (hlen : p.length + 1 ≤ 200000) (r : List Wt) (hr0 : p ++ [y] = r)
    (h : ∀ A' c' w', OwnW w' A' c' r → w.grownBy w' (rowB A) → (∀ g, rowB A' = some g → rowB A = some g ∨ w.heap.size = g) → wpList Tryz.prog ops Q rest (a.put o.dst (.slice A' r.length c')) w') : wpList Tryz.prog ops Q (o :: rest) a w := by
  refine wpList_plain hgd fun K hK => ?_
  exact op_append_w w s x ho A k c p hk hs hown b y hx h1 h2 hlen r hr0 (fun A' c' w' q1 q2 q3 => hK _ _ (h A' c' w' q1 q2 q3))

theorem Dk.kp {w w' : World} {s : Nat} {F G : Nat → Prop} {st : DS} {set : Bool} {left : Int} {m1 m2 : Nat} {A : Option Addr} {c : Nat} {f1 f2 : Nat → Option Tx} {N1 N2 : Nat} (d : Dk w s F st set left m1 m2 A c f1 f2 N1 N2) (hk : Kp G w w') (hf : ∀ x, F x → ¬ G x) : Dk w' s F st set left m1 m2 A c f1 f2 N1 N2 :=
  ⟨hk.keep d.blk (hf _ d.F0), d.lim, d.l1, d.l2, d.syn.kp hk (hf _ d.F1), d.ahd.kp hk (hf _ d.F2), d.ne, d.bs, d.la, d.own.kp hk (fun b hb => hf _ (d.F3 b hb)), d.F0, d.F1, d.F2, d.F3, d.n1, d.n2, d.ok⟩
def NoB : Nat → Prop := fun _ => False
theorem Dk.map_ne {w : World} {s : Nat} {F : Nat → Prop} {st : DS} {set : Bool} {left : Int} {m1 m2 : Nat} {A : Option Addr} {c : Nat} {f1 f2 : Nat → Option Tx} {N1 N2 : Nat} (d : Dk w s F st set left m1 m2 A c f1 f2 N1 N2) : (¬ (rowB A = some m1 ∨ m1 = s)) ∧ ¬ (rowB A = some m2 ∨ m2 = s) := by
  refine ⟨fun h => ?_, fun h => ?_⟩
  · rcases h with h | h
    · obtain ⟨_, cur, q, _⟩ := OwnR.block d.own h
      exact d.syn.ne_cells q rfl
    · exact d.syn.ne_cells d.blk h
  · rcases h with h | h
    · obtain ⟨_, cur, q, _⟩ := OwnR.block d.own h
      exact d.ahd.ne_cells q rfl
    · exact d.ahd.ne_cells d.blk h
theorem last_push {f : Nat → Option Tx} {p r : List Wt} {i : Nat} {t : Tx} (h : ∀ k, f k = lastOf p k) (hr : p ++ [(i, t)] = r) (k : Nat) : (if i = k then some t else f k) = lastOf r k := by
  rw [← hr, lastOf_snoc, h k]
theorem kno (w : World) : Kp NoB w w := Kp.refl _ _

set_option maxRecDepth 100000 in
set_option maxHeartbeats 2000000 in
theorem write_yes (i s : Nat) (t : Tx) (F : Nat → Prop) (st : DS) (w : World) (h : DiskAt w s F st) (hi : i < st.n) (ht : t.length ≤ 64) (hl : liveB st = true) (hcnt : st.cnt < 1000) :
    Calls Tryz.prog 43 #[.pointer (some ⟨s, 0, none⟩), .int .i64 i, .string ⟨t.toArray⟩] w (DPost w s F (pushS (usedS st) i t) (.int .i64 0)) := by
  have C2 := Lib.hid (use_disk s F st w h)
  rw [hl, if_pos rfl] at C2
  have C1 : Hid (Calls Tryz.prog 59 #[.pointer (some ⟨s, 0, none⟩), .int .i64 i] w fun e w' => e = .returned (.bool true) ∧ w' = w) := by
    obtain ⟨set, left, m1, m2, A, c, f1, f2, N1, N2, d⟩ := h
    obtain ⟨⟨_, _, c2, _, _, _⟩, _⟩ := dcell d.blk
    have := has_any i s st.n w c2
    rw [show (decide (0 ≤ (i : Int)) && decide ((i : Int) < st.n)) = true by simp; omega] at this
    exact this
  clear h
  have e64 : ¬ (64 : Int) < (t.length : Int) := by omega
  go_enter Tryz.func43, Tryz.ntmps43
  go_wp2_with fail
  refine C1.out.mono ?_
  rintro e w0 ⟨rfl, rfl⟩
  go_wp2_with fail
  refine C2.out.mono ?_
  rintro e w1 ⟨rfl, hk, F1, hd, hF⟩
  have HK := Lib.hid (And.intro hk hF)
  obtain ⟨set, left, m1, m2, A, c, f1, f2, N1, N2, d⟩ := hd
  obtain ⟨⟨-, -, -, -, c4, c5⟩, f⟩ := dcell d.blk
  have f5 := f 5
  have hsz := lt_of_blk d.blk
  obtain ⟨w2, hw2⟩ : ∃ w2, w1.alloc (.cells #[.int .i64 i, .string ⟨t.toArray⟩] 75) = w2 := ⟨_, rfl⟩
  have n0 : w2.cell? ⟨w1.heap.size, 0, none⟩ = some (.int .i64 i) := by rw [← hw2]; exact cell_of (blk_new _ _) 0
  have n1 : w2.cell? ⟨w1.heap.size, 1, none⟩ = some (.string ⟨t.toArray⟩) := by rw [← hw2]; exact cell_of (blk_new _ _) 1
  have hs2 : w2.heap.size = w1.heap.size + 1 := by rw [← hw2]; simp
  have k12 : Kp NoB w1 w2 := by rw [← hw2]; exact (kno w1).alloc _
  have HA := Lib.hid (fun b (hb : rowB A = some b) => OwnR.lt d.own hb)
  have d2 := d.kp k12 (fun _ _ h => h)
  obtain ⟨⟨-, -, -, -, c4', c5'⟩, f'⟩ := dcell d2.blk
  have f5' := f' 5
  have D := Lib.hid d2
  have K12 := Lib.hid k12
  have HS2 := Lib.hid hs2
  generalize hg : w1.heap.size = g at *
  have HG := Lib.hid hg
  rw [show (usedS st).pend = st.pend from rfl] at c5 c5'
  obtain ⟨k, hkk⟩ : ∃ k, st.pend.length = k := ⟨_, rfl⟩
  rw [hkk] at c5 c5'
  have HKK := Lib.hid hkk
  clear hk hF d f C1 C2 d2 k12 hs2 hg hkk
  go_wp2_with fail
  rw [HG.out]
  clear hw2 c4 c5 f5 f'
  obtain ⟨r, hr⟩ : ∃ r, st.pend ++ [(i, t)] = r := ⟨_, rfl⟩
  have HR := Lib.hid hr
  have HL : Hid (st.pend.length + 1 ≤ 200000) := by have := D.out.ok.len; have := D.out.ok.cnt; exact (by simp [usedS] at *; omega : st.pend.length + 1 ≤ 200000)
  clear hr
  have hs2 := lt_of_blk D.out.blk
  go_region_law ((refine step_append_w _ (by rfl) _ _ (by rfl) A k c st.pend HKK.out.symm (by rfl) ((D.out.own.kp ((kno w2).drewN _) (fun _ _ h => h)).kp ((kno _).alloc _) (fun _ _ h => h)) w2.heap.size (i, t) (by rfl) (cell_of (blk_new _ _) 0) (cell_of (blk_new _ _) 1) HL.out r HR.out ?_; intro A1 d1 w3 hown1 hg1 hl1; have kk : Kp (fun x => rowB A = some x) w2 w3 := (((kno w2).drew.alloc _).mono (fun _ h => h.elim)).grown hg1 (fun _ hk => .inl hk); have b3 := kk.keep D.out.blk (fun e => D.out.row_ne e rfl); have c53 := (dcell b3).1.2.2.2.2.2; have f53 := (dcell b3).2 5))
  all_goals
    have kk4 : Kp (fun x => rowB A = some x ∨ x = s) w2 (w3.setCell ⟨s, 5, none⟩ (.slice A1 r.length d1)) := (kk.mono (fun _ h => .inl h)).setCell (p := ⟨s, 5, none⟩) (.inl (.inr rfl)) _
    have b4 : (w3.setCell ⟨s, 5, none⟩ (.slice A1 r.length d1)).heap[s]? = some (.cells (dcells set left st.n m1 m2 A1 r.length d1) 73) := blk_set b3 5 _
    have hown4 : OwnW (w3.setCell ⟨s, 5, none⟩ (.slice A1 r.length d1)) A1 d1 r := OwnR.kp (F := (· = s)) hown1 ((Kp.refl (· = s) w3).setCell (p := ⟨s, 5, none⟩) (.inl rfl) _) (fun b hb e => by
      subst e
      obtain ⟨_, cur, q, _⟩ := OwnR.block hown1 hb
      rw [b3] at q; simp at q)
    have hl4 : ∀ b, rowB A1 = some b → rowB A = some b ∨ w2.heap.size ≤ b := fun b hb => by
      rcases hl1 b hb with q | q
      · exact .inl q
      · exact .inr (by rw [← q]; simp)
    generalize w3.setCell ⟨s, 5, none⟩ (.slice A1 r.length d1) = w4 at *
    have c44 := (dcell b4).1.2.2.2.2.1
    have hne : ¬ (rowB A = some g ∨ g = s) := fun h => by
      rcases h with h | h
      · have := HA.out g h; omega
      · omega
    have hgl : g < w2.heap.size := by rw [HS2.out]; omega
    have n04 : w4.cell? ⟨g, 0, none⟩ = some (.int .i64 i) := (World.cell?_of_block (kk4.block g hgl hne)).trans n0
    have n14 : w4.cell? ⟨g, 1, none⟩ = some (.string ⟨t.toArray⟩) := (World.cell?_of_block (kk4.block g hgl hne)).trans n1
    have mm : MapIs w4 m2 N2 f2 := D.out.ahd.kp kk4 D.out.map_ne.2
    have hn2 : N2 ≤ 100000 := by have := D.out.n2; have := D.out.ok.cnt; omega
    have i4 : i < 4096 := by have := D.out.ok.n; have e : (usedS st).n = st.n := rfl; omega
    have H4 := Lib.hid (And.intro kk4 (And.intro b4 (And.intro hown4 hl4)))
    have M4 := Lib.hid mm
    have HN := Lib.hid hne
    clear kk4 b4 hown4 hl4 mm hl1 hown1 hg1 kk b3 c53 f53 c4' f5' n0 n1 c5' hs2 hne
    go_wp2_with fail
    go_still_tail 5, (by kernel_rfl)
    change wpList _ _ _ _ _ w4.drew
    have kd : Kp NoB w4 w4.drew := (kno w4).drew
    have KD := Lib.hid kd
    have M5 : Hid (MapIs w4.drew m2 N2 f2) := M4.out.kp kd (fun h => h)
    clear kd
    generalize w4.drew = w5 at *
    go_wp2_with fail
    refine (put_any m2 N2 i t f2 w5 M5.out i4 ht hn2).mono ?_
    rintro e w6 ⟨rfl, hm6, hk6⟩
    have H6 := Lib.hid (And.intro hm6 hk6)
    clear hm6 hk6 c44 n04 n14
    go_wp2
    go_ret
    obtain ⟨q1, q2, q3, q4⟩ := H4.out
    obtain ⟨p1, p2⟩ := HK.out
    obtain ⟨m6, k6⟩ := H6.out
    have d := D.out
    have k46 : Kp (· = m2) w4 w6 := (KD.out.mono (fun _ h => h.elim)).trans k6 (fun _ _ h => h)
    have k26 : Kp F1 w2 w6 := (q1.mono (fun x hx => by rcases hx with hx | rfl; exact d.F3 x hx; exact d.F0)).trans k46 (fun x _ hx => by subst hx; exact d.F2)
    have k16 : Kp F1 w1 w6 := (K12.out.mono (fun _ h => h.elim)).trans k26 (fun _ _ h => h)
    have s01 := p1.size
    refine ⟨rfl, p1.trans k16 (fun x hx h1 => by rcases p2 x h1 with q | q; exact q; omega), fun x => F1 x ∨ w1.heap.size ≤ x, ?_, fun x hx => ?_⟩
    · have sm : ¬ s = m2 := fun e => d.map_ne.2 (.inr e.symm)
      have e1 : (pushS (usedS st) i t).pend = r := HR.out
      refine ⟨set, left, m1, m2, A1, d1, f1, fun j => if i = j then some t else f2 j, N1, N2 + 1, ?_, d.lim, d.l1, d.l2, ?_, m6, d.ne, d.bs, fun j => ?_, ?_, .inl d.F0, .inl d.F1, .inl d.F2, fun b hb => ?_, ?_, Nat.succ_le_succ d.n2, d.ok.push hi ht hcnt⟩
      · rw [e1]; exact k46.keep q2 sm
      · exact (d.syn.kp q1 d.map_ne.1).kp k46 d.ne
      · rw [e1]; exact last_push d.la HR.out j
      · rw [e1]
        refine OwnR.kp q3 k46 (fun b hb e => ?_)
        subst e
        obtain ⟨_, cur, q, _⟩ := OwnR.block q3 hb
        obtain ⟨es, ck, hq⟩ := M4.out.block
        rw [q] at hq; cases hq
      · rcases q4 b hb with q | q
        · exact .inl (d.F3 b q)
        · exact .inr (by have := K12.out.size; omega)
      · rw [e1, ← HR.out]
        have h1 := d.n1
        have e2 : (usedS st).pend = st.pend := rfl
        have e3 : (usedS st).cnt = st.cnt := rfl
        have e4 : (pushS (usedS st) i t).cnt = st.cnt + 1 := rfl
        rw [e2, e3] at h1
        rw [e4, List.length_append]
        simp
        omega
    · rcases hx with hx | hx
      · exact p2 x hx
      · exact .inr (by omega)
end Go.Proofs.YtmggpockikcjjaaGreatDoor.Dsk

/-
  Contracts of the document's disk: New, use, Limit, Read, Write.
-/
import Derived.Test.YtnfnbbipmempjaaJ
namespace Go.Proofs.Ytnfnbbipmempjaa
open Go.RowKit

theorem rcell {w : World} {b n cL k cW cV : Nat} {left : Int} {L W V : Option Addr} (h : w.heap[b]? = some (.cells (rcells L W V n cL k cW cV left) 40)) :
    (w.cell? ⟨b, 0, none⟩ = some (.slice L n cL) ∧ w.cell? ⟨b, 1, none⟩ = some (.slice W k cW) ∧ w.cell? ⟨b, 2, none⟩ = some (.slice V k cV) ∧ w.cell? ⟨b, 3, none⟩ = some (.int .i64 left)) ∧ ∀ i, w.frozen? ⟨b, i, none⟩ = false :=
  ⟨⟨cell_of h 0, cell_of h 1, cell_of h 2, cell_of h 3⟩, frozen_of h⟩
theorem Rf.row_ne {w : World} {s : Nat} {F : Nat → Prop} {st : DS} {L W V : Option Addr} {cL cW cV : Nat} (d : Rf w s F st L W V cL cW cV) {b : Nat} (hb : rowB L = some b ∨ rowB W = some b ∨ rowB V = some b) : b ≠ s := fun e => by
  subst e
  rcases hb with hb | hb | hb
  · obtain ⟨_, cur, q, _⟩ := OwnR.block d.ownL hb
    rw [d.blk] at q
    simp at q
  · obtain ⟨_, cur, q, _⟩ := OwnR.block d.ownW hb
    rw [d.blk] at q
    simp at q
  · obtain ⟨_, cur, q, _⟩ := OwnR.block d.ownV hb
    rw [d.blk] at q
    simp at q
/-- The three rows are three. -/
theorem Rf.apart {w : World} {s : Nat} {F : Nat → Prop} {st : DS} {L W V : Option Addr} {cL cW cV : Nat} (d : Rf w s F st L W V cL cW cV) {b : Nat} (hb : rowB W = some b) : rowB L ≠ some b ∧ rowB V ≠ some b := by
  obtain ⟨_, cur, q, _⟩ := OwnR.block d.ownW hb
  refine ⟨fun h => ?_, fun h => ?_⟩
  · obtain ⟨_, cur2, q2, _⟩ := OwnR.block d.ownL h
    rw [q] at q2; simp at q2
  · obtain ⟨_, cur2, q2, _⟩ := OwnR.block d.ownV h
    rw [q] at q2; simp at q2
theorem RPost.same {w : World} {s : Nat} {F : Nat → Prop} {st : DS} (h : RefAt w s F st) (v : Value) : RPost w s F st v (.returned v) w := ⟨rfl, Kp.refl _ _, F, h, fun _ hx => .inl hx⟩
theorem made_strs (n : Nat) : (madeCells (Value.string ⟨#[]⟩).cells (n * 1)).toList = scells (secL (newS n)) := by
  unfold madeCells scells secL newS
  simp only [Nat.mul_one]
  apply List.ext_getElem?
  intro i
  by_cases hi : i < n
  · simp [hi, Value.cells, Nat.mod_one]
  · simp [hi]

set_option maxHeartbeats 400000 in
theorem rnew_bad (i0 : Int) (w : World) (h : ¬ (1 ≤ i0 ∧ i0 ≤ 4096)) :
    Calls Try.prog 9 #[.int .i64 i0] w fun e w' => e = .returned (.tuple #[.pointer none, .int .i64 1]) ∧ w' = w := by
  by_cases h1 : i0 < 1
  · go_enter Try.func9, Try.ntmps9
    go_wp2
    go_ret2
    exact ⟨rfl, rfl⟩
  · have h2 : 4096 < i0 := by omega
    go_enter Try.func9, Try.ntmps9
    go_wp2
    go_ret2
    exact ⟨rfl, rfl⟩
set_option maxHeartbeats 400000 in
theorem rnew_any (n : Nat) (w : World) (h1 : 1 ≤ n) (h2 : n ≤ 4096) :
    Calls Try.prog 9 #[.int .i64 n] w fun e w' => ∃ s, e = .returned (.tuple #[.pointer (some ⟨s, 0, none⟩), .int .i64 0]) ∧ Below w.heap.size w w' ∧ RefAt w' s (fun x => w.heap.size ≤ x ∧ x < w'.heap.size) (newS n) := by
  obtain ⟨i0, hi, hz0, hz1, hz2⟩ := info_parts inf9
  go_enter Try.func9, Try.ntmps9
  go_wp2_with (at_make; refine wpList_make_full _ rfl _ _ 37 rfl 0 9 i0 _ 1 Try.underlying37 hi hz0 hz1 .i64 .i64 _ _ n rfl rfl rfl rfl (by rw [hz2]; omega) (by unfold maxLen; omega) (Nat.zero_le _) ?_; intro w1 hown hgrow; have H1 := Lib.hid hown; have H2 := Lib.hid hgrow; clear hown hgrow)
  go_ret2
  have k1 : Kp NoB w w1 := (kno w).grown H2.out (fun k hk => by cases hk)
  have o1 : OwnR w1 9 1 (some ⟨w.heap.size, 0, none⟩) n n (scells (secL (newS n))) := by rw [← made_strs]; exact H1.out
  refine ⟨w1.heap.size, by simp, (k1.below (Nat.le_refl _) (fun _ h => h.elim)).alloc k1.size _, some ⟨w.heap.size, 0, none⟩, none, none, n, 0, 0, ?_⟩
  have hl := OwnR.lt o1 (b := w.heap.size) rfl
  refine ⟨blk_new w1 _, by simp [newS, leftV], o1.kp ((kno w1).alloc _) (fun _ _ h => h), World.ownsRow_nil _ _ _ _, World.ownsRow_nil _ _ _ _, fun b _ hb => by simp [rowB] at hb, ⟨k1.size, by simp⟩, fun b hb => ?_, fun b hb => by simp [rowB] at hb, fun b hb => by simp [rowB] at hb, Ok.new n h2⟩
  simp [rowB] at hb
  subst hb
  exact ⟨Nat.le_refl _, by simp; omega⟩

def RUse (b : Nat) (left : Int) (w : World) (e : Ending) (w' : World) : Prop :=
  (left = 0 ∧ e = .returned (.bool false) ∧ w' = w) ∨ (left < 0 ∧ e = .returned (.bool true) ∧ w' = w) ∨ (0 < left ∧ e = .returned (.bool true) ∧ w' = w.setCell ⟨b, 3, none⟩ (.int .i64 (left - 1)))
theorem ruse_any (b : Nat) (left : Int) (w : World) (c3 : w.cell? ⟨b, 3, none⟩ = some (.int .i64 left)) (f3 : w.frozen? ⟨b, 3, none⟩ = false) (h1 : -1 ≤ left) (h2 : left ≤ 9223372036854775807) :
    Calls Try.prog 34 #[.pointer (some ⟨b, 0, none⟩)] w (RUse b left w) := by
  by_cases h0 : left = 0
  · subst h0
    go_enter Try.func34, Try.ntmps34
    go_wp2
    go_ret
    exact .inl ⟨rfl, rfl, rfl⟩
  · have q0 : (left == 0) = false := by rw [beq_eq_false_iff_ne]; exact h0
    by_cases h : 0 < left
    · have hw : IntKind.i64.wrap (left - 1) = left - 1 := IntWalk.i64_in _ (by omega)
      go_enter Try.func34, Try.ntmps34
      go_wp2
      go_ret
      exact .inr (.inr ⟨h, rfl, rfl⟩)
    · go_enter Try.func34, Try.ntmps34
      go_wp2
      go_ret
      exact .inr (.inl ⟨by omega, rfl, rfl⟩)
theorem Rf.lims {w : World} {s : Nat} {F : Nat → Prop} {st : DS} {L W V : Option Addr} {cL cW cV : Nat} (d : Rf w s F st L W V cL cW cV) (l : Option Nat) (hl : leftV l ≤ 9223372036854775807) :
    Rf (w.setCell ⟨s, 3, none⟩ (.int .i64 (leftV l))) s F { st with lim := l } L W V cL cW cV := by
  have hb := blk_set d.blk 3 (.int .i64 (leftV l))
  have k := (Kp.refl (· = s) w).setCell (p := ⟨s, 3, none⟩) (.inl rfl) (.int .i64 (leftV l))
  exact ⟨hb, hl, d.ownL.kp k (fun b hb => d.row_ne (.inl hb)), d.ownW.kp k (fun b hb => d.row_ne (.inr (.inl hb))), d.ownV.kp k (fun b hb => d.row_ne (.inr (.inr hb))), d.ne, d.F0, d.FL, d.FW, d.FV, d.ok.lim l⟩
theorem ruse_disk (s : Nat) (F : Nat → Prop) (st : DS) (w : World) (h : RefAt w s F st) :
    Calls Try.prog 34 #[.pointer (some ⟨s, 0, none⟩)] w (RPost w s F (if liveB st then usedS st else st) (.bool (liveB st))) := by
  have h0 := h
  obtain ⟨L, W, V, cL, cW, cV, d⟩ := h
  obtain ⟨⟨_, _, _, c3⟩, f⟩ := rcell d.blk
  have hlow : -1 ≤ leftV st.lim := by unfold leftV; split <;> omega
  refine (ruse_any s _ w c3 (f 3) hlow d.l1).mono ?_
  rintro e w' (⟨q, rfl, rfl⟩ | ⟨q, rfl, rfl⟩ | ⟨q, rfl, rfl⟩)
  · have hl : liveB st = false := by
      unfold liveB leftV at *
      cases hm : st.lim with
      | none => rw [hm] at q; simp at q
      | some k => rw [hm] at q; simp at q; subst q; rfl
    rw [hl, if_neg (by simp)]
    exact RPost.same h0 _
  · have hl : st.lim = none := by
      unfold leftV at q
      cases hm : st.lim with
      | none => rfl
      | some k => rw [hm] at q; simp at q; omega
    rw [live_none hl, if_pos rfl, used_none hl]
    exact RPost.same h0 _
  · obtain ⟨k, hk⟩ : ∃ k, st.lim = some (k + 1) := by
      unfold leftV at q
      cases hm : st.lim with
      | none => rw [hm] at q; simp at q
      | some k => rw [hm] at q; simp at q; exact ⟨k - 1, by rw [show k - 1 + 1 = k by omega]⟩
    have hl : liveB st = true := by unfold liveB; rw [hk]; rfl
    have e1 : leftV st.lim - 1 = leftV (some k) := by rw [hk]; simp [leftV]
    have e2 : usedS st = { st with lim := some k } := by unfold usedS; rw [hk]; rfl
    rw [hl, if_pos rfl, e1, e2]
    have hb := d.l1
    exact ⟨rfl, (Kp.refl _ _).setCell (.inl d.F0) _, F, ⟨L, W, V, cL, cW, cV, d.lims (some k) (by omega)⟩, fun x hx => .inl hx⟩
theorem max_run (a k : Int) (c : Nat) (hc : max a k = c) (ts : Array TypeId) (t : TypeId) (w : World) : (Builtin.max_ ts t #[.int .i64 a, .int .i64 k]).run Try.prog w = .ok (.int .i64 c) w := by
  by_cases h : a < k
  · have : k = c := by omega
    subst this
    simp [Builtin.max_, Builtin.max2]
    omega
  · have : a = c := by omega
    subst this
    simp [Builtin.max_, Builtin.max2]
    omega
theorem rlimit_disk (s : Nat) (n : Int) (F : Nat → Prop) (st : DS) (w : World) (h : RefAt w s F st) (h2 : n ≤ 9223372036854775807) :
    Calls Try.prog 27 #[.pointer (some ⟨s, 0, none⟩), .int .i64 n] w (RPost w s F (limitS st n) (.tuple #[])) := by
  obtain ⟨L, W, V, cL, cW, cV, d⟩ := h
  obtain ⟨⟨_, _, _, c3⟩, f⟩ := rcell d.blk
  have f3 := f 3
  obtain ⟨m, hm⟩ : ∃ m : Nat, n.toNat = m := ⟨_, rfl⟩
  have e1 := max_run 0 n m (by omega)
  have e2 : limitS st n = { st with lim := some m } := by unfold limitS; rw [hm]
  have hm2 : m ≤ 9223372036854775807 := by omega
  rw [e2]
  have D := Lib.hid d
  clear d f e2 hm
  go_enter Try.func27, Try.ntmps27
  go_wp2
  go_end0
  exact ⟨rfl, (Kp.refl _ _).setCell (p := ⟨s, 3, none⟩) (.inl D.out.F0) _, F, ⟨L, W, V, cL, cW, cV, D.out.lims (some m) (by simp [leftV]; omega)⟩, fun x hx => .inl hx⟩

theorem wpList_append_c {ops : Array Oper} {rest : List Oper} {o : Oper} {a : Act} {Q : Exit → Act → World → Prop} (w : World) (T e B : Nat) (z : Value) (hT : Try.prog.underlying T = some (.slice e)) (hinf : (Try.prog.info? e).map (fun i => (i.zero, i.size, i.bytes)) = some (some z, 1, B)) (hB : B ≤ 16) (hz : z.cells.size = 1) (hgd : o.guard = none) (s x : Operand)
    (ho : o.op = .call { callee := .builtin .append, args := #[s, x], argTypes := #[T, T] }) (A : Option Addr) (k c : Nat) (p : List Value) (hk : k = p.length) (hs : a.eval s = .slice A k c) (hown : OwnR w e 1 A k c p)
    (b : Nat) (y : Value) (hy1 : y.oneCell' = true) (hx : a.eval x = .slice (some ⟨b, 0, none⟩) 1 1) (h1 : w.cell? ⟨b, 0, none⟩ = some y) (hlen : p.length + 1 ≤ 200000) (r : List Value) (hr0 : p ++ [y] = r) (k' : Nat) (hk' : k' = k + 1)
    (h : ∀ A' c' w', OwnR w' e 1 A' k' c' r → w.grownBy w' (rowB A) → (∀ g, rowB A' = some g → rowB A = some g ∨ w.heap.size = g) → wpList Try.prog ops Q rest (a.put o.dst (.slice A' k' c')) w') : wpList Try.prog ops Q (o :: rest) a w := by
  refine wpList_plain hgd fun K hK => ?_
  subst hk hk'
  obtain ⟨i0, hi, hz0, hz1, hz2⟩ := info_parts hinf
  have hob : (Value.slice A p.length c).ownBlock = rowB A := by cases A <;> rfl
  refine wp_append_lies w s x T ho 0 e i0 _ 1 B hT hi hz0 hz1 hz2 hz (by decide) _ p.length p hs hown ⟨b, 0, none⟩ 1 1 [y] hx rfl ?_ ?_ (by decide) (by unfold maxLen; omega) (by have : (p.length + 1) * B ≤ 200000 * 16 := Nat.mul_le_mul hlen hB; omega) (Nat.zero_le _) w.heap.size rfl ?_
  · intro j u hj
    match j, hj with
    | 0, hj => simp at hj; subst hj; simpa [Addr.add] using h1
    | j + 1, hj => simp at hj
  · intro u hu
    simp at hu
    subst hu; exact hy1
  · intro g cap w' hown' hgrow hlies _
    rw [hob] at hgrow hlies
    refine hK _ _ (h _ _ _ (by rw [← hr0]; exact hown') hgrow (fun q hq => ?_))
    simp [rowB] at hq
    subst hq
    rcases hlies with q | q
    · exact .inl q
    · exact .inr q.symm
theorem ncells_at {l : List Nat} {k i : Nat} (h : l[k]? = some i) : (ncells l)[k]? = some (.int .i64 i) := by simp [ncells, h]
theorem ncells_len (l : List Nat) : (ncells l).length = l.length := by simp [ncells]
theorem sec_at {st : DS} {i : Nat} (h : i < st.n) : (secL st)[i]? = some (st.base i) := by simp [secL, h]
theorem doL_step {b : Nat → Tx} {p : List Wt} {k : Nat} {x : Wt} (h : p[k]? = some x) (i : Nat) : doL b (p.take (k + 1)) i = if x.1 = i then x.2 else doL b (p.take k) i := by
  rw [← take_snoc h, doL_snoc]

set_option maxRecDepth 100000 in
set_option maxHeartbeats 1000000 in
theorem rread_any (i0 : Int) (s : Nat) (F : Nat → Prop) (st : DS) (w : World) (h : RefAt w s F st) :
    Calls Try.prog 28 #[.pointer (some ⟨s, 0, none⟩), .int .i64 i0] w fun e w' => e = .returned (.tuple #[.string ⟨(readS st i0).toArray⟩, .int .i64 (readE st i0)]) ∧ w' = w := by
  obtain ⟨L, W, V, cL, cW, cV, d⟩ := h
  obtain ⟨⟨c0, c1, c2, -⟩, -⟩ := rcell d.blk
  have hl1 := d.ok.len
  have hl2 := d.ok.cnt
  have hn := d.ok.n
  cases hb : hasB st i0
  · have e1 : readS st i0 = [] := by simp [readS, hb]
    have e2 : readE st i0 = 1 := by simp [readE, hb]
    rw [e1, e2]
    have hw : i0 < 0 ∨ (¬ i0 < 0 ∧ (st.n : Int) ≤ i0) := by unfold hasB at hb; simp at hb; omega
    clear e1 e2 d hb
    rcases hw with hw | ⟨hw, hw2⟩
    · go_enter Try.func28, Try.ntmps28
      go_wp2
      go_ret2
      exact ⟨rfl, rfl⟩
    · go_enter Try.func28, Try.ntmps28
      go_wp2
      go_ret2
      exact ⟨rfl, rfl⟩
  · obtain ⟨h1, h2⟩ := hasB_is hb
    obtain ⟨i, rfl⟩ : ∃ i : Nat, i0 = i := ⟨i0.toNat, by omega⟩
    rw [Int.toNat_natCast] at h2
    have e2 : readE st i = 0 := by simp [readE, hb]
    have e1 : readS st i = doL st.base st.pend i := by simp [readS, hb]
    obtain ⟨bL, rfl, hcL⟩ := OwnR.cell d.ownL (by omega)
    have cL0 := hcL i _ (scells_at (sec_at h2))
    obtain ⟨p, hp⟩ : ∃ p, st.pend = p := ⟨_, rfl⟩
    obtain ⟨R, hR⟩ : ∃ R, doL st.base st.pend i = R := ⟨_, rfl⟩
    have RW := Lib.hid (OwnR.rdC d.ownW)
    have RV := Lib.hid (OwnR.rdC d.ownV)
    rw [e1, e2, hR]
    obtain ⟨t0, ht0⟩ : ∃ t0, st.base i = t0 := ⟨_, rfl⟩
    rw [ht0] at cL0
    rw [hp] at c1 c2 RW RV hl1 hR
    have HRR := Lib.hid hR
    have HT0 : Hid (doL st.base (p.take 0) i = t0) := by rw [← ht0]; exact Lib.hid (congrFun (doL_nil st.base) i)
    have i1 : (i : Int) < (st.n : Int) := by omega
    have i2 : ¬ (st.n : Int) ≤ (i : Int) := by omega
    clear e1 e2 d hcL hb hR ht0 hp
    go_enter Try.func28, Try.ntmps28
    go_wp2_with fail
    go_loopw [6, 7] (fun vs vk wr => ∃ (k : Nat) (T : Tx), k ≤ p.length ∧ vk = .int .i64 k ∧ vs = .string ⟨T.toArray⟩ ∧ Hid (doL st.base (p.take k) i = T) ∧ wr = w) (fun _ vk _ => p.length - (intOf vk).toNat)
    case atStart => exact ⟨0, t0, Nat.zero_le _, rfl, rfl, HT0, rfl⟩
    case round =>
      obtain ⟨k, T, hk, rfl, rfl, HT, rfl⟩ := hrel
      by_cases hlt : k < p.length
      · obtain ⟨x, hx⟩ : ∃ x, p[k]? = some x := ⟨_, List.getElem?_eq_getElem hlt⟩
        obtain ⟨bW, oW, rfl, hcW⟩ := RW.out (by rw [ncells_len]; simp; omega)
        obtain ⟨bV, oV, rfl, hcV⟩ := RV.out (by rw [scells_len]; simp; omega)
        have cw := hcW k _ (ncells_at (show (p.map (·.1))[k]? = some x.1 by simp [hx]))
        have cv := hcV k _ (scells_at (show (p.map (·.2))[k]? = some x.2 by simp [hx]))
        have HN := Lib.hid (doL_step (b := st.base) hx i)
        rw [HT.out] at HN
        obtain ⟨j, u⟩ := x
        simp only at cw cv HN
        have i3 : (k : Int) < (p.length : Int) := by omega
        clear hx hcW hcV HT0 HT
        by_cases hj : j = i
        · subst hj
          rw [if_pos rfl] at HN
          go_wp2_with fail
          go_roundw
          case rel => exact ⟨k + 1, u, by omega, by go_num, rfl, HN, (by trivial)⟩
          case measure => simp [intOf]; omega
        · rw [if_neg hj] at HN
          have q0 : ((j : Int) == (i : Int)) = false := by rw [beq_eq_false_iff_ne]; omega
          go_wp2_with fail
          go_roundw
          case rel => exact ⟨k + 1, T, by omega, by go_num, rfl, HN, (by trivial)⟩
          case measure => simp [intOf]; omega
      · obtain rfl : k = p.length := by omega
        have e := HT.out
        rw [List.take_length, HRR.out] at e
        subst e
        go_wp2
        go_ret2
        exact ⟨rfl, rfl⟩
end Go.Proofs.Ytnfnbbipmempjaa

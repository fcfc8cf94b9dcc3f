/-
  Two disks of the call's own beside a row of its own (Two); append of a bool; the walk of DiskAll: for every input it returns true; old memory stays.
-/
import Derived.Test.YtnfnbbipmempjaaH
namespace Go.Proofs.Ytnfnbbipmempjaa
open Go.RowKit

def Two (G : Nat → Prop) (w0 w : World) (a b : Nat) (sa sb : DS) : Prop := ∃ Fa Fb, DiskAt w a Fa sa ∧ DiskAt w b Fb sb ∧ (∀ x, Fa x → Fb x → False) ∧ (∀ x, Fa x → w0.heap.size ≤ x ∧ ¬ G x) ∧ (∀ x, Fb x → w0.heap.size ≤ x ∧ ¬ G x) ∧ (∀ x, G x → w0.heap.size ≤ x ∧ x < w.heap.size) ∧ Below w0.heap.size w0 w
theorem Two.below {G : Nat → Prop} {w0 w : World} {a b : Nat} {sa sb : DS} (h : Two G w0 w a b sa sb) : Below w0.heap.size w0 w := by obtain ⟨_, _, _, _, _, _, _, _, h⟩ := h; exact h
theorem Two.symm {G : Nat → Prop} {w0 w : World} {a b : Nat} {sa sb : DS} (h : Two G w0 w a b sa sb) : Two G w0 w b a sb sa := by
  obtain ⟨Fa, Fb, h1, h2, h3, h4, h5, h6, h7⟩ := h
  exact ⟨Fb, Fa, h2, h1, fun x p q => h3 x q p, h5, h4, h6, h7⟩
theorem Two.fst {G : Nat → Prop} {w0 w : World} {a b f : Nat} {sa sb st' : DS} {v : Value} {args : Array Value} (h : Two G w0 w a b sa sb) (C : ∀ F, DiskAt w a F sa → Calls Try.prog f args w (DPost w a F st' v)) :
    Calls Try.prog f args w (fun e w' => e = .returned v ∧ Two G w0 w' a b st' sb ∧ ∀ x, G x → w'.heap[x]? = w.heap[x]?) := by
  obtain ⟨Fa, Fb, h1, h2, h3, h4, h5, h6, h7⟩ := h
  refine (C Fa h1).mono ?_
  rintro e w' ⟨rfl, hk, F', hd', hF'⟩
  have hs := hk.size
  refine ⟨rfl, ⟨F', fun x => Fb x ∧ x < w.heap.size, hd', h2.within.kp hk (fun x hx q => h3 x q hx.1), fun x p q => ?_, fun x hx => ?_, fun x hx => h5 x hx.1, fun x hx => ⟨(h6 x hx).1, by have := (h6 x hx).2; omega⟩, h7.trans (hk.below h7.size (fun x hx => (h4 x hx).1))⟩, fun x hx => hk.block x (h6 x hx).2 (fun hf => (h4 x hf).2 hx)⟩
  · rcases hF' x p with z | z
    · exact h3 x z q.1
    · have := q.2; omega
  · rcases hF' x hx with z | z
    · exact h4 x z
    · exact ⟨Nat.le_trans h7.size z, fun hg => by have := (h6 x hg).2; omega⟩
theorem Two.snd {G : Nat → Prop} {w0 w : World} {a b f : Nat} {sa sb st' : DS} {v : Value} {args : Array Value} (h : Two G w0 w a b sa sb) (C : ∀ F, DiskAt w b F sb → Calls Try.prog f args w (DPost w b F st' v)) :
    Calls Try.prog f args w (fun e w' => e = .returned v ∧ Two G w0 w' a b sa st' ∧ ∀ x, G x → w'.heap[x]? = w.heap[x]?) :=
  (h.symm.fst C).mono fun _ _ q => ⟨q.1, q.2.1.symm, q.2.2⟩
theorem Two.new {w0 w : World} {a : Nat} {sa : DS} (h : Mine w0 w a sa) (n : Nat) (h1 : 1 ≤ n) (h2 : n ≤ 4096) :
    Calls Try.prog 8 #[.int .i64 n] w fun e w' => ∃ b, e = .returned (.tuple #[.pointer (some ⟨b, 0, none⟩), .int .i64 0]) ∧ Two NoB w0 w' a b sa (newS n) := by
  obtain ⟨F, hd, hF, hb⟩ := h
  refine (new_any n w h1 h2).mono ?_
  rintro e w' ⟨rfl, hb', hd'⟩
  exact ⟨_, rfl, fun x => F x ∧ x < w.heap.size, _, hd.within.kp (Kp.of_below hb' NoB) (fun _ _ h => h), hd', fun x p q => by have := p.2; have := q.1; omega, fun x hx => ⟨hF x hx.1, fun h => h⟩, fun x hx => ⟨Nat.le_trans hb.size hx.1, fun h => h⟩, fun x hx => hx.elim, hb.trans (hb'.mono hb.size)⟩
theorem Two.kp {G : Nat → Prop} {w0 w w' : World} {a b : Nat} {sa sb : DS} (h : Two G w0 w a b sa sb) (hk : Below w.heap.size w w') : Two G w0 w' a b sa sb := by
  obtain ⟨Fa, Fb, h1, h2, h3, h4, h5, h6, h7⟩ := h
  exact ⟨Fa, Fb, h1.kp (Kp.of_below hk NoB) (fun _ _ h => h), h2.kp (Kp.of_below hk NoB) (fun _ _ h => h), h3, h4, h5, fun x hx => ⟨(h6 x hx).1, Nat.lt_of_lt_of_le (h6 x hx).2 hk.size⟩, h7.trans (hk.mono h7.size)⟩
theorem Two.alloc {G : Nat → Prop} {w0 w : World} {a b : Nat} {sa sb : DS} (h : Two G w0 w a b sa sb) (o : Obj) : Two G w0 (w.alloc o) a b sa sb := h.kp ((Below.refl _ _).alloc (Nat.le_refl _) _)
/-- The row of one's own has grown, or is another one. -/
theorem Two.grown {G G' : Nat → Prop} {w0 w w' : World} {a b : Nat} {sa sb : DS} {row : Option Nat} (h : Two G w0 w a b sa sb) (hg : w.grownBy w' row) (hr : ∀ k, row = some k → G k) (hn : ∀ x, G' x → (G x ∨ w.heap.size ≤ x) ∧ x < w'.heap.size) : Two G' w0 w' a b sa sb := by
  obtain ⟨Fa, Fb, h1, h2, h3, h4, h5, h6, h7⟩ := h
  have hk : Kp (fun x => row = some x) w w' := (Kp.refl _ w).grown hg (fun k hk => .inl hk)
  refine ⟨fun x => Fa x ∧ x < w.heap.size, fun x => Fb x ∧ x < w.heap.size, h1.within.kp hk (fun x hx q => (h4 x hx.1).2 (hr x q)), h2.within.kp hk (fun x hx q => (h5 x hx.1).2 (hr x q)), fun x p q => h3 x p.1 q.1, fun x hx => ⟨(h4 x hx.1).1, fun q => ?_⟩, fun x hx => ⟨(h5 x hx.1).1, fun q => ?_⟩, fun x hx => ⟨?_, (hn x hx).2⟩, h7.trans (hk.below h7.size (fun x hx => (h6 x (hr x hx)).1))⟩
  · rcases (hn x q).1 with z | z
    · exact (h4 x hx.1).2 z
    · have := hx.2; omega
  · rcases (hn x q).1 with z | z
    · exact (h5 x hx.1).2 z
    · have := hx.2; omega
  · rcases (hn x hx).1 with z | z
    · exact (h6 x z).1
    · exact Nat.le_trans h7.size z
theorem Two.writeA {G : Nat → Prop} {w0 w : World} {a b : Nat} {sa sb : DS} (h : Two G w0 w a b sa sb) (i0 : Int) (t : Tx) (hc : sa.cnt < 1000) (ht : t.length ≤ 1000) :
    Calls Try.prog 17 #[.pointer (some ⟨a, 0, none⟩), .int .i64 i0, .string ⟨t.toArray⟩] w (fun e w' => e = .returned (.int .i64 (writeE sa i0 t)) ∧ Two G w0 w' a b (writeS sa i0 t) sb ∧ ∀ x, G x → w'.heap[x]? = w.heap[x]?) := h.fst fun F hd => write_disk i0 a t F sa w hd hc ht
theorem Two.writeB {G : Nat → Prop} {w0 w : World} {a b : Nat} {sa sb : DS} (h : Two G w0 w a b sa sb) (i0 : Int) (t : Tx) (hc : sb.cnt < 1000) (ht : t.length ≤ 1000) :
    Calls Try.prog 17 #[.pointer (some ⟨b, 0, none⟩), .int .i64 i0, .string ⟨t.toArray⟩] w (fun e w' => e = .returned (.int .i64 (writeE sb i0 t)) ∧ Two G w0 w' a b sa (writeS sb i0 t) ∧ ∀ x, G x → w'.heap[x]? = w.heap[x]?) := h.snd fun F hd => write_disk i0 b t F sb w hd hc ht
theorem Two.syncA {G : Nat → Prop} {w0 w : World} {a b : Nat} {sa sb : DS} (h : Two G w0 w a b sa sb) :
    Calls Try.prog 18 #[.pointer (some ⟨a, 0, none⟩)] w (fun e w' => e = .returned (.int .i64 (syncE sa)) ∧ Two G w0 w' a b (syncS sa) sb ∧ ∀ x, G x → w'.heap[x]? = w.heap[x]?) := h.fst fun F hd => sync_disk a F sa w hd
theorem Two.crashA {G : Nat → Prop} {w0 w : World} {a b : Nat} {sa sb : DS} (h : Two G w0 w a b sa sb) (B : Option Addr) (cB : Nat) (ks : List Bool) (hr : RdB w B ks) (hks : ks.length ≤ 9223372036854775807) :
    Calls Try.prog 15 #[.pointer (some ⟨a, 0, none⟩), .slice B ks.length cB] w (fun e w' => e = .returned (.tuple #[]) ∧ Two G w0 w' a b (crashS sa ks) sb ∧ ∀ x, G x → w'.heap[x]? = w.heap[x]?) := h.fst fun F hd => crash_disk B cB a ks F sa w hd hr hks
theorem Two.crashB {G : Nat → Prop} {w0 w : World} {a b : Nat} {sa sb : DS} (h : Two G w0 w a b sa sb) (B : Option Addr) (cB : Nat) (ks : List Bool) (hr : RdB w B ks) (hks : ks.length ≤ 9223372036854775807) :
    Calls Try.prog 15 #[.pointer (some ⟨b, 0, none⟩), .slice B ks.length cB] w (fun e w' => e = .returned (.tuple #[]) ∧ Two G w0 w' a b sa (crashS sb ks) ∧ ∀ x, G x → w'.heap[x]? = w.heap[x]?) := h.snd fun F hd => crash_disk B cB b ks F sb w hd hr hks
theorem Two.readA {G : Nat → Prop} {w0 w : World} {a b : Nat} {sa sb : DS} (h : Two G w0 w a b sa sb) (i0 : Int) :
    Calls Try.prog 21 #[.pointer (some ⟨a, 0, none⟩), .int .i64 i0] w fun e w' => e = .returned (.tuple #[.string ⟨(readS sa i0).toArray⟩, .int .i64 (readE sa i0)]) ∧ w' = w := by
  obtain ⟨Fa, Fb, h1, _⟩ := h
  exact read_any i0 a Fa sa w h1
theorem Two.readB {G : Nat → Prop} {w0 w : World} {a b : Nat} {sa sb : DS} (h : Two G w0 w a b sa sb) (i0 : Int) :
    Calls Try.prog 21 #[.pointer (some ⟨b, 0, none⟩), .int .i64 i0] w fun e w' => e = .returned (.tuple #[.string ⟨(readS sb i0).toArray⟩, .int .i64 (readE sb i0)]) ∧ w' = w := h.symm.readA i0
theorem Two.pendA {G : Nat → Prop} {w0 w : World} {a b : Nat} {sa sb : DS} (h : Two G w0 w a b sa sb) : Calls Try.prog 19 #[.pointer (some ⟨a, 0, none⟩)] w fun e w' => e = .returned (.int .i64 sa.pend.length) ∧ w' = w := by
  obtain ⟨Fa, Fb, h1, _⟩ := h
  exact pending_disk h1
theorem Two.pendB {G : Nat → Prop} {w0 w : World} {a b : Nat} {sa sb : DS} (h : Two G w0 w a b sa sb) : Calls Try.prog 19 #[.pointer (some ⟨b, 0, none⟩)] w fun e w' => e = .returned (.int .i64 sb.pend.length) ∧ w' = w := h.symm.pendA

theorem wpList_append_b {ops : Array Oper} {rest : List Oper} {o : Oper} {a : Act} {Q : Exit → Act → World → Prop} (w : World) (hgd : o.guard = none) (s x : Operand)
    (ho : o.op = .call { callee := .builtin .append, args := #[s, x], argTypes := #[34, 34] }) (A : Option Addr) (k c : Nat) (p : List Bool) (hk : k = p.length) (hs : a.eval s = .slice A k c) (hown : OwnR w 4 1 A p.length c (bcells p))
    (b : Nat) (y : Bool) (hx : a.eval x = .slice (some ⟨b, 0, none⟩) 1 1) (h1 : w.cell? ⟨b, 0, none⟩ = some (.bool y)) (hlen : p.length + 1 ≤ 200000) (r : List Bool) (hr0 : p ++ [y] = r)
    (h : ∀ A' c' w', OwnR w' 4 1 A' r.length c' (bcells r) → w.grownBy w' (rowB A) → (∀ g, rowB A' = some g → rowB A = some g ∨ w.heap.size = g) → wpList Try.prog ops Q rest (a.put o.dst (.slice A' r.length c')) w') : wpList Try.prog ops Q (o :: rest) a w := by
  refine wpList_plain hgd fun K hK => ?_
  subst hk
  obtain ⟨i0, hi, hz0, hz1, hz2⟩ := info_parts inf4
  have hob : (Value.slice A p.length c).ownBlock = rowB A := by cases A <;> rfl
  refine wp_append_lies w s x 34 ho 0 4 i0 _ 1 1 Try.underlying34 hi hz0 hz1 hz2 rfl (by decide) _ p.length (bcells p) hs hown ⟨b, 0, none⟩ 1 1 [.bool y] hx rfl ?_ ?_ (by decide) (by unfold maxLen; omega) (by omega) (Nat.zero_le _) w.heap.size rfl ?_
  · intro j u hj
    match j, hj with
    | 0, hj => simp at hj; subst hj; simpa [Addr.add] using h1
    | j + 1, hj => simp at hj
  · intro u hu
    simp at hu
    subst hu; rfl
  · intro g cap w' hown' hgrow hlies _
    have e1 : p.length + 1 = r.length := by rw [← hr0]; simp
    have e2 : bcells p ++ [.bool y] = bcells r := by rw [← hr0]; simp [bcells]
    rw [e1] at hown' ⊢
    rw [e2] at hown'
    rw [hob] at hgrow hlies
    refine hK _ _ (h _ _ _ hown' hgrow (fun q hq => ?_))
    simp [rowB] at hq
    subst hq
    rcases hlies with q | q
    · exact .inl q
    · exact .inr q.symm
theorem OwnR.of_block {w w' : World} {e k n c : Nat} {A : Option Addr} {xs : List Value} (h : OwnR w e k A n c xs) (hb : ∀ b, rowB A = some b → w'.heap[b]? = w.heap[b]?) : OwnR w' e k A n c xs := by
  refine ⟨h.1, ?_⟩
  rcases h.2 with q | ⟨g, cap, cur, h1, h2, h3, r⟩
  · exact .inl q
  · refine .inr ⟨g, cap, cur, h1, h2, (hb g ?_).trans h3, r⟩
    simp only [Value.slice.injEq] at h1
    rw [h1.1]; rfl
theorem own_none_b (w : World) : OwnR (w.alloc (.cells #[] 4)) 4 1 (some ⟨w.heap.size, 0, none⟩) 0 0 (bcells []) := World.ownsRow_lit w #[] 0 (Nat.zero_le _) (by unfold maxLen; omega) (by simp)
theorem kept_more : ∀ (p : List Wt) (ks r : List Bool), p.length ≤ ks.length → keptL p (ks ++ r) = keptL p ks
  | [], _, _, _ => rfl
  | _ :: _, [], _, h => by simp at h
  | x :: p, b :: ks, r, h => by
    have := kept_more p ks r (by simpa using h)
    simp only [List.cons_append, keptL]
    rw [this]
theorem kept_both (p : List Wt) (x : Wt) (ks : List Bool) (b : Bool) (h : p.length = ks.length) : keptL (p ++ [x]) (ks ++ [b]) = if b then keptL p ks ++ [x] else keptL p ks := by
  rw [kept_snoc, kept_more p ks [b] (by omega), h]
  cases b <;> simp

structure AllOk (k : Nat) (ks : List Bool) (st : DS) : Prop where
  n : st.n = 6
  lim : st.lim = none
  cnt : st.cnt = k
  len : st.pend.length = k
  klen : ks.length = k
  kept : keptL st.pend ks = st.pend
theorem AllOk.step {k j : Nat} {ks r : List Bool} {st : DS} {t : Tx} (h : AllOk k ks st) (hj : j < 6) (ht : t.length ≤ 64) (hr : ks ++ [true] = r) : writeE st j t = 0 ∧ AllOk (k + 1) r (writeS st j t) := by
  obtain ⟨e1, e2⟩ := write_none h.n hj h.lim ht
  rw [e2, ← hr]
  refine ⟨e1, h.n, h.lim, by show st.cnt + 1 = _; rw [h.cnt], by show (st.pend ++ [(j, t)]).length = _; simp [h.len], by simp [h.klen], ?_⟩
  show keptL (st.pend ++ [(j, t)]) (ks ++ [true]) = st.pend ++ [(j, t)]
  rw [kept_both _ _ _ _ (by rw [h.len, h.klen]), if_pos rfl, h.kept]
theorem AllOk.fin {k : Nat} {ks : List Bool} {st : DS} (h : AllOk k ks st) : syncE st = 0 ∧ (syncS st).pend.length = 0 ∧ (crashS st ks).pend.length = 0 ∧ ∀ i : Nat, i < 6 → readS (syncS st) i = readS (crashS st ks) i ∧ readE (syncS st) i = 0 ∧ readE (crashS st ks) i = 0 := by
  unfold syncE syncS
  rw [live_none h.lim, used_none h.lim]
  refine ⟨rfl, rfl, rfl, fun i hi => ?_⟩
  simp only [if_true]
  obtain ⟨a1, a2⟩ := read_still (st := settleS st st.pend) (i := i) h.n rfl hi
  obtain ⟨b1, b2⟩ := read_still (st := crashS st ks) (i := i) h.n rfl hi
  rw [a1, b1, a2, b2]
  refine ⟨?_, rfl, rfl⟩
  show doL st.base st.pend i = doL st.base (keptL st.pend ks) i
  rw [h.kept]

set_option maxRecDepth 100000 in
set_option maxHeartbeats 4000000 in
theorem diskAll_walk (A0 : Option Addr) (c0 : Nat) (l : List (UInt8 × UInt8)) (w : World) (hr : RdP w A0 l) (hl : l.length ≤ 9223372036854775807) :
    Calls Try.prog 6 #[.slice A0 l.length c0] w fun e w' => e = .returned (.bool true) ∧ Below w.heap.size w w' := by
  have HR := Lib.hid hr
  clear hr
  go_enter Try.func6, Try.ntmps6
  go_wp2_with fail
  refine (Mine.new w 6 (by omega) (by omega)).mono ?_
  rintro e w1 ⟨a, rfl, h1⟩
  have H1 := Lib.hid h1
  clear h1
  go_wp2_with fail
  refine (Two.new H1.out 6 (by omega) (by omega)).mono ?_
  rintro e w2 ⟨b, rfl, h2⟩
  have H2 := Lib.hid (And.intro (Two.grown (G' := fun x => rowB (some ⟨w2.heap.size, 0, none⟩) = some x) h2 (World.grownBy_alloc w2 (.cells #[] 4) none) (fun k hk => by cases hk) (fun x hx => by simp [rowB] at hx; subst hx; exact ⟨.inr (Nat.le_refl _), by simp⟩)) (own_none_b w2))
  clear h2 H1
  go_wp2_with fail
  generalize w2.alloc (.cells #[] 4) = w3 at *
  generalize w2.heap.size = g at *
  go_loopw [7, 8] (fun vk vi wr => ∃ (k : Nat) (A : Option Addr) (c : Nat) (ks : List Bool) (st : DS), k ≤ l.length ∧ k ≤ 20 ∧ vi = .int .i64 k ∧ vk = .slice A ks.length c ∧ Two (fun x => rowB A = some x) w wr a b st st ∧ OwnR wr 4 1 A ks.length c (bcells ks) ∧ AllOk k ks st)
    (fun _ vi _ => l.length - (intOf vi).toNat)
  case atStart => exact ⟨0, some ⟨g, 0, none⟩, 0, [], newS 6, Nat.zero_le _, by omega, rfl, rfl, H2.out.1, H2.out.2, rfl, rfl, rfl, rfl, rfl, rfl⟩
  case round =>
    obtain ⟨k, A, c, ks, st, hk, hk20, rfl, rfl, ht, hown, ho⟩ := hrel
    have HT := Lib.hid ht
    have HW := Lib.hid hown
    have HO := Lib.hid ho
    clear ht hown ho H2
    by_cases hlt : k < l.length ∧ k < 20
    · obtain ⟨hlt, h20⟩ := hlt
      obtain ⟨x, hx⟩ : ∃ x, l[k]? = some x := ⟨_, List.getElem?_eq_getElem hlt⟩
      obtain ⟨b0, o, rfl, hcell⟩ := HR.out (by omega)
      obtain ⟨cx0, cy0⟩ := hcell k x hx
      obtain ⟨x1, cc⟩ := x
      simp only at cx0 cy0
      have hx8 : x1.toNat < 256 := x1.toNat_lt
      obtain ⟨q, haa⟩ : ∃ q, x1.toNat = q := ⟨_, rfl⟩
      rw [haa] at cx0 hx8
      have hb0 : b0 < w.heap.size := World.block_lt_of_cell? _ _ cx0
      have cx := (HT.out.below.cell hb0).trans cx0
      have cy := (HT.out.below.cell hb0).trans cy0
      obtain ⟨y, hy⟩ : ∃ y : Int, (cc.toNat : Int) = y := ⟨_, rfl⟩
      rw [hy] at cy
      have hbl : b0 < wr.heap.size := World.block_lt_of_cell? _ _ cx
      have CX := Lib.hid (And.intro hb0 cx0)
      have hc : st.cnt < 1000 := by have := HO.out.cnt; omega
      have hcv := conv1 wr y cc hy
      obtain ⟨T, hT⟩ : ∃ T : Tx, [cc] = T := ⟨_, rfl⟩
      rw [hT] at hcv
      have hTl : T.length ≤ 64 := by rw [← hT]; simp
      have em : ((q : Int) % 6) = ((q % 6 : Nat) : Int) := by omega
      obtain ⟨r, hr0⟩ : ∃ r, ks ++ [true] = r := ⟨_, rfl⟩
      have HR0 := Lib.hid hr0
      obtain ⟨z1, z2⟩ := HO.out.step (j := q % 6) (t := T) (by omega) hTl hr0
      rw [← em] at z1 z2
      have C := Lib.hid ((HT.out.alloc (.cells #[.int .u8 y] 5)).writeA ((q : Int) % 6) T hc (by omega))
      rw [z1] at C
      obtain ⟨st', hst'⟩ : ∃ st', writeS st ((q : Int) % 6) T = st' := ⟨_, rfl⟩
      rw [hst'] at C z2
      have HST := Lib.hid (And.intro z1 hst')
      have Z := Lib.hid z2
      have i1 : (k : Int) < (l.length : Int) := by omega
      have hkl : ks.length ≤ 20 := by have := HO.out.klen; omega
      have HW2 := Lib.hid (HW.out.kp ((kno wr).alloc (.cells #[.int .u8 y] 5)) (fun _ _ h => h))
      clear hx hcell haa cx0 cy0 hb0 hy hT em hr0 z1 z2 hst' HO HT HW
      go_wp2_with fail
      refine C.out.mono ?_
      rintro e w5 ⟨rfl, h5, k5⟩
      have cx5 := (h5.below.cell CX.out.1).trans CX.out.2
      have HW5 : Hid (OwnR w5 4 1 A ks.length c (bcells ks)) := HW2.out.of_block k5
      have C2 := Lib.hid (h5.writeB ((q : Int) % 6) T hc (by omega))
      rw [HST.out.1, HST.out.2] at C2
      clear h5 k5 HW2 C hcv cx cy
      go_wp2_with fail
      refine C2.out.mono ?_
      rintro e w6 ⟨rfl, h6, k6⟩
      have HW6 := Lib.hid ((HW5.out.of_block k6).kp ((kno w6).alloc (.cells #[.bool true] 4)) (fun _ _ h => h))
      have H6 := Lib.hid (h6.alloc (.cells #[.bool true] 4))
      clear h6 k6 HW5 C2 cx5
      go_wp2_with (at_builtin; refine wpList_append_b _ rfl _ _ rfl A ks.length c ks rfl rfl HW6.out w6.heap.size true rfl (cell_of (blk_new _ _) 0) (by omega) r HR0.out ?_; intro A7 c7 w7 hown7 hg7 hl7; have H7 := Lib.hid (And.intro hown7 (Two.grown (G' := fun x => rowB A7 = some x) H6.out hg7 (fun k hk => hk) (fun x hx => ⟨by rcases hl7 x hx with z | z; exact .inl z; exact .inr (by omega), OwnR.lt hown7 hx⟩))); clear hown7 hg7 hl7)
      go_roundw
      case rel => exact ⟨k + 1, A7, c7, r, st', by omega, by omega, by go_num, rfl, H7.out.2, H7.out.1, Z.out⟩
      case measure => simp [intOf]; omega
    · obtain ⟨z1, z2, z3, z4⟩ := HO.out.fin
      have hkl : ks.length ≤ 20 := by have := HO.out.klen; omega
      obtain ⟨s1, hs1⟩ : ∃ s1, syncS st = s1 := ⟨_, rfl⟩
      obtain ⟨s2, hs2⟩ : ∃ s2, crashS st ks = s2 := ⟨_, rfl⟩
      have C1 := Lib.hid HT.out.syncA
      rw [z1, hs1] at C1
      rw [hs1] at z2 z4
      rw [hs2] at z3 z4
      have Z := Lib.hid (And.intro z2 (And.intro z3 z4))
      have HS2 := Lib.hid hs2
      have hways : (k < l.length ∧ k = 20) ∨ ¬ k < l.length := by omega
      clear z1 z2 z3 z4 hs1 hs2 HT HO hlt
      rcases hways with ⟨hw2, rfl⟩ | hw2
      all_goals
        go_wp2_with fail
        refine C1.out.mono ?_
        rintro e w5 ⟨rfl, h5, k5⟩
        have C2 := Lib.hid (h5.crashB A c ks (OwnR.rdC (HW.out.of_block k5)) (by omega))
        rw [HS2.out] at C2
        clear h5 k5 C1 HW HS2
        go_wp2_with fail
        refine C2.out.mono ?_
        rintro e w6 ⟨rfl, h6, -⟩
        have H6 := Lib.hid h6
        clear h6 C2
        go_wp2_with fail
        go_loopw [10] (fun i wr => ∃ (q : Nat), q ≤ 6 ∧ i = .int .i64 q ∧ Two (fun x => rowB A = some x) w wr a b s1 s2) (fun i _ => 6 - (intOf i).toNat)
        case atStart => exact ⟨0, by omega, rfl, H6.out⟩
        case round =>
          obtain ⟨q, hq, rfl, hm⟩ := hrel
          have HM := Lib.hid hm
          clear H6 hm
          by_cases hq6 : q < 6
          · obtain ⟨z1, z2, z3⟩ := Z.out.2.2 q hq6
            obtain ⟨T, hT⟩ : ∃ T, readS s2 q = T := ⟨_, rfl⟩
            have C := Lib.hid (HM.out.readA q)
            have C3 := Lib.hid (HM.out.readB q)
            rw [z2, z1, hT] at C
            rw [z3, hT] at C3
            clear z1 z2 z3 hT
            go_wp2_with fail
            refine C.out.mono ?_
            rintro e w7 ⟨rfl, rfl⟩
            clear C
            go_wp2_with fail
            refine C3.out.mono ?_
            rintro e w7 ⟨rfl, rfl⟩
            clear C3
            go_wp2_with fail
            go_roundw
            case rel => exact ⟨q + 1, by omega, by go_num, HM.out⟩
            case measure => simp [intOf]; omega
          · obtain rfl : q = 6 := by omega
            have C := Lib.hid HM.out.pendA
            have C3 := Lib.hid HM.out.pendB
            rw [Z.out.1] at C
            rw [Z.out.2.1] at C3
            go_wp2_with fail
            refine C.out.mono ?_
            rintro e w7 ⟨rfl, rfl⟩
            clear C
            go_wp2_with fail
            refine C3.out.mono ?_
            rintro e w7 ⟨rfl, rfl⟩
            clear C3
            go_wp2_with fail
            refine (fixed_any _).mono ?_
            rintro e w8 ⟨rfl, h8⟩
            have H8 := Lib.hid (HM.out.below.trans (h8.mono HM.out.below.size))
            clear h8 HM
            go_wp2
            go_ret
            exact ⟨rfl, H8.out⟩
end Go.Proofs.Ytnfnbbipmempjaa

/-
  Copies: append of a row onto an empty row; contracts of maps.Clone and slices.Clone at the disk's types, and of Copy.
-/
import Derived.Test.YtnfnbbipmempjaaN
import Derived.Shelf.SlMaps.Clone
import Derived.Maps.AppendAt
import Derived.Lib.SliceRun
import Derived.Laws.AppendOwnNone
namespace Go.Proofs.Ytnfnbbipmempjaa
open Go.RowKit

theorem op_copy {o : Oper} {a : Act} {K : Act → World → Prop} {Q : Exit → Act → World → Prop} (w : World) (T e k B : Nat) (z : Value) (hT : Try.prog.underlying T = some (.slice e)) (hinf : (Try.prog.info? e).map (fun i => (i.zero, i.size, i.bytes)) = some (some z, k, B)) (hB : B ≤ 24) (hz : z.cells.size = k) (hk0 : 0 < k) (s x : Operand)
    (ho : o.op = .call { callee := .builtin .append, args := #[s, x], argTypes := #[T, T] }) (g : Nat) (hs : a.eval s = .slice (some ⟨g, 0, none⟩) 0 0) (hg : OwnR w e k (some ⟨g, 0, none⟩) 0 0 [])
    (A : Option Addr) (n c : Nat) (xs : List Value) (hx : a.eval x = .slice A n c) (hown : OwnR w e k A n c xs) (h1 : ∀ u ∈ xs, u.oneCell' = true) (hlen : n ≤ 200000)
    (h : ∀ A' c' w', OwnR w' e k A' n c' xs → w.grownBy w' (some g) → (∀ b, rowB A' = some b → b = g ∨ b = w.heap.size) → K (a.put o.dst (.slice A' n c')) w') : Oper.wp Try.prog o a w K Q := by
  obtain ⟨i0, hi, hz0, hz1, hz2⟩ := info_parts hinf
  cases A with
  | none =>
    obtain ⟨rfl, rfl⟩ := hown.cap.2.2 rfl
    have hxs : xs = [] := List.eq_nil_of_length_eq_zero (by simpa using hown.1)
    subst hxs
    have hrun := run_append_owned_none (P := Try.prog) (w := w) 0 T o.type e i0 k hT hi _ 0 [] hg
    unfold Oper.wp execOp
    simp only [ho, resolve, invoke, builtin, Sem.run_bind, Sem.run_pure, Result.andThen_ok, List.map_toArray, List.map_cons, List.map_nil, hs, hx, hrun]
    exact h _ _ _ hg (World.grownBy.refl w _) (fun b hb => .inl (by simpa [rowB] using hb.symm))
  | some ad =>
    have hcells : ∀ j u, xs[j]? = some u → w.cell? (ad.add j) = some u := fun j u hj => by
      have hn : 0 < n := by
        rcases Nat.eq_zero_or_pos n with h0 | h0
        · subst h0
          have : xs = [] := List.eq_nil_of_length_eq_zero (by simpa using hown.1)
          subst this
          simp at hj
        · exact h0
      obtain ⟨b, e1, hc⟩ := OwnR.cell hown hn
      simp only [Option.some.injEq] at e1
      subst e1
      have := hc j u hj
      unfold Addr.add
      split
      · rename_i h0; subst h0; exact this
      · simpa using this
    obtain ⟨v', w', hrun, h2, h3, _, h5⟩ := run_append_own_at (P := Try.prog) w 0 T o.type e i0 z k B hT hi hz0 hz1 hz2 hz hk0 _ 0 [] hg ad n c xs hown.1 hcells h1 (by unfold maxLen; omega) (by have : (0 + n) * B ≤ 200000 * 24 := Nat.mul_le_mul (by omega) hB; omega) (Nat.zero_le _)
    rw [Nat.zero_add, List.nil_append] at h2
    obtain ⟨A', c', rfl⟩ : ∃ A' c', v' = .slice A' n c' := by
      rcases h2.2 with ⟨q, q2⟩ | ⟨g', cap, cur, q, _⟩
      · subst q2; exact ⟨_, _, q⟩
      · exact ⟨_, _, q⟩
    have hob : ∀ (A : Option Addr) (n c : Nat), (Value.slice A n c).ownBlock = rowB A := fun A n c => by cases A <;> rfl
    rw [hob, hob] at h5
    rw [hob] at h3
    unfold Oper.wp execOp
    simp only [ho, resolve, invoke, builtin, Sem.run_bind, Sem.run_pure, Result.andThen_ok, List.map_toArray, List.map_cons, List.map_nil, hs, hx, hrun]
    refine h A' c' w' h2 h3 (fun b hb => ?_)
    rw [hb] at h5
    rcases h5 with q | q
    · exact .inl (by simpa [rowB] using q)
    · exact .inr (by simpa using q)
theorem wpList_copy {ops : Array Oper} {rest : List Oper} {o : Oper} {a : Act} {Q : Exit → Act → World → Prop} (w : World) (T e k B : Nat) (z : Value) (hT : Try.prog.underlying T = some (.slice e)) (hinf : (Try.prog.info? e).map (fun i => (i.zero, i.size, i.bytes)) = some (some z, k, B)) (hB : B ≤ 24) (hz : z.cells.size = k) (hk0 : 0 < k) (hgd : o.guard = none) (s x : Operand)
    (ho : o.op = .call { callee := .builtin .append, args := #[s, x], argTypes := #[T, T] }) (g : Nat) (hs : a.eval s = .slice (some ⟨g, 0, none⟩) 0 0) (hg : OwnR w e k (some ⟨g, 0, none⟩) 0 0 [])
    (A : Option Addr) (n c : Nat) (xs : List Value) (hx : a.eval x = .slice A n c) (hown : OwnR w e k A n c xs) (h1 : ∀ u ∈ xs, u.oneCell' = true) (hlen : n ≤ 200000)
    (h : ∀ A' c' w', OwnR w' e k A' n c' xs → w.grownBy w' (some g) → (∀ b, rowB A' = some b → b = g ∨ b = w.heap.size) → wpList Try.prog ops Q rest (a.put o.dst (.slice A' n c')) w') : wpList Try.prog ops Q (o :: rest) a w :=
  wpList_plain hgd fun _ hK => op_copy w T e k B z hT hinf hB hz hk0 s x ho g hs hg A n c xs hx hown h1 hlen (fun A' c' w' q1 q2 q3 => hK _ _ (h A' c' w' q1 q2 q3))
theorem step_copy {ops : Array Oper} {o : Oper} {a : Act} {K : Act → World → Prop} {Q : Exit → Act → World → Prop} {E : Prop} (w : World) (T e k B : Nat) (z : Value) (hT : Try.prog.underlying T = some (.slice e)) (hinf : (Try.prog.info? e).map (fun i => (i.zero, i.size, i.bytes)) = some (some z, k, B)) (hB : B ≤ 24) (hz : z.cells.size = k) (hk0 : 0 < k) (hgd : o.guard = none) (s x : Operand)
    (ho : o.op = .call { callee := .builtin .append, args := #[s, x], argTypes := #[T, T] }) (g : Nat) (hs : a.eval s = .slice (some ⟨g, 0, none⟩) 0 0) (hg : OwnR w e k (some ⟨g, 0, none⟩) 0 0 [])
    (A : Option Addr) (n c : Nat) (xs : List Value) (hx : a.eval x = .slice A n c) (hown : OwnR w e k A n c xs) (h1 : ∀ u ∈ xs, u.oneCell' = true) (hlen : n ≤ 200000)
    (h : ∀ A' c' w', OwnR w' e k A' n c' xs → w.grownBy w' (some g) → (∀ b, rowB A' = some b → b = g ∨ b = w.heap.size) → K (a.put o.dst (.slice A' n c')) w') : if Region.wanted o (yielded ops a.tmps) = true then Oper.wp Try.prog o a w K Q else E := by
  have hw : Region.wanted o (yielded ops a.tmps) = true := by simp [Region.wanted, hgd]
  rw [if_pos hw]
  exact op_copy w T e k B z hT hinf hB hz hk0 s x ho g hs hg A n c xs hx hown h1 hlen h
theorem eql_nil (w : World) (A : Option Addr) (n c : Nat) : (binOp .eql 61 (.slice A n c) (.slice none 0 0)).run Try.prog w = .ok (.bool A.isNone) w := Lib.run_eql_slice_nil w 61 67 A n c 0 0 Try.underlying61
theorem own_none (w : World) (e k : Nat) : OwnR (w.alloc (.cells #[] e)) e k (some ⟨w.heap.size, 0, none⟩) 0 0 [] := World.ownsRow_lit w #[] 0 (Nat.zero_le _) (by unfold maxLen; omega) (by simp)

theorem mclone_any (m N : Nat) (f : Nat → Option Tx) (w : World) (h : MapIs w m N f) :
    Calls Try.prog 23 #[.map (some m)] w fun e w' => e = .returned (.map (some w.heap.size)) ∧ MapIs w' w.heap.size N f ∧ Kp NoB w w' ∧ w.heap.size < w'.heap.size := by
  have h0 := h
  obtain ⟨D, ⟨es, clock, hb, F, hs, hD⟩, hf⟩ := h
  have hq := fun w => run_eql_map_nil_sl (P := Try.prog) w 58 _ _ (some m) Try.underlying58
  have HX := Lib.hid (And.intro F (And.intro hs (And.intro hD hf)))
  clear F hs hD hf h0
  go_enter Try.func23, Try.ntmps23
  go_wp2
  rw [run_callFunc_extern Try.func33 (by kernel_rfl) (by kernel_rfl) (by kernel_rfl) (e := Extern.MapsClone.clone) (by kernel_rfl), run_maps_clone_sl w 58 hb]
  simp only [Result.andThen]
  rw [Oper.upon_value]
  go_wp2
  rw [run_typeAssert_map_sl _ 58 20 _ _ _ Try.underlying58]
  simp only [Result.andThen]
  rw [Oper.upon_value]
  go_wp2
  go_ret
  obtain ⟨F, hs, hD, hf⟩ := HX.out
  exact ⟨rfl, ⟨D, ⟨es, clock, (MapKept.heap_alloc w _).1, F, hs, hD⟩, hf⟩, (kno w).alloc _, by simp⟩

set_option maxHeartbeats 400000 in
theorem sclone_any (A : Option Addr) (c : Nat) (p : List Wt) (w : World) (h : OwnW w A c p) (hp : p.length ≤ 200000) :
    Calls Try.prog 24 #[.slice A p.length c] w fun e w' => ∃ A' c', e = .returned (.slice A' p.length c') ∧ OwnW w' A' c' p ∧ Kp NoB w w' ∧ ∀ b, rowB A' = some b → w.heap.size ≤ b := by
  cases A with
  | none =>
    obtain ⟨h0, rfl⟩ := h.cap.2.2 rfl
    have hpe : p = [] := List.eq_nil_of_length_eq_zero h0
    subst hpe
    have hq := fun w => eql_nil w none 0 0
    go_enter Try.func24, Try.ntmps24
    go_wp2
    go_ret
    exact ⟨none, 0, rfl, World.ownsRow_nil _ _ _ _, kno w, fun b hb => by simp [rowB] at hb⟩
  | some ad =>
    have H := Lib.hid (h.kp ((kno w).alloc (.cells #[] 67)) (fun _ _ h => h))
    clear h
    obtain ⟨n, hn⟩ : ∃ n, p.length = n := ⟨_, rfl⟩
    have HN := Lib.hid hn
    obtain ⟨xs, hxs⟩ : ∃ xs, wcells p = xs := ⟨_, rfl⟩
    have HXS := Lib.hid hxs
    have hone : Hid (∀ u ∈ xs, u.oneCell' = true) := by rw [← hxs]; exact Lib.hid (wcells_one p)
    have H2 : Hid (OwnR (w.alloc (.cells #[] 67)) 67 2 (some ad) n c xs) := by have := H.out; rw [hn, hxs] at this; exact this
    rw [hn] at hp ⊢
    clear H hxs hn
    have hq := fun w => eql_nil w (some ad) n c
    go_enter Try.func24, Try.ntmps24
    go_wp2_with (at_builtin; refine wpList_copy _ 61 67 2 24 _ Try.underlying61 inf67 (by omega) rfl (by omega) rfl _ _ rfl w.heap.size rfl (own_none w 67 2) (some ad) n c xs rfl H2.out hone.out hp ?_; intro A' c' w' hown' hg' hl'; have Z := Lib.hid (And.intro hown' (And.intro hg' hl')); clear hown' hg' hl')
    go_ret
    obtain ⟨z1, z2, z3⟩ := Z.out
    refine ⟨A', c', rfl, ?_, ?_, fun b hb => ?_⟩
    · show OwnR w' 67 2 A' p.length c' (wcells p)
      rw [HN.out, HXS.out]; exact z1
    · exact ((kno w).alloc _).grown z2 (fun k hk => .inr (by cases hk; exact Nat.le_refl _))
    · rcases z3 b hb with q | q
      · omega
      · rw [q]; simp

set_option maxRecDepth 100000 in
set_option maxHeartbeats 4000000 in
theorem copy_disk (s : Nat) (F : Nat → Prop) (st : DS) (w : World) (h : DiskAt w s F st) :
    Calls Try.prog 11 #[.pointer (some ⟨s, 0, none⟩)] w fun e w' => ∃ s', e = .returned (.pointer (some ⟨s', 0, none⟩)) ∧ Kp NoB w w' ∧ DiskAt w' s' (fun x => w.heap.size ≤ x) st := by
  obtain ⟨set, left, m1, m2, A, c, f1, f2, N1, N2, d⟩ := h
  obtain ⟨k, hk⟩ : ∃ k, st.pend.length = k := ⟨_, rfl⟩
  have b0 := d.blk
  rw [hk] at b0
  have B0 : Hid (w.drew.heap[s]? = some (.cells (dcells set left st.n m1 m2 A k c) 63)) := b0
  obtain ⟨⟨c0, c1, c2, c3, c4, c5⟩, -⟩ := dcell b0
  have M1 : Hid (MapIs w.drew m1 N1 f1) := d.syn
  have M2 : Hid (MapIs w.drew m2 N2 f2) := d.ahd
  have O1 : Hid (OwnW w.drew A c st.pend) := d.own
  have hp : st.pend.length ≤ 200000 := by have := d.ok.len; have := d.ok.cnt; omega
  have C := Lib.hid (fun w9 (h9 : OwnW w9 A c st.pend) => sclone_any A c st.pend w9 h9 hp)
  rw [hk] at C
  have HK := Lib.hid hk
  have D := Lib.hid d
  clear b0 d hp hk
  go_enter Try.func11, Try.ntmps11
  go_wp2_with fail
  go_region_held3 (fun w' => w'.cell? ⟨s, 0, none⟩ = some (.bool set) ∧ w'.cell? ⟨s, 1, none⟩ = some (.int .i64 left) ∧ w'.cell? ⟨s, 2, none⟩ = some (.int .i64 st.n) ∧ w'.cell? ⟨s, 3, none⟩ = some (.map (some m1)) ∧ w'.cell? ⟨s, 4, none⟩ = some (.map (some m2)) ∧ w'.cell? ⟨s, 5, none⟩ = some (.slice A k c))
    (first
      | go_keep
      | exact (dcell bA).1
      | exact (dcell bB).1
      | exact (dcell bC).1)
    (first
      | (go_at_call 23; (with_reducible refine (mclone_any m1 N1 f1 _ M1.out).mono ?_); rintro e wA ⟨rfl, hA, kA, gA⟩; have bA := kA.keep B0.out (fun h => h))
      | (go_at_call 23; (with_reducible refine (mclone_any m2 N2 f2 _ (M2.out.kp kA (fun h => h))).mono ?_); rintro e wB ⟨rfl, hB, kB, gB⟩; have bB := kB.keep bA (fun h => h))
      | (go_at_call 24; (with_reducible refine (C.out _ ((O1.out.kp kA (fun _ _ h => h)).kp kB (fun _ _ h => h))).mono ?_); rintro e wC ⟨A', c', rfl, hC, kC, lC⟩; have bC := kC.keep bB (fun h => h)))
  have Z := Lib.hid (And.intro hA (And.intro kA (And.intro gA (And.intro hB (And.intro kB (And.intro gB (And.intro hC (And.intro kC lC))))))))
  clear hA kA gA bA hB kB gB bB hC kC lC bC c0 c1 c2 c3 c4 c5 M1 M2 O1 C B0
  go_wp2
  go_ret
  obtain ⟨hA, kA, gA, hB, kB, gB, hC, kC, lC⟩ := Z.out
  have d := D.out
  have hk0 : Kp NoB w wC := (((kno w).drew.trans kA (fun _ _ h => h)).trans kB (fun _ _ h => h)).trans kC (fun _ _ h => h)
  have s1 := kA.size
  have s2 := kB.size
  have s3 := kC.size
  have e1 : w.drew.heap.size = w.heap.size := rfl
  rw [e1] at hA gA s1
  refine ⟨wC.heap.size, rfl, hk0.alloc _, set, left, w.heap.size, wA.heap.size, A', c', f1, f2, N1, N2, ?_, d.lim, d.l1, d.l2, ?_, ?_, by omega, d.bs, d.la, hC.kp ((kno wC).alloc _) (fun _ _ h => h), by show w.heap.size ≤ wC.heap.size; omega, Nat.le_refl _, by show w.heap.size ≤ wA.heap.size; omega, fun b hb => by have := lC b hb; show w.heap.size ≤ b; omega, d.n1, d.n2, d.ok⟩
  · rw [HK.out]; exact blk_new wC _
  · exact ((hA.kp kB (fun h => h)).kp kC (fun h => h)).alloc _
  · exact (hB.kp kC (fun h => h)).alloc _

end Go.Proofs.Ytnfnbbipmempjaa

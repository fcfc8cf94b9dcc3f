/-
  Contracts of the document's disk: Sync and Crash.
-/
import Derived.Test.YtnfnbbipmempjaaL
namespace Go.Proofs.Ytnfnbbipmempjaa
open Go.RowKit

theorem OwnR.setAt {w : World} {e n c b j : Nat} {xs ys : List Value} (h : OwnR w e 1 (some ⟨b, 0, none⟩) n c xs) (v : Value) (hy : xs.set j v = ys) : OwnR (w.setCell ⟨b, j, none⟩ v) e 1 (some ⟨b, 0, none⟩) n c ys := by
  subst hy
  refine ⟨by rw [List.length_set]; exact h.1, ?_⟩
  rcases h.2 with ⟨q, _⟩ | ⟨g, cap, cur, h1, h2, h3, h4, h5, h6, h7⟩
  · simp at q
  · simp only [Value.slice.injEq, Option.some.injEq, Addr.mk.injEq, and_true, true_and] at h1
    obtain ⟨rfl, rfl⟩ := h1
    refine .inr ⟨b, c, cur.setIfInBounds j v, rfl, h2, blk_set h3 j v, h4, h5, by simpa using h6, ?_⟩
    rw [Array.toList_setIfInBounds, List.take_set, h7]
theorem sec_set {st : DS} {j : Nat} {u : Tx} (B : Nat → Tx) (hB : ∀ i, B i = if j = i then u else st.base i) : (secL st).set j u = secL { st with base := B } := by
  apply List.ext_getElem?
  intro i
  rw [List.getElem?_set]
  unfold secL
  by_cases hi : i < st.n
  · by_cases hj : j = i
    · subst hj; simp [hi, hB]
    · simp [hi, hB, hj]
  · by_cases hj : j = i
    · subst hj; simp [hi]
    · simp [hi, hj]
theorem scells_put (l : List Tx) (j : Nat) (u : Tx) : (scells l).set j (.string ⟨u.toArray⟩) = scells (l.set j u) := by simp [scells, List.map_set]
/-- One sector is written. -/
theorem Rf.put {w : World} {s : Nat} {F : Nat → Prop} {st : DS} {W V : Option Addr} {cL cW cV bL j : Nat} {u : Tx} (d : Rf w s F st (some ⟨bL, 0, none⟩) W V cL cW cV) (hu : u.length ≤ 64) (B : Nat → Tx) (hB : ∀ i, B i = if j = i then u else st.base i) :
    Rf (w.setCell ⟨bL, j, none⟩ (.string ⟨u.toArray⟩)) s F { st with base := B } (some ⟨bL, 0, none⟩) W V cL cW cV := by
  have k := (Kp.refl (· = bL) w).setCell (p := ⟨bL, j, none⟩) (.inl rfl) (.string ⟨u.toArray⟩)
  refine ⟨k.keep d.blk (fun e => d.row_ne (b := bL) (.inl rfl) e.symm), d.l1, ?_, d.ownW.kp k (fun b hb e => by subst e; exact (d.apart hb).1 rfl), d.ownV.kp k (fun b hb e => by subst e; exact d.ne b rfl hb), d.ne, d.F0, d.FL, d.FW, d.FV, d.ok.n, d.ok.pend, fun i => ?_, d.ok.len, d.ok.cnt⟩
  · exact OwnR.setAt d.ownL _ (by rw [scells_put, sec_set B hB])
  · show (B i).length ≤ 64
    rw [hB i]
    split
    · exact hu
    · exact d.ok.base i
theorem Rf.clear {w : World} {s : Nat} {F : Nat → Prop} {st : DS} {L W V : Option Addr} {cL cW cV : Nat} (d : Rf w s F st L W V cL cW cV) :
    Rf ((w.setCell ⟨s, 1, none⟩ (.slice none 0 0)).setCell ⟨s, 2, none⟩ (.slice none 0 0)) s F { st with pend := [] } L none none cL 0 0 := by
  have k := ((Kp.refl (· = s) w).setCell (p := ⟨s, 1, none⟩) (.inl rfl) (.slice none 0 0)).setCell (p := ⟨s, 2, none⟩) (.inl rfl) (.slice none 0 0)
  exact ⟨blk_set (blk_set d.blk 1 _) 2 _, d.l1, d.ownL.kp k (fun b hb => d.row_ne (.inl hb)), World.ownsRow_nil _ _ _ _, World.ownsRow_nil _ _ _ _, fun b _ hb => by simp [rowB] at hb, d.F0, d.FL, fun b hb => by simp [rowB] at hb, fun b hb => by simp [rowB] at hb, d.ok.n, fun x hx => by simp at hx, d.ok.base, by simp, d.ok.cnt⟩
theorem Rf.drew {w : World} {s : Nat} {F : Nat → Prop} {st : DS} {L W V : Option Addr} {cL cW cV : Nat} (d : Rf w s F st L W V cL cW cV) : Rf w.drew s F st L W V cL cW cV :=
  ⟨d.blk, d.l1, d.ownL, d.ownW, d.ownV, d.ne, d.F0, d.FL, d.FW, d.FV, d.ok⟩
theorem Rf.rows {w : World} {s : Nat} {F : Nat → Prop} {st : DS} {L W V : Option Addr} {cL cW cV k : Nat} {x : Wt} (d : Rf w s F st L W V cL cW cV) (hx : st.pend[k]? = some x) :
    ∃ bL bW bV, L = some ⟨bL, 0, none⟩ ∧ W = some ⟨bW, 0, none⟩ ∧ V = some ⟨bV, 0, none⟩ ∧ w.cell? ⟨bW, k, none⟩ = some (.int .i64 x.1) ∧ w.cell? ⟨bV, k, none⟩ = some (.string ⟨x.2.toArray⟩) ∧ (∃ v, w.cell? ⟨bL, x.1, none⟩ = some v) ∧ w.frozen? ⟨bL, x.1, none⟩ = false := by
  have hk : k < st.pend.length := (List.getElem?_eq_some_iff.1 hx).1
  have hx1 := (d.ok.pend x (List.mem_of_getElem? hx)).1
  obtain ⟨bL, rfl, hL⟩ := OwnR.cell d.ownL (by omega)
  obtain ⟨bW, rfl, hW⟩ := OwnR.cell d.ownW (by omega)
  obtain ⟨bV, rfl, hV⟩ := OwnR.cell d.ownV (by omega)
  refine ⟨bL, bW, bV, rfl, rfl, rfl, hW k _ (ncells_at (by simp [hx])), hV k _ (scells_at (by simp [hx])), ⟨_, hL x.1 _ (scells_at (sec_at hx1))⟩, ?_⟩
  obtain ⟨_, cur, q, _⟩ := OwnR.block d.ownL (b := bL) rfl
  exact frozen_of q _
theorem RdC.kp' {F : Nat → Prop} {w w' : World} {A : Option Addr} {p : List Value} (h : RdC w A p) (hk : Kp F w w') (hf : 0 < p.length → ∀ b, rowB A = some b → ¬ F b) : RdC w' A p := fun h0 => h.kp hk (hf h0) h0
theorem kept_stop : ∀ (p : List Wt) (ks : List Bool) (k : Nat), ks.length ≤ k → keptL (p.take k) ks = keptL p ks
  | [], _, _, _ => by simp
  | x :: p, [], k, _ => by rw [kept_none, kept_none]
  | x :: p, b :: ks, 0, h => by simp at h
  | x :: p, b :: ks, k + 1, h => by
    have := kept_stop p ks k (by simpa using h)
    simp only [List.take_succ_cons, keptL]
    rw [this]

set_option maxRecDepth 100000 in
set_option maxHeartbeats 2000000 in
theorem rsync_disk (s : Nat) (F : Nat → Prop) (st : DS) (w : World) (h : RefAt w s F st) :
    Calls Try.prog 26 #[.pointer (some ⟨s, 0, none⟩)] w (RPost w s F (syncS st) (.int .i64 (syncE st))) := by
  have C := Lib.hid (ruse_disk s F st w h)
  clear h
  unfold syncS syncE
  cases hl : liveB st
  · rw [hl] at C
    simp only [Bool.false_eq_true, if_false] at C ⊢
    clear hl
    go_enter Try.func26, Try.ntmps26
    go_wp2_with fail
    refine C.out.mono ?_
    rintro e w1 ⟨rfl, hk, hd⟩
    have H := Lib.hid (And.intro hk hd)
    clear hk hd
    go_wp2
    go_ret
    exact ⟨rfl, H.out.1, H.out.2⟩
  · rw [hl] at C
    simp only [if_true] at C ⊢
    clear hl
    go_enter Try.func26, Try.ntmps26
    go_wp2_with fail
    refine C.out.mono ?_
    rintro e w1 ⟨rfl, hk, F1, hd, hF⟩
    obtain ⟨L, W, V, cL, cW, cV, d⟩ := hd
    have HK := Lib.hid (And.intro hk hF)
    have e0 : (usedS st).pend = st.pend := rfl
    have e1 : (usedS st).base = st.base := rfl
    obtain ⟨p, hp⟩ : ∃ p, st.pend = p := ⟨_, rfl⟩
    rw [hp] at e0
    have hl1 : p.length ≤ 1000 := by have h1 := d.ok.len; have h2 := d.ok.cnt; rw [e0] at h1; omega
    obtain ⟨S, hS⟩ : ∃ S, usedS st = S := ⟨_, rfl⟩
    rw [hS] at d e0 e1
    have E9 : Hid (settleS (usedS st) st.pend = { S with base := doL S.base p, pend := [] }) := by rw [hS, hp]; exact Lib.hid rfl
    have D : Hid (Rf w1 s F1 { S with base := doL S.base (p.take 0) } L W V cL cW cV) := by rw [List.take_zero, doL_nil]; exact d
    have E0 := Lib.hid e0
    have hp2 : Hid (∀ x ∈ p, x.2.length ≤ 64 ∧ x.1 < S.n) := fun x hx => ⟨(d.ok.pend x (by rw [e0]; exact hx)).2, (d.ok.pend x (by rw [e0]; exact hx)).1⟩
    have hn := d.ok.n
    clear hk hF d C hp hS e0 e1
    go_wp2_with fail
    go_loopw [3] (fun vi wr => ∃ (k : Nat), k ≤ p.length ∧ vi = .int .i64 k ∧ Rf wr s F1 { S with base := doL S.base (p.take k) } L W V cL cW cV ∧ Kp F1 w1 wr) (fun vi _ => p.length - (intOf vi).toNat)
    case atStart => exact ⟨0, Nat.zero_le _, rfl, D.out, Kp.refl _ _⟩
    case round =>
      obtain ⟨k, hk, rfl, d, hkp⟩ := hrel
      clear D
      have HKP := Lib.hid hkp
      by_cases hlt : k < p.length
      · obtain ⟨x, hx⟩ : ∃ x, p[k]? = some x := ⟨_, List.getElem?_eq_getElem hlt⟩
        have hx' : ({ S with base := doL S.base (p.take k) } : DS).pend[k]? = some x := by show S.pend[k]? = _; rw [E0.out]; exact hx
        obtain ⟨bL, bW, bV, rfl, rfl, rfl, cw, cv, ⟨v, cl⟩, fl⟩ := d.rows hx'
        obtain ⟨⟨c0, c1, c2, -⟩, -⟩ := rcell d.blk
        obtain ⟨hx2, hx3⟩ := hp2.out x (List.mem_of_getElem? hx)
        have D2 := Lib.hid (d.drew.put hx2 (doL S.base (p.take (k + 1))) (fun i => doL_step hx i))
        obtain ⟨j, u⟩ := x
        simp only at cw cv cl fl hx2 hx3 D2
        have FL := Lib.hid (d.FL bL rfl)
        rw [show ({ S with base := doL S.base (p.take k) } : DS).pend = p from E0.out] at c1 c2
        have i1 : (k : Int) < (p.length : Int) := by omega
        have i2 : (j : Int) < (S.n : Int) := by omega
        clear hx hx' d hkp
        go_wp2_with fail
        go_still_tail 19, (by kernel_rfl)
        change wpList _ _ _ _ _ wr.drew
        go_wp2_with fail
        go_roundw
        case rel => exact ⟨k + 1, by omega, by go_num, D2.out, HKP.out.drew.setCell (p := ⟨bL, j, none⟩) (.inl FL.out) _⟩
        case measure => simp [intOf]; omega
      · obtain rfl : k = p.length := by omega
        rw [List.take_length] at d
        obtain ⟨⟨-, c1, c2, -⟩, f⟩ := rcell d.blk
        rw [show ({ S with base := doL S.base p } : DS).pend = p from E0.out] at c1 c2
        have f1 := f 1
        have f2 := f 2
        have D2 := Lib.hid d.clear
        have F0 := Lib.hid d.F0
        clear d f hkp
        go_wp2
        go_ret
        obtain ⟨hk1, hF1⟩ := HK.out
        have hs := hk1.size
        rw [E9.out]
        refine ⟨rfl, hk1.trans ((HKP.out.setCell (p := ⟨s, 1, none⟩) (.inl F0.out) _).setCell (p := ⟨s, 2, none⟩) (.inl F0.out) _) (fun x hx h1 => by rcases hF1 x h1 with q | q; exact q; omega), F1, ⟨L, none, none, cL, 0, 0, D2.out⟩, hF1⟩

set_option maxRecDepth 100000 in
set_option maxHeartbeats 2000000 in
theorem rcrash_disk (B : Option Addr) (cB s : Nat) (ks : List Bool) (F : Nat → Prop) (S : DS) (w : World) (h : RefAt w s F S) (hr : RdB w B ks) (hks : ks.length ≤ 9223372036854775807) (hB : 0 < ks.length → ∀ b, rowB B = some b → ¬ F b) :
    Calls Try.prog 16 #[.pointer (some ⟨s, 0, none⟩), .slice B ks.length cB] w (RPost w s F (crashS S ks) (.tuple #[])) := by
  obtain ⟨L, W, V, cL, cW, cV, d⟩ := h
  obtain ⟨p, hp⟩ : ∃ p, S.pend = p := ⟨_, rfl⟩
  have hl1 : p.length ≤ 1000 := by have h1 := d.ok.len; have h2 := d.ok.cnt; rw [hp] at h1; omega
  have D : Hid (Rf w s F { S with base := doL S.base (keptL (p.take 0) ks) } L W V cL cW cV) := by rw [List.take_zero, show keptL [] ks = [] from rfl, doL_nil]; exact d
  have E0 := Lib.hid hp
  have E9 : Hid (crashS S ks = { S with base := doL S.base (keptL p ks), pend := [], lim := none }) := by unfold crashS settleS; rw [hp]; exact Lib.hid rfl
  have hp2 : Hid (∀ x ∈ p, x.2.length ≤ 64 ∧ x.1 < S.n) := fun x hx => ⟨(d.ok.pend x (by rw [hp]; exact hx)).2, (d.ok.pend x (by rw [hp]; exact hx)).1⟩
  have hn := d.ok.n
  have HR := Lib.hid hr
  have HB := Lib.hid hB
  clear d hp hr hB
  go_enter Try.func16, Try.ntmps16
  go_wp2_with fail
  go_loopw [4] (fun vi wr => ∃ (k : Nat), k ≤ p.length ∧ k ≤ ks.length ∧ vi = .int .i64 k ∧ Rf wr s F { S with base := doL S.base (keptL (p.take k) ks) } L W V cL cW cV ∧ Kp F w wr) (fun vi _ => p.length - (intOf vi).toNat)
  case atStart => exact ⟨0, Nat.zero_le _, Nat.zero_le _, rfl, D.out, Kp.refl _ _⟩
  case round =>
    obtain ⟨k, hk, hk2, rfl, d, hkp⟩ := hrel
    clear D
    have HKP := Lib.hid hkp
    have hrk := HR.out.kp' hkp (fun h0 b hb => HB.out (by simpa [bcells] using h0) b hb)
    by_cases hlt : k < p.length ∧ k < ks.length
    · obtain ⟨hlt, hlt2⟩ := hlt
      obtain ⟨x, hx⟩ : ∃ x, p[k]? = some x := ⟨_, List.getElem?_eq_getElem hlt⟩
      have hx' : ({ S with base := doL S.base (keptL (p.take k) ks) } : DS).pend[k]? = some x := by show S.pend[k]? = _; rw [E0.out]; exact hx
      obtain ⟨v, hv⟩ : ∃ v, ks[k]? = some v := ⟨_, List.getElem?_eq_getElem hlt2⟩
      obtain ⟨b2, o2, rfl, hcb⟩ := hrk (by rw [bcells_len]; omega)
      have c3 := hcb k _ (bcells_at hv)
      obtain ⟨bL, bW, bV, rfl, rfl, rfl, cw, cv, ⟨v0, cl⟩, fl⟩ := d.rows hx'
      obtain ⟨⟨c0, c1, c2, -⟩, -⟩ := rcell d.blk
      obtain ⟨hx2, hx3⟩ := hp2.out x (List.mem_of_getElem? hx)
      have hst := kept_step p ks k x hx
      rw [hv] at hst
      rw [show ({ S with base := doL S.base (keptL (p.take k) ks) } : DS).pend = p from E0.out] at c1 c2
      have i1 : (k : Int) < (p.length : Int) := by omega
      have i3 : (k : Int) < (ks.length : Int) := by omega
      have i2 : (x.1 : Int) < (S.n : Int) := by omega
      cases v
      · rw [if_neg (by simp)] at hst
        have D2 := Lib.hid d
        rw [← hst] at D2
        clear hx hx' d hkp hcb hv hst hrk c0 c2 cw cv cl fl i2
        go_wp2_with fail
        go_roundw
        case rel => exact ⟨k + 1, by omega, by omega, by go_num, D2.out, HKP.out⟩
        case measure => simp [intOf]; omega
      · rw [if_pos rfl] at hst
        have D2 := Lib.hid (d.drew.put hx2 (doL S.base (keptL (p.take (k + 1)) ks)) (fun i => by rw [hst, doL_snoc]))
        obtain ⟨j, u⟩ := x
        simp only at cw cv cl fl hx2 hx3 D2 i2
        have FL := Lib.hid (d.FL bL rfl)
        clear hx hx' d hkp hcb hv hst hrk
        go_wp2_with fail
        go_still_tail 19, (by kernel_rfl)
        change wpList _ _ _ _ _ wr.drew
        go_wp2_with fail
        go_roundw
        case rel => exact ⟨k + 1, by omega, by omega, by go_num, D2.out, HKP.out.drew.setCell (p := ⟨bL, j, none⟩) (.inl FL.out) _⟩
        case measure => simp [intOf]; omega
    · have hst : keptL (p.take k) ks = keptL p ks := by
        rcases Nat.lt_or_ge k ks.length with z | z
        · rw [show k = p.length by omega, List.take_length]
        · exact kept_stop p ks k z
      rw [hst] at d
      obtain ⟨⟨-, c1, c2, c3⟩, f⟩ := rcell d.blk
      rw [show ({ S with base := doL S.base (keptL p ks) } : DS).pend = p from E0.out] at c1 c2
      have f1 := f 1
      have f2 := f 2
      have f3 := f 3
      have D2 := Lib.hid (d.clear.lims none (by simp [leftV]))
      have F0 := Lib.hid d.F0
      have hways : ¬ k < p.length ∨ (k < p.length ∧ ¬ k < ks.length) := by omega
      clear d f hkp hrk hst hlt
      rcases hways with hw | ⟨hw, hw2⟩
      all_goals
        go_wp2
        go_end0
        rw [E9.out]
        exact ⟨rfl, ((HKP.out.setCell (p := ⟨s, 1, none⟩) (.inl F0.out) _).setCell (p := ⟨s, 2, none⟩) (.inl F0.out) _).setCell (p := ⟨s, 3, none⟩) (.inl F0.out) _, F, ⟨L, none, none, cL, 0, 0, D2.out⟩, fun x hx => .inl hx⟩
end Go.Proofs.Ytnfnbbipmempjaa

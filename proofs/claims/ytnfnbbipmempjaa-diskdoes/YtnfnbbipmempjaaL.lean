/-
  Contracts of the document's disk: Write.
-/
import Derived.Test.YtnfnbbipmempjaaK
namespace Go.Proofs.Ytnfnbbipmempjaa
open Go.RowKit

theorem new_set (w : World) (p : Addr) (v : Value) (cs : Array Value) (ty : TypeId) (i : Nat) : ((w.setCell p v).alloc (.cells cs ty)).cell? ⟨w.heap.size, i, none⟩ = cs[i]? := by
  have := cell_of (blk_new (w.setCell p v) (.cells cs ty)) i
  rwa [show (w.setCell p v).heap.size = w.heap.size by simp] at this
set_option maxRecDepth 100000 in
set_option maxHeartbeats 2000000 in
theorem rwrite_yes (i s : Nat) (t : Tx) (F : Nat → Prop) (st : DS) (w : World) (h : RefAt w s F st) (hi : i < st.n) (ht : t.length ≤ 64) (hl : liveB st = true) (hcnt : st.cnt < 1000) :
    Calls Try.prog 25 #[.pointer (some ⟨s, 0, none⟩), .int .i64 i, .string ⟨t.toArray⟩] w (RPost w s F (pushS (usedS st) i t) (.int .i64 0)) := by
  have C2 := Lib.hid (ruse_disk s F st w h)
  rw [hl, if_pos rfl] at C2
  have c00 : ∃ L cL, w.cell? ⟨s, 0, none⟩ = some (.slice L st.n cL) := by
    obtain ⟨L, W, V, cL, cW, cV, d⟩ := h
    obtain ⟨⟨c0, c1, c2, -⟩, -⟩ := rcell d.blk
    exact ⟨L, cL, c0⟩
  obtain ⟨L0, cL0, c00⟩ := c00
  clear h
  have e64 : ¬ (64 : Int) < (t.length : Int) := by omega
  have i1 : (i : Int) < (st.n : Int) := by omega
  have i2 : ¬ (st.n : Int) ≤ (i : Int) := by omega
  go_enter Try.func25, Try.ntmps25
  go_wp2_with fail
  refine C2.out.mono ?_
  rintro e w1 ⟨rfl, hk, F1, hd, hF⟩
  have HK := Lib.hid (And.intro hk hF)
  obtain ⟨L, W, V, cL, cW, cV, d⟩ := hd
  obtain ⟨⟨-, c1, -, -⟩, -⟩ := rcell d.blk
  have hsz := lt_of_blk d.blk
  have D := Lib.hid d
  have hlen : Hid (st.pend.length + 1 ≤ 200000) := by have h1 := d.ok.len; have h2 := d.ok.cnt; simp only [usedS] at h1 h2; exact Lib.hid (by omega)
  rw [show (usedS st).pend = st.pend from rfl] at c1
  obtain ⟨k, hkk⟩ : ∃ k, st.pend.length = k := ⟨_, rfl⟩
  rw [hkk] at c1 hlen
  have HKK := Lib.hid hkk
  have OW : Hid (OwnR w1 3 1 W k cW (ncells (st.pend.map (·.1)))) := by have := d.ownW; rw [show (usedS st).pend = st.pend from rfl, hkk] at this; exact this
  have OV : Hid (OwnR w1 9 1 V k cV (scells (st.pend.map (·.2)))) := by have := d.ownV; rw [show (usedS st).pend = st.pend from rfl, hkk] at this; exact this
  have B1 : Hid (w1.heap[s]? = some (.cells #[.slice L st.n cL, .slice W k cW, .slice V k cV, .int .i64 (leftV (usedS st).lim)] 40)) := by have := d.blk; rw [show (usedS st).pend = st.pend from rfl, hkk] at this; exact this
  obtain ⟨pw, hpw⟩ : ∃ pw, ncells (st.pend.map (·.1)) = pw := ⟨_, rfl⟩
  obtain ⟨pv, hpv⟩ : ∃ pv, scells (st.pend.map (·.2)) = pv := ⟨_, rfl⟩
  have lw : Hid (k = pw.length) := by rw [← hpw, ncells_len]; simp; exact hkk.symm
  have lv : Hid (k = pv.length) := by rw [← hpv, scells_len]; simp; exact hkk.symm
  rw [hpw] at OW
  rw [hpv] at OV
  obtain ⟨rw', hrw⟩ : ∃ r, pw ++ [.int .i64 i] = r := ⟨_, rfl⟩
  obtain ⟨rv', hrv⟩ : ∃ r, pv ++ [.string ⟨t.toArray⟩] = r := ⟨_, rfl⟩
  have HW := Lib.hid (And.intro hpw hrw)
  have HV := Lib.hid (And.intro hpv hrv)
  obtain ⟨k', hk'⟩ : ∃ k', k' = k + 1 := ⟨_, rfl⟩
  have HK' := Lib.hid hk'
  have SW : Hid (∀ b, rowB W = some b → b ≠ s) := fun b hb => d.row_ne (.inr (.inl hb))
  have SV : Hid (∀ b, rowB V = some b → b ≠ s) := fun b hb => d.row_ne (.inr (.inr hb))
  have WV : Hid (∀ b, rowB W = some b → rowB V ≠ some b) := fun b hb => (d.apart hb).2
  clear hk hF d C2 hkk hpw hpv hrw hrv hk' c00
  go_wp2_with (first
    | (at_builtin; refine wpList_append_c _ 38 3 8 _ Try.underlying38 inf3 (by omega) rfl rfl _ _ rfl W k cW pw lw.out rfl (OW.out.kp ((kno w1).alloc _) (fun _ _ h => h)) w1.heap.size (.int .i64 i) rfl rfl (cell_of (blk_new _ _) 0) (by have := lw.out; have := hlen.out; omega) rw' HW.out.2 k' HK'.out ?_; intro W1 cW1 w3 hown3 hg3 hl3; have kA : Kp (fun x => rowB W = some x) w1 w3 := (((kno w1).alloc _).mono (fun _ h => h.elim)).grown hg3 (fun _ hk => .inl hk); have b3 := kA.keep B1.out (fun e => SW.out s e rfl); have c13 : w3.cell? ⟨s, 1, none⟩ = some (.slice W k cW) := cell_of b3 1; have c23 : w3.cell? ⟨s, 2, none⟩ = some (.slice V k cV) := cell_of b3 2; have f13 := frozen_of b3 1; have hs3 := lt_of_blk b3; have KA := Lib.hid kA; have B3 := Lib.hid b3; have O3 := Lib.hid hown3; have L3 : Hid (∀ g, rowB W1 = some g → rowB W = some g ∨ w1.heap.size ≤ g) := (fun g hg => (hl3 g hg).imp id (fun q => by rw [← q]; simp)); have K4 : Hid (Kp (fun x => rowB W = some x ∨ x = s) w1 ((w3.setCell ⟨s, 1, none⟩ (.slice W1 k' cW1)).alloc (.cells #[.string ⟨t.toArray⟩] 9))) := ((kA.mono (fun _ h => .inl h)).setCell (p := ⟨s, 1, none⟩) (.inl (.inr rfl)) _).alloc _; have OV4 := Lib.hid (OV.out.kp K4.out (fun b hb q => (by rcases q with q | q; exact WV.out b q hb; exact SV.out b hb q : False))); have B4 : Hid (((w3.setCell ⟨s, 1, none⟩ (.slice W1 k' cW1)).alloc (.cells #[.string ⟨t.toArray⟩] 9)).heap[s]? = some (.cells #[.slice L st.n cL, .slice W1 k' cW1, .slice V k cV, .int .i64 (leftV (usedS st).lim)] 40)) := blk_alloc (blk_set b3 1 _) _; clear hown3 hg3 hl3 kA b3 c1)
    | (at_builtin; refine wpList_append_c _ 37 9 16 _ Try.underlying37 inf9 (by omega) rfl rfl _ _ rfl V k cV pv lv.out rfl OV4.out w3.heap.size (.string ⟨t.toArray⟩) rfl rfl (new_set _ _ _ _ _ 0) (by have := lv.out; have := hlen.out; omega) rv' HV.out.2 k' HK'.out ?_; intro V1 cV1 w6 hown6 hg6 hl6; have kB : Kp (fun x => rowB V = some x) ((w3.setCell ⟨s, 1, none⟩ (.slice W1 k' cW1)).alloc (.cells #[.string ⟨t.toArray⟩] 9)) w6 := (Kp.refl _ _).grown hg6 (fun _ hk => .inl hk); have b6 := kB.keep B4.out (fun e => SV.out s e rfl); have c26 : w6.cell? ⟨s, 2, none⟩ = some (.slice V k cV) := cell_of b6 2; have f26 := frozen_of b6 2; have KB := Lib.hid kB; have B6 := Lib.hid b6; have O6 := Lib.hid hown6; have L6 : Hid (∀ g, rowB V1 = some g → rowB V = some g ∨ w3.heap.size ≤ g) := (fun g hg => (hl6 g hg).imp id (fun q => by rw [← q]; simp)); clear hown6 hg6 hl6 kB b6 c13 c23 f13 hs3)
    | go_in)
  go_ret
  obtain ⟨p1, p2⟩ := HK.out
  have d := D.out
  have s01 := p1.size
  have s13 := KA.out.size
  have e1 : (pushS (usedS st) i t).pend.length = k' := by rw [HK'.out, ← HKK.out]; show (st.pend ++ [(i, t)]).length = _; simp
  have hkS : Kp (· = s) w6 (w6.setCell ⟨s, 2, none⟩ (.slice V1 k' cV1)) := (Kp.refl (· = s) w6).setCell (p := ⟨s, 2, none⟩) (.inl rfl) _
  have O4 : OwnR (w3.setCell ⟨s, 1, none⟩ (.slice W1 k' cW1)) 3 1 W1 k' cW1 rw' := OwnR.kp (F := (· = s)) O3.out ((Kp.refl (· = s) w3).setCell (p := ⟨s, 1, none⟩) (.inl rfl) _) (fun b hb e => by
    subst e
    obtain ⟨_, cur, q, _⟩ := OwnR.block O3.out hb
    rw [B3.out] at q; simp at q)
  have O5 := O4.kp ((kno _).alloc (.cells #[.string ⟨t.toArray⟩] 9)) (fun _ _ h => h)
  have k16 : Kp F1 w1 w6 := (K4.out.mono (fun x hx => by rcases hx with hx | rfl; exact d.FW x hx; exact d.F0)).trans KB.out (fun x _ hx => d.FV x hx)
  have k17 := k16.setCell (p := ⟨s, 2, none⟩) (.inl d.F0) (.slice V1 k' cV1)
  refine ⟨rfl, p1.trans k17 (fun x hx h1 => by rcases p2 x h1 with q | q; exact q; omega), fun x => F1 x ∨ w1.heap.size ≤ x, ?_, fun x hx => ?_⟩
  · refine ⟨L, W1, V1, cL, cW1, cV1, ?_, d.l1, ?_, ?_, ?_, fun b hb1 hb2 => ?_, .inl d.F0, fun b hb => .inl (d.FL b hb), fun b hb => ?_, fun b hb => ?_, d.ok.push hi ht hcnt⟩
    · rw [e1]
      exact blk_set B6.out 2 _
    · have q1 := d.ownL.kp K4.out (fun b hb q => by rcases q with q | q; exact (d.apart q).1 hb; exact d.row_ne (.inl hb) q)
      have q2 := q1.kp KB.out (fun b hb q => d.ne b hb q)
      exact q2.kp hkS (fun b hb => d.row_ne (.inl hb))
    · rw [e1]
      have q1 := O5.kp KB.out (fun b hb q => by
        obtain ⟨_, cur, z, _⟩ := OwnR.block O5 hb
        obtain ⟨_, cur2, z2, _⟩ := OwnR.block OV4.out q
        rw [z] at z2; simp at z2)
      have q2 := q1.kp hkS (fun b hb e => by
        subst e
        obtain ⟨_, cur, z, _⟩ := OwnR.block q1 hb
        rw [B6.out] at z; simp at z)
      have e3 : ncells ((pushS (usedS st) i t).pend.map (·.1)) = rw' := by
        rw [← HW.out.2, ← HW.out.1]
        show ncells ((st.pend ++ [(i, t)]).map (·.1)) = _
        simp [ncells]
      rw [e3]
      exact q2
    · rw [e1]
      have q2 := O6.out.kp hkS (fun b hb e => by
        subst e
        obtain ⟨_, cur, z, _⟩ := OwnR.block O6.out hb
        rw [B6.out] at z; simp at z)
      have e3 : scells ((pushS (usedS st) i t).pend.map (·.2)) = rv' := by
        rw [← HV.out.2, ← HV.out.1]
        show scells ((st.pend ++ [(i, t)]).map (·.2)) = _
        simp [scells]
      rw [e3]
      exact q2
    · rcases L6.out b hb2 with q | q
      · exact d.ne b hb1 q
      · have := OwnR.lt d.ownL hb1
        omega
    · rcases L3.out b hb with q | q
      · exact .inl (d.FW b q)
      · exact .inr q
    · rcases L6.out b hb with q | q
      · exact .inl (d.FV b q)
      · exact .inr (by omega)
  · rcases hx with hx | hx
    · exact p2 x hx
    · exact .inr (by omega)

set_option maxHeartbeats 1000000 in
theorem rwrite_disk (i0 : Int) (s : Nat) (t : Tx) (F : Nat → Prop) (st : DS) (w : World) (h : RefAt w s F st) (hcnt : st.cnt < 1000) (htl : t.length ≤ 1000) :
    Calls Try.prog 25 #[.pointer (some ⟨s, 0, none⟩), .int .i64 i0, .string ⟨t.toArray⟩] w (RPost w s F (writeS st i0 t) (.int .i64 (writeE st i0 t))) := by
  have c00 : ∃ L cL, w.cell? ⟨s, 0, none⟩ = some (.slice L st.n cL) := by
    obtain ⟨L, W, V, cL, cW, cV, d⟩ := h
    obtain ⟨⟨c0, c1, c2, -⟩, -⟩ := rcell d.blk
    exact ⟨L, cL, c0⟩
  obtain ⟨L0, cL0, c00⟩ := c00
  have H := Lib.hid h
  cases hb : hasB st i0
  · have e1 : writeS st i0 t = st := by simp [writeS, hb]
    have e2 : writeE st i0 t = 1 := by simp [writeE, hb]
    rw [e1, e2]
    have hw : i0 < 0 ∨ (¬ i0 < 0 ∧ (st.n : Int) ≤ i0) := by unfold hasB at hb; simp at hb; omega
    have hn := h.ok.n
    clear e1 e2 hb h
    rcases hw with hw | ⟨hw, hw2⟩
    · go_enter Try.func25, Try.ntmps25
      go_wp2
      go_ret
      exact RPost.same H.out _
    · go_enter Try.func25, Try.ntmps25
      go_wp2
      go_ret
      exact RPost.same H.out _
  · obtain ⟨h1, h2⟩ := hasB_is hb
    by_cases hl : t.length ≤ 64
    · cases hv : liveB st
      · have e1 : writeS st i0 t = st := by simp [writeS, hb, hl, hv]
        have e2 : writeE st i0 t = 8 := by simp [writeE, hb, hl, hv]
        rw [e1, e2]
        have C2 := Lib.hid (ruse_disk s F st w h)
        rw [hv, if_neg (by simp)] at C2
        have e64 : ¬ (64 : Int) < (t.length : Int) := by omega
        have i2 : ¬ (st.n : Int) ≤ i0 := by omega
        have i3 : ¬ i0 < 0 := by omega
        clear e1 e2 hb h hv hl h2
        go_enter Try.func25, Try.ntmps25
        go_wp2_with fail
        refine C2.out.mono ?_
        rintro e w1 ⟨rfl, hk, hd⟩
        have H2 := Lib.hid (And.intro hk hd)
        clear hk hd
        go_wp2
        go_ret
        exact ⟨rfl, H2.out.1, H2.out.2⟩
      · have e1 : writeS st i0 t = pushS (usedS st) i0.toNat t := by simp [writeS, hb, hl, hv]
        have e2 : writeE st i0 t = 0 := by simp [writeE, hb, hl, hv]
        rw [e1, e2]
        have := rwrite_yes i0.toNat s t F st w h h2 hl hv hcnt
        rw [show ((i0.toNat : Nat) : Int) = i0 by omega] at this
        exact this
    · have e1 : writeS st i0 t = st := by simp [writeS, hb, hl]
      have e2 : writeE st i0 t = 3 := by simp [writeE, hb, hl]
      rw [e1, e2]
      have e64 : (64 : Int) < (t.length : Int) := by omega
      have i2 : ¬ (st.n : Int) ≤ i0 := by omega
      have i3 : ¬ i0 < 0 := by omega
      clear e1 e2 hb h hl h2
      go_enter Try.func25, Try.ntmps25
      go_wp2
      go_ret
      exact RPost.same H.out _
end Go.Proofs.Ytnfnbbipmempjaa

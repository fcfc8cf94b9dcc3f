/-
  Package expand: other macros; undefine.
  Package expand: define.
  Package expand: put.
-/
import Derived.Test.YtmnbepapgghdaaaGreatK25
import Derived.Test.YtmnbepapgghdaaaGreatK10
import Derived.Test.YtmnbepapgghdaaaGreatK19
namespace Go.Proofs.YtmnbepapgghdaaaGreat
open Go.RowKit

/-- Other macros, and other bodies. -/
theorem XR.turnM {k : Xk} {w w1 W : World} {s : Xs} {e : Ex} (h : XR k w s e) (hb : Below w.heap.size w w1) {A : Option Addr} {c N' : Nat} {ms' : List Ml} {f' : By → Option Value} (ho : OwnM 137 w1 w.heap.size A c (bares ms'))
    (hkeep : ∀ b, b < w1.heap.size → b ≠ k.p → b ≠ k.mb → W.heap[b]? = w1.heap[b]?) (hp : W.heap[k.p]? = some (.cells ((xC k s e).setIfInBounds 4 (.slice A ms'.length c)) 68)) (hbm : BM W k.mb N' f') (hbd : Bodies (Gx k.p s) w1 ms' f') :
    XR k W { s with MA := A, mc := c, N := N', f := f' } { e with ms := ms' } := by
  have h1 := h.below hb
  obtain ⟨m1, m2, m3, m4⟩ := h.row_m
  have hpl := lt_of_blk h.blk
  have hml := h.bm.lt
  have keep : ∀ {t : TypeId} {base sz n c : Nat} {A : Option Addr} {xs : List Value}, w1.ownsRow base t sz (.slice A n c) n xs → obA A ≠ some k.p → obA A ≠ some k.mb → W.ownsRow base t sz (.slice A n c) n xs := fun hr np nm => row_keep hr fun g hg => by
    have hl := (hr.lt g hg).2
    rw [obA_own] at hg
    exact hkeep g hl (fun q => np (by rw [hg, q])) (fun q => nm (by rw [hg, q]))
  have hgs : ∀ a, A = some a → 0 < ms'.length → w.heap.size ≤ a.block := fun a ha h0 => ho.ge a.block (by rw [obA_own, ha]; rfl)
  have hrd := ho.rd.plain
  obtain ⟨es, cl, hmap⟩ := h1.bm.block
  refine ⟨h.hp, h.hm, hp.trans rfl, h.fuel, h.atl, h.flen, h.inp, keep h1.toks h.nTp m1, keep h1.out h.nLp m2, h.tl, keep h1.reads h.nRp m3, keep h1.notes h.nNp m4, hbm, h1.cm.of_block (hkeep k.cb h1.cm.lt h.cp h.mne), h.mne, ?_, ?_, ?_, ?_⟩
  · exact rdM_bare hrd fun h0 a ha => hkeep a.block (rdM_lt hrd h0 a ha) (by have := hgs a ha h0; omega) (by have := hgs a ha h0; omega)
  · have := ho.cap
    rwa [bares_len] at this
  · intro h0 a ha
    have hge := hgs a ha h0
    have far : ∀ {t : TypeId} {base sz n c : Nat} {B : Option Addr} {xs : List Value}, w.ownsRow base t sz (.slice B n c) n xs → some a.block ≠ obA B := fun hr q => by
      have := (hr.lt a.block (by rw [obA_own]; exact q.symm)).2
      omega
    exact ⟨by omega, far h.toks, far h.out, far h.reads, far h.notes⟩
  · intro n v hv
    obtain ⟨B, d, q1, q2, q3⟩ := hbd n v hv
    refine ⟨B, d, q1, q2.heap fun h0 a ha => hkeep a.block (rd_in q2 h0 a ha) (q3 h0 a ha).1 fun q => ?_, q3⟩
    obtain ⟨cs, t, fr, hc⟩ := rd_cells q2 h0 a ha
    rw [q, hmap] at hc
    cases hc
def delF (f : By → Option Value) (r : By) : By → Option Value := fun i => if i = r then none else f i
def putF (f : By → Option Value) (r : By) (v : Value) : By → Option Value := fun i => if i = r then some v else f i
theorem wpList_del {ops : Array Oper} {rest : List Oper} {o : Oper} {a : Act} {Q : Exit → Act → World → Prop} (w : World) (hgd : o.guard = none) (m x : Operand)
    (ho : o.op = .call { callee := .builtin .delete, args := #[m, x], argTypes := #[65, 9] }) (mb N : Nat) (f : By → Option Value) (hm : a.eval m = .map (some mb)) (hbm : BM w mb N f) (r : By) (hr : r.length ≤ 100000) (hx : a.eval x = .string ⟨r.toArray⟩)
    (h : ∀ w', BM w' mb N (delF f r) → w.grownBy w' (some mb) → wpList Tryz.prog ops Q rest (a.put o.dst (.tuple #[])) w') : wpList Tryz.prog ops Q (o :: rest) a w := by
  refine wpList_plain hgd fun K hK => ?_
  obtain ⟨w', hrun, h2, h3⟩ := hbm.del (t := 65) (e := 27) (by kernel_rfl) hr o.type
  unfold Oper.wp
  simp only [execOp, ho, resolve, invoke, builtin, Sem.run_bind, Sem.run_pure, Result.andThen_ok, List.map_toArray, List.map_cons, List.map_nil, hm, hx, hrun]
  exact hK _ _ (h w' h2 h3)
theorem bodies_del {P : Nat → Prop} {w : World} {ms : List Ml} {f : By → Option Value} (h : Bodies P w ms f) (r : By) : Bodies P w (dropL ms r) (delF f r) := fun n v hv => by
  rw [getL_dropL] at hv
  by_cases hn : n = r
  · rw [if_pos hn] at hv; cases hv
  · rw [if_neg hn] at hv
    unfold delF
    rw [if_neg hn]
    exact h n v hv
/-- Behind Drop, and the two stores. -/
theorem undef_behind {k : Xk} {w w1 w2 : World} {s : Xs} {e : Ex} (h : XR k w s e) (hb : Below w.heap.size w w1) {A : Option Addr} {c : Nat} {r : By} (ho : OwnM 137 w1 w.heap.size A c (bares (dropL e.ms r)))
    (hbm : BM w2 k.mb s.N (delF s.f r)) (hg : (w1.setCell ⟨k.p, 4, none⟩ (.slice A (dropL e.ms r).length c)).grownBy w2 (some k.mb)) :
    XR k w2 { s with MA := A, mc := c, f := delF s.f r } { e with ms := dropL e.ms r } := by
  have h1 := h.below hb
  have hp := (but_grown hg k.p (by simp [World.setCell]; exact lt_of_blk h1.blk) fun q => h.mp (Option.some.inj q).symm).trans (blk_set h1.blk 4 _)
  exact h.turnM hb ho (fun b hl np nm => (but_grown hg b (by simp [World.setCell]; exact hl) fun q => nm (Option.some.inj q)).trans (Below.heap_setCell w1 ⟨k.p, 4, none⟩ _ b np)) hp hbm (bodies_del h1.bd r)
theorem below_map {base m : Nat} {w a b : World} (h : Below base w a) (g : a.grownBy b (some m)) (hm : base ≤ m) (hs : base ≤ w.heap.size) : Below base w b :=
  ⟨g.os.trans h.os, g.tape.trans h.tape, g.output.trans h.output, Nat.le_trans h.size g.size, fun i hi => (g.block i (Nat.lt_of_lt_of_le hi (Nat.le_trans hs h.size)) (fun q => by have := Option.some.inj q; omega)).trans (h.block i hi)⟩
set_option maxRecDepth 100000 in
set_option maxHeartbeats 8000000 in
theorem xundef_any (k : Xk) (e : Ex) (n : Nat) (w : World) (h : XW k w e n) (hi : e.inp.length ≤ 1000) (hg : Good e.ms) (hpt : PTl e.inp) :
    Calls Tryz.prog 45 #[.pointer (some ⟨k.p, 0, none⟩)] w (CmdPost k w n sUndef (undefE e)) := by
  have HZ := Lib.hid (show k.base ≤ w.heap.size by have := h.size; omega)
  obtain ⟨s, hx, hsn⟩ := h
  have C1 := Lib.hid (xgroups_any k e n 1 ⟨by omega, by omega⟩ w s hx)
  obtain ⟨G, hG⟩ : ∃ G, undefE e = G := ⟨_, rfl⟩
  rw [hG]
  have HG : Hid ((match argsW e.inp 1 with
    | none => e.note 10 sUndef
    | some (_, s, p) => { e.go p with ms := dropL e.ms s }) = G) := Lib.hid hG
  have HX := Lib.hid hx
  have HN := Lib.hid hsn
  have HM := Lib.hid hg
  have HP := Lib.hid hpt
  clear hx hG hsn hg hpt
  go_enter Tryz.func45, Tryz.ntmps45
  go_wp2_with fail
  refine C1.out.mono ?_
  rintro en w1 hpost
  rcases hpost with ⟨hno, rfl, hb1⟩ | ⟨x, nm, p, A, c, hyes, rfl, ho, hb1⟩
  · rw [hno] at HG
    have HBS := Lib.hid hb1
    have HB := Lib.hid (hb1.mono HZ.out)
    have HX1 := Lib.hid (HX.out.below hb1)
    unfold errV
    clear hb1 hno
    go_wp2
    go_ret2
    exact ⟨e, [], some 10, rfl, err_some (.inr (.inr (.inr (.inr rfl)))), HB.out, ⟨s, HX1.out, HN.out⟩, HG.out, fun _ => HBS.out⟩
  · rw [hyes] at HG
    have HG : Hid ({ e.go p with ms := dropL e.ms nm } = G) := HG
    obtain ⟨hp0, hpl, hpy⟩ := args_part (argsW_some hyes).1 (Nat.zero_le _)
    have hnl := argsW_name HP.out hyes
    have hx1 := HX.out.below hb1
    have c7 : w1.cell? ⟨k.p, 7, none⟩ = some (.int .i64 s.at_) := hx1.cell 7
    have f7 := hx1.froz 7
    have hX2 := go_XR hx1 hpl
    have HB2 := Lib.hid ((hb1.mono HZ.out).setCell hx1.hp (p := ⟨k.p, 7, none⟩) (.int .i64 ((p : Int) + (s.at_ : Int))))
    obtain ⟨W, hW⟩ : ∃ W, w1.setCell ⟨k.p, 7, none⟩ (.int .i64 ((p : Int) + (s.at_ : Int))) = W := ⟨_, rfl⟩
    rw [hW] at hX2 HB2
    have c4 : W.cell? ⟨k.p, 4, none⟩ = some (.slice s.MA (bares e.ms).length s.mc) := by rw [bares_len]; exact hX2.cell 4
    have C2 := drop7_any s.MA s.mc (bares e.ms) nm W hX2.ms (by rw [bares_len]; have := HM.out.2.1; omega) (by rw [bares_len]; exact hX2.msc.1) hX2.msc.2 (Lib.hid (good_bare HM.out).1) (Lib.hid (bod_bare _))
    rw [drop_bare] at C2
    have C2 := Lib.hid C2
    have HX2 := Lib.hid hX2
    have HZW := Lib.hid (show k.base ≤ W.heap.size by have := HB2.out.size; have := HZ.out; omega)
    unfold errV
    clear hb1 hyes ho hx1 hX2 hpy
    go_wp2_with fail
    refine C2.out.mono ?_
    rintro en w2 ⟨A2, c2, rfl, ho2, hb2⟩
    rw [bares_len]
    have hx2 := HX2.out.below hb2
    have c42 : w2.cell? ⟨k.p, 4, none⟩ = some (.slice s.MA (bares e.ms).length s.mc) := by rw [bares_len]; exact hx2.cell 4
    have f42 := hx2.froz 4
    have c52 : (w2.setCell ⟨k.p, 4, none⟩ (.slice A2 (dropL e.ms nm).length c2)).cell? ⟨k.p, 5, none⟩ = some (.map (some k.mb)) := (cell_of (blk_set hx2.blk 4 _) 5).trans rfl
    have HBM := Lib.hid (hx2.bm.of_block (w' := w2.setCell ⟨k.p, 4, none⟩ (.slice A2 (dropL e.ms nm).length c2)) (Below.heap_setCell w2 ⟨k.p, 4, none⟩ _ k.mb hx2.mp))
    have HO2 := Lib.hid ho2
    have HB3 := Lib.hid (HB2.out.trans ((hb2.mono HZW.out).setCell hx2.hp (p := ⟨k.p, 4, none⟩) (.slice A2 (dropL e.ms nm).length c2)))
    have HBB := Lib.hid hb2
    have HMB := Lib.hid hx2.hm
    clear ho2 hb2 hx2
    go_wp2_with (first | (refine wpList_del _ rfl _ _ rfl k.mb s.N s.f rfl HBM.out nm (by omega) rfl ?_; intro w4 hbm4 hg4; have HX4 := Lib.hid (undef_behind HX2.out HBB.out HO2.out hbm4 hg4); have HB4 := Lib.hid (below_map HB3.out hg4 HMB.out HZ.out); clear hbm4 hg4))

    go_wp2
    go_ret2
    exact ⟨_, nm, none, rfl, err_none, HB4.out, ⟨_, HX4.out, HN.out⟩, HG.out, fun h => by cases h⟩
end Go.Proofs.YtmnbepapgghdaaaGreat

namespace Go.Proofs.YtmnbepapgghdaaaGreat
open Go.RowKit

theorem bodies_put {P : Nat → Prop} {w : World} {ms : List Ml} {f : By → Option Value} (h : Bodies P w ms f) {r : By} {d : Int} {y : List Tok} {B : Option Addr} {c : Nat} (hr : Rd w B y) (hP : InQ P B y.length) : Bodies P w (putL ms (r, d, y)) (putF f r (.slice B y.length c)) := fun n v hv => by
  rw [getL_putL] at hv
  unfold putF
  by_cases hn : n = r
  · rw [if_pos hn] at hv ⊢
    cases hv
    exact ⟨B, c, rfl, hr, hP⟩
  · rw [if_neg hn] at hv ⊢
    exact h n v hv
/-- New blocks are none of those that are written. -/
theorem gx_new {k : Xk} {w : World} {s : Xs} {e : Ex} (h : XR k w s e) {B : Option Addr} {n : Nat} (hP : InQ (fun b => w.heap.size ≤ b) B n) : InQ (Gx k.p s) B n := fun h0 a ha => by
  have hge := hP h0 a ha
  have hpl := lt_of_blk h.blk
  have far : ∀ {t : TypeId} {base sz n c : Nat} {B : Option Addr} {xs : List Value}, w.ownsRow base t sz (.slice B n c) n xs → some a.block ≠ obA B := fun hr q => by
    have := (hr.lt a.block (by rw [obA_own]; exact q.symm)).2
    omega
  exact ⟨by omega, far h.toks, far h.out, far h.reads, far h.notes⟩
/-- Behind Put, and the stores. -/
theorem def_behind {k : Xk} {w w1 wE w2 : World} {s : Xs} {e : Ex} (h : XR k w s e) (hb : Below w.heap.size w w1) {A : Option Addr} {c : Nat} {r : By} {d : Int} {y : List Tok} {B : Option Addr} {bc : Nat} (ho : OwnM 137 w1 w.heap.size A c (bares (putL e.ms (r, d, y))))
    (hr : Rd w1 B y) (hP : InQ (Gx k.p s) B y.length) (hbm : BM w2 k.mb (s.N + 1) (putF s.f r (.slice B y.length bc))) (hgE : (w1.setCell ⟨k.p, 4, none⟩ (.slice A (putL e.ms (r, d, y)).length c)).grownBy wE (some k.mb)) (hg : wE.grownBy w2 (some k.mb)) :
    XR k w2 { s with MA := A, mc := c, N := s.N + 1, f := putF s.f r (.slice B y.length bc) } { e with ms := putL e.ms (r, d, y) } := by
  have h1 := h.below hb
  have hs : (w1.setCell ⟨k.p, 4, none⟩ (.slice A (putL e.ms (r, d, y)).length c)).heap.size = w1.heap.size := by simp [World.setCell]
  have keep : ∀ b, b < w1.heap.size → b ≠ k.mb → w2.heap[b]? = (w1.setCell ⟨k.p, 4, none⟩ (.slice A (putL e.ms (r, d, y)).length c)).heap[b]? := fun b hl nm =>
    (but_grown hg b (Nat.lt_of_lt_of_le (by rw [hs]; exact hl) hgE.size) fun q => nm (Option.some.inj q)).trans (but_grown hgE b (by rw [hs]; exact hl) fun q => nm (Option.some.inj q))
  have hp := (keep k.p (lt_of_blk h1.blk) fun q => h.mp q.symm).trans (blk_set h1.blk 4 _)
  exact h.turnM hb ho (fun b hl np nm => (keep b hl nm).trans (Below.heap_setCell w1 ⟨k.p, 4, none⟩ _ b np)) hp hbm (bodies_put h1.bd hr hP)
theorem digO_range {l : List Tok} {d : Int} (h : digO l = some d) : 0 ≤ d ∧ d ≤ 9 := by
  unfold digO at h
  split at h
  · split at h
    · cases h; omega
    · cases h
  · cases h
theorem putE_okE {ms : List Ml} {m : Ml} (hd : 0 ≤ m.2.1 ∧ m.2.1 ≤ 9) (h : putE ms m ≠ 0) : putE ms m = 2 ∨ putE ms m = 3 := by
  rcases putE_cases ms m with q | q | q | q
  · exact absurd q h
  · exfalso
    unfold putE at q
    split at q
    · unfold wrE at q
      split at q
      · cases q
      · split at q
        · omega
        · cases q
    · split at q <;> cases q
  · exact .inl q
  · exact .inr q
set_option maxRecDepth 100000 in
set_option maxHeartbeats 4000000 in
theorem xdefine_any (k : Xk) (e : Ex) (n : Nat) (w : World) (h : XW k w e n) (hn : n ≤ 1000000) (hi : e.inp.length ≤ 1000) (hg : Good e.ms) (hpt : PTl e.inp) :
    Calls Tryz.prog 44 #[.pointer (some ⟨k.p, 0, none⟩)] w (CmdPost k w (n + 1) sDef (defE e)) := by
  have HZ := Lib.hid (show k.base ≤ w.heap.size by have := h.size; omega)
  obtain ⟨s, hx, hsn⟩ := h
  have C1 := Lib.hid (xgroups_any k e n 3 ⟨by omega, by omega⟩ w s hx)
  obtain ⟨G, hG⟩ : ∃ G, defE e = G := ⟨_, rfl⟩
  rw [hG]
  have HG : Hid ((match argsW e.inp 3 with
    | none => e.note 10 sDef
    | some (x, s, p) => match digO (x.getD 1 []) with
      | none => e.note 10 sDef
      | some d => if putE e.ms (s, d, x.getD 2 []) = 0 then { e.go p with ms := putL e.ms (s, d, x.getD 2 []) } else (e.go p).note (putE e.ms (s, d, x.getD 2 [])) s) = G) := Lib.hid hG
  have HX := Lib.hid hx
  have HN := Lib.hid hsn
  have HM := Lib.hid hg
  have HPT := Lib.hid hpt
  have HP := Lib.hid (lt_of_blk hx.blk)
  clear hx hG hsn hg hpt
  go_enter Tryz.func44, Tryz.ntmps44
  go_wp2_with fail
  refine C1.out.mono ?_
  rintro en w1 hpost
  rcases hpost with ⟨hno, rfl, hb1⟩ | ⟨x, nm, p, A, c, hyes, rfl, ho, hb1⟩
  · rw [hno] at HG
    have HBS := Lib.hid hb1
    have HB := Lib.hid (hb1.mono HZ.out)
    have HX1 := Lib.hid (HX.out.below hb1)
    have HN1 := Lib.hid (show s.N ≤ n + 1 by have := HN.out; omega)
    unfold errV
    clear hb1 hno
    go_wp2
    go_ret2
    exact ⟨e, [], some 10, rfl, err_some (.inr (.inr (.inr (.inr rfl)))), HB.out, ⟨s, HX1.out, HN1.out⟩, HG.out, fun _ => HBS.out⟩
  · rw [hyes] at HG
    obtain ⟨hp0, hpl, hpy⟩ := args_part (argsW_some hyes).1 (Nat.zero_le _)
    have hx3 : x.length = 3 := (args_le (argsW_some hyes).1 (Nat.zero_le _)).1
    have hmem := args_mem (argsW_some hyes).1
    have HNM := Lib.hid (argsW_name HPT.out hyes)
    obtain ⟨y1, hy1⟩ : ∃ y, x[1]? = some y := ⟨_, List.getElem?_eq_getElem (by omega)⟩
    obtain ⟨y2, hy2⟩ : ∃ y, x[2]? = some y := ⟨_, List.getElem?_eq_getElem (by omega)⟩
    have hyl1 := hpy y1 (List.mem_of_getElem? hy1)
    simp only [getD_at hy1, getD_at hy2] at HG
    obtain ⟨g, rfl, hgb, hcell⟩ := ownL_at ho (by omega)
    obtain ⟨B1, d1, a1, r1, p1⟩ := hcell 1 y1 hy1
    obtain ⟨B2, d2, a2, r2, p2⟩ := hcell 2 y2 hy2
    have HGP := Lib.hid (show g ≠ k.p by have := HP.out; omega)
    have CD := Lib.hid (xdigit_any B1 d1 y1 w1 r1 (by omega) (fun t ht => (HPT.out t (hmem y1 (List.mem_of_getElem? hy1) t ht)).2))
    have HX1 := Lib.hid (HX.out.below hb1)
    have HB1 := Lib.hid (hb1.mono HZ.out)
    have HBS1 := Lib.hid hb1
    have P2 := Lib.hid (gx_new HX.out p2)
    have R2 := Lib.hid r2
    have A2 := Lib.hid a2
    have HPL := Lib.hid hpl
    have i1 : (1 : Int) < (x.length : Int) := by omega
    have i2 : (2 : Int) < (x.length : Int) := by omega
    unfold errV
    clear hb1 hyes ho hcell r1 r2 p1 p2 hy1 hy2 hpy hmem a2
    go_wp2_with fail
    refine CD.out.mono ?_
    rintro en w2 ⟨⟨v, rfl, hv⟩, hb2⟩
    have HX2 := Lib.hid (HX1.out.below hb2)
    have HB2 := Lib.hid (HB1.out.trans (hb2.mono (show k.base ≤ w1.heap.size by have := HB1.out.size; have := HZ.out; omega)))
    have HBS2 := Lib.hid (bch HBS1.out hb2)
    have R22 := Lib.hid (R2.out.below hb2)
    have A22 := Lib.hid (cell_below hb2 A2.out)
    clear hb2
    cases hd : digO y1 with
    | none =>
      rw [hd] at HG
      have HG : Hid (e.note 10 sDef = G) := HG
      have HN1 := Lib.hid (show s.N ≤ n + 1 by have := HN.out; omega)
      clear hv hd
      go_wp2
      go_ret2
      exact ⟨e, [], some 10, rfl, err_some (.inr (.inr (.inr (.inr rfl)))), HB2.out, ⟨s, HX2.out, HN1.out⟩, HG.out, fun _ => HBS2.out⟩
    | some d =>
      obtain rfl : v = d := hv d hd
      rw [hd] at HG
      have hdr := digO_range hd
      have HG : Hid ((if putE e.ms (nm, v, y2) = 0 then { e.go p with ms := putL e.ms (nm, v, y2) } else (e.go p).note (putE e.ms (nm, v, y2)) nm) = G) := HG
      have hx2 := HX2.out
      have c7 : w2.cell? ⟨k.p, 7, none⟩ = some (.int .i64 s.at_) := hx2.cell 7
      have f7 := hx2.froz 7
      have hX3 := go_XR hx2 HPL.out
      have HB3 := Lib.hid (HB2.out.setCell hx2.hp (p := ⟨k.p, 7, none⟩) (.int .i64 ((p : Int) + (s.at_ : Int))))
      have R23 := Lib.hid (rd_set (j := 7) (v := .int .i64 ((p : Int) + (s.at_ : Int))) R22.out fun h0 a ha => (P2.out h0 a ha).1)
      have A23 := Lib.hid ((cell_far (w := w2) (p := k.p) (j := 7) (v := .int .i64 ((p : Int) + (s.at_ : Int))) (a := ⟨g, 2, none⟩) HGP.out).trans A22.out)
      obtain ⟨W, hW⟩ : ∃ W, w2.setCell ⟨k.p, 7, none⟩ (.int .i64 ((p : Int) + (s.at_ : Int))) = W := ⟨_, rfl⟩
      rw [hW] at hX3 HB3 R23 A23
      have c4 : W.cell? ⟨k.p, 4, none⟩ = some (.slice s.MA (bares e.ms).length s.mc) := by rw [bares_len]; exact hX3.cell 4
      have C2 := put7_any s.MA s.mc (bares e.ms) (bare (nm, v, y2)) none 0 W hX3.ms (Rd.empty _ _) (by rw [bares_len]; have := HM.out.2.1; omega) (by rw [bares_len]; exact hX3.msc.1) hX3.msc.2 (Lib.hid (good_bare HM.out).1) (Lib.hid (bod_bare _)) (Nat.zero_le _) (by have := HNM.out; show nm.length ≤ _; omega)
      rw [putE_bare] at C2
      have HZW := Lib.hid (show k.base ≤ W.heap.size by have := HB3.out.size; have := HZ.out; omega)
      have HX3 := Lib.hid hX3
      by_cases he : putE e.ms (nm, v, y2) = 0
      · rw [if_pos he] at HG
        rw [putR_yes (by rw [putE_bare]; exact he), put_bare, he] at C2
        have C2 := Lib.hid C2
        clear hx2 hX3 hd hv he
        go_wp2_with fail
        refine C2.out.mono ?_
        rintro en w3 ⟨A3, c3, rfl, ho3, hb3⟩
        rw [bares_len]
        have hbd := bch hb3 (below_drew w3)
        have hx4 := HX3.out.below hbd
        have k4 : w3.drew.cell? ⟨k.p, 4, none⟩ = some (.slice s.MA e.ms.length s.mc) := hx4.cell 4
        have k5 : w3.drew.cell? ⟨k.p, 5, none⟩ = some (.map (some k.mb)) := hx4.cell 5
        have kf4 := hx4.froz 4
        have ka : w3.drew.cell? ⟨g, 2, none⟩ = some (.slice B2 y2.length d2) := cell_below hbd A23.out
        obtain ⟨wS, hwS⟩ : ∃ wS, w3.drew.setCell ⟨k.p, 4, none⟩ (.slice A3 (putL e.ms (nm, v, y2)).length c3) = wS := ⟨_, rfl⟩
        have k5S : wS.cell? ⟨k.p, 5, none⟩ = some (.map (some k.mb)) := by rw [← hwS]; exact (cell_of (blk_set hx4.blk 4 _) 5).trans rfl
        have kaS : wS.cell? ⟨g, 2, none⟩ = some (.slice B2 y2.length d2) := by rw [← hwS]; exact (cell_far HGP.out).trans ka
        have hbmS : BM wS k.mb s.N s.f := hx4.bm.of_block (by rw [← hwS]; exact Below.heap_setCell w3.drew ⟨k.p, 4, none⟩ _ k.mb hx4.mp)
        obtain ⟨v0, st, wE, hE, gE, hS⟩ := hbmS.entry und65 zero27 (r := nm) (.slice B2 y2.length d2) (by have := HNM.out; omega) (by have := HN.out; omega)
        obtain ⟨wF, hF, bmF, gF⟩ := hS wE rfl
        simp only [goInt] at hE hF
        have HXF := Lib.hid (def_behind (k := k) (r := nm) (d := v) (bc := d2) (A := A3) (c := c3) (y := y2) (B := B2) HX3.out hbd (ho3.below (below_drew w3)) (R23.out.below hbd) P2.out bmF (show (w3.drew.setCell ⟨k.p, 4, none⟩ (.slice A3 (putL e.ms (nm, v, y2)).length c3)).grownBy wE (some k.mb) by rw [hwS]; exact gE) gF)
        have HBF := Lib.hid (below_map (below_map (show Below k.base w wS by rw [← hwS]; exact (HB3.out.trans (hbd.mono HZW.out)).setCell hx4.hp (p := ⟨k.p, 4, none⟩) _) gE hx4.hm HZ.out) gF hx4.hm HZ.out)
        have HN1 := Lib.hid (show s.N + 1 ≤ n + 1 by have := HN.out; omega)
        clear hx4 hb3 ho3 hbd hbmS bmF gF gE hS
        go_wp2_with fail
        go_region
        all_goals
          go_wp2
          go_ret2
          exact ⟨_, nm, none, rfl, err_none, HBF.out, ⟨_, HXF.out, HN1.out⟩, HG.out, fun h => by cases h⟩
      · rw [if_neg he] at HG
        rw [putR_no (by rw [putE_bare]; exact he)] at C2
        have HN1 := Lib.hid (show s.N ≤ n + 1 by have := HN.out; omega)
        rcases putE_okE (m := (nm, v, y2)) hdr he with hq | hq
        all_goals
          rw [hq] at C2 HG
          have C2 := Lib.hid C2
          clear hx2 hX3 hd hv he hq
          go_wp2_with fail
          refine C2.out.mono ?_
          rintro en w3 ⟨A3, c3, rfl, ho3, hb3⟩
          have HX4 := Lib.hid (HX3.out.below hb3)
          have HB4 := Lib.hid (HB3.out.trans (hb3.mono HZW.out))
          clear ho3 hb3
          go_wp2
          go_ret2
        · exact ⟨_, nm, some 2, rfl, err_some (.inl rfl), HB4.out, ⟨_, HX4.out, HN1.out⟩, HG.out, fun h => absurd h (by decide)⟩
        · exact ⟨_, nm, some 3, rfl, err_some (.inr (.inl rfl)), HB4.out, ⟨_, HX4.out, HN1.out⟩, HG.out, fun h => absurd h (by decide)⟩
end Go.Proofs.YtmnbepapgghdaaaGreat

namespace Go.Proofs.YtmnbepapgghdaaaGreat
open Go.RowKit

theorem put_ahead {k : Xk} {w : World} {s : Xs} {e : Ex} (t : Tok) (hr : XR k w s e) :
    Hid (XR k (w.alloc (.cells #[.int .i64 t.1, .string ⟨t.2.toArray⟩] 89)) s e) ∧ Hid (Below k.base w (w.alloc (.cells #[.int .i64 t.1, .string ⟨t.2.toArray⟩] 89))) ∧ Hid (k.base ≤ (w.alloc (.cells #[.int .i64 t.1, .string ⟨t.2.toArray⟩] 89)).heap.size) := by
  have b := one_below w (.cells #[.int .i64 t.1, .string ⟨t.2.toArray⟩] 89)
  have hs : k.base ≤ w.heap.size := by have := lt_of_blk hr.blk; have := hr.hp; omega
  exact ⟨Lib.hid (hr.below b), Lib.hid (b.mono hs), Lib.hid (Nat.le_trans hs b.size)⟩
theorem put_behind {k : Xk} {w0 w w2 : World} {s : Xs} {e : Ex} {A : Option Addr} {c : Nat} {l : List Tok} (hr : XR k w s e) (hb : Below k.base w0 w) (ho : Own 89 w2 k.base A c l) (hg : w.grownBy w2 (obA s.LA)) (hn : obA A = obA s.LA ∨ obA A = some w.heap.size) :
    w2.cell? ⟨k.p, 8, none⟩ = some (.slice s.LA e.out.length s.lc) ∧ w2.frozen? ⟨k.p, 8, none⟩ = false ∧ Hid (XR k (w2.setCell ⟨k.p, 8, none⟩ (.slice A l.length c)) { s with LA := A, lc := c } { e with out := l }) ∧ Hid (Below k.base w0 (w2.setCell ⟨k.p, 8, none⟩ (.slice A l.length c))) := by
  have hk := blk_grown hr hg hr.nLp
  have hs : k.base ≤ w.heap.size := by have := lt_of_blk hr.blk; have := hr.hp; omega
  exact ⟨cell_of hk 8, frozen_of hk 8, Lib.hid (hr.pushL ho hg hn), Lib.hid ((hb.trans (below_grown hr.out (by rw [obA_own]; exact hg) hs)).setCell hr.hp (p := ⟨k.p, 8, none⟩) _)⟩
/-- Put out, if there is room; else nothing is to come any more. -/
def putX (most : Nat) (e : Ex) (t : Tok) : Ex := if most ≤ e.out.length then stopE e else { e with out := e.out ++ [t] }
def putO (most : Nat) (e : Ex) : Option Int := if most ≤ e.out.length then some 3 else none
set_option maxRecDepth 100000 in
set_option maxHeartbeats 4000000 in
theorem xput_any (k : Xk) (e : Ex) (n : Nat) (t : Tok) (w : World) (h : XW k w e n) (hl : e.out.length ≤ 100000) :
    Calls Tryz.prog 82 #[.pointer (some ⟨k.p, 0, none⟩), .agg #[.int .i64 t.1, .string ⟨t.2.toArray⟩]] w fun en w' => en = .returned (errV (putO k.most e)) ∧ Below k.base w w' ∧ XW k w' (putX k.most e t) n := by
  have HZ := Lib.hid (show k.base ≤ w.heap.size by have := h.size; omega)
  obtain ⟨s, hr, hsn⟩ := h
  have b1 := one_below w (.cells #[.int .i64 t.1, .string ⟨t.2.toArray⟩] 89)
  have g0 := new_fst w (.int .i64 t.1) (.string ⟨t.2.toArray⟩) 89
  have g1 := new_snd w (.int .i64 t.1) (.string ⟨t.2.toArray⟩) 89
  have hr1 := hr.below b1
  have HB1 := Lib.hid (b1.mono HZ.out)
  have HG0 := Lib.hid g0
  have HG1 := Lib.hid g1
  obtain ⟨w1, hw1⟩ : ∃ w1, w.alloc (.cells #[.int .i64 t.1, .string ⟨t.2.toArray⟩] 89) = w1 := ⟨_, rfl⟩
  rw [hw1] at hr1 HB1 HG0 HG1
  have c2 : w1.cell? ⟨k.p, 2, none⟩ = some (.int .i64 k.most) := hr1.cell 2
  have c8 : w1.cell? ⟨k.p, 8, none⟩ = some (.slice s.LA e.out.length s.lc) := hr1.cell 8
  have HN := Lib.hid hsn
  by_cases hm : k.most ≤ e.out.length
  · have e1 : putX k.most e t = stopE e := if_pos hm
    have e2 : putO k.most e = some 3 := if_pos hm
    rw [e1, e2]
    have q : (k.most : Int) ≤ (e.out.length : Int) := by omega
    have c6 : w1.cell? ⟨k.p, 6, none⟩ = some (.slice s.TA s.full.length s.tc) := hr1.cell 6
    have c7 : w1.cell? ⟨k.p, 7, none⟩ = some (.int .i64 s.at_) := hr1.cell 7
    have f7 := hr1.froz 7
    have HS := Lib.hid (fun m => (hr1.below (drewN_below w1 m)).setP 7 (.int .i64 s.full.length) (a := s.full.length) (e' := stopE e) rfl (Nat.le_refl _) (by show s.full.drop s.full.length = []; simp) rfl rfl rfl rfl rfl)
    have HB := Lib.hid (fun m => (HB1.out.trans ((drewN_below w1 m).mono (by have := HB1.out.size; have := HZ.out; omega))).setCell hr.hp (p := ⟨k.p, 7, none⟩) (.int .i64 s.full.length))
    clear hr hr1 b1 g0 g1 e1 e2 hsn
    go_enter Tryz.func82, Tryz.ntmps82
    go_wp2_with fail
    go_quiet (fail)
    go_wp2
    go_ret
    exact ⟨rfl, HB.out _, _, HS.out _, HN.out⟩
  · have e1 : putX k.most e t = { e with out := e.out ++ [t] } := if_neg hm
    have e2 : putO k.most e = none := if_neg hm
    rw [e1, e2]
    have q : ¬ (k.most : Int) ≤ (e.out.length : Int) := by omega
    obtain ⟨r, hr0⟩ : ∃ r, e.out ++ [t] = r := ⟨_, rfl⟩
    rw [hr0]
    have HY := Lib.hid hr0
    have HR := Lib.hid (fun m => put_ahead t (hr1.below (drewN_below w1 m)))
    have HBm := Lib.hid (fun m => HB1.out.trans ((drewN_below w1 m).mono (show k.base ≤ w1.heap.size by have := HB1.out.size; have := HZ.out; omega)))
    have C8 := Lib.hid (fun m => (hr1.below (drewN_below w1 m)).cell 8)
    have hz1 : w1.heap.size = w.heap.size + 1 := by rw [← hw1]; simp
    have HRD := Lib.hid (fun m => (show Rd ((w1.drewN m).alloc (.cells #[.int .i64 t.1, .string ⟨t.2.toArray⟩] 89)) (some ⟨w.heap.size + 1, 0, none⟩) [t] by
      have q := one_new (w1.drewN m) t 89
      have e : (w1.drewN m).heap.size = w.heap.size + 1 := hz1
      rwa [e] at q))
    have g0 : w1.cell? ⟨w.heap.size, 0, none⟩ = some (.int .i64 t.1) := HG0.out
    have g1 : w1.cell? ⟨w.heap.size, 1, none⟩ = some (.string ⟨t.2.toArray⟩) := HG1.out
    clear hr hr1 b1 e1 e2 hsn hr0
    go_enter Tryz.func82, Tryz.ntmps82
    go_wp2_with fail
    go_quiet (fail)
    go_wp2_with fail
    have c88 : (w1.drewN (nq + 1)).cell? ⟨k.p, 8, none⟩ = some (.slice s.LA e.out.length s.lc) := C8.out (nq + 1)
    have c89 : ((w1.drewN (nq + 1)).alloc (.cells #[.int .i64 t.1, .string ⟨t.2.toArray⟩] 89)).cell? ⟨k.p, 8, none⟩ = some (.slice s.LA e.out.length s.lc) := (HR.out (nq + 1)).1.out.cell 8
    go_region_law (refine step_append_x ((w1.drewN (nq + 1)).alloc (.cells #[.int .i64 t.1, .string ⟨t.2.toArray⟩] 89)) (by rfl) _ _ (by rfl) k.base s.LA s.lc e.out (by rfl) (HR.out (nq + 1)).1.out.out (some ⟨w.heap.size + 1, 0, none⟩) 1 1 [t] (by rfl) (by rfl) (HRD.out (nq + 1)) (by show _ + 1 ≤ _; omega) (HR.out (nq + 1)).2.2.out r HY.out ?_
                   intro A' c' w2 ho2 hg2 hn2
                   obtain ⟨d8, f8, HW, HB2⟩ := put_behind (HR.out (nq + 1)).1.out ((HBm.out (nq + 1)).trans (HR.out (nq + 1)).2.1.out) ho2 hg2 hn2)
    all_goals
      go_wp2
      go_ret
      exact ⟨rfl, HB2.out, { s with LA := A', lc := c' }, HW.out, HN.out⟩
end Go.Proofs.YtmnbepapgghdaaaGreat

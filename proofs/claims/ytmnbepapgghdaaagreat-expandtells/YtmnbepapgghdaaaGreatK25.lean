/-
  Package expand: choose.
  Package expand: filled.
-/
import Derived.Test.YtmnbepapgghdaaaGreatK24
import Derived.Test.YtmnbepapgghdaaaGreatK16
import Derived.Test.YtmnbepapgghdaaaGreatK07
namespace Go.Proofs.YtmnbepapgghdaaaGreat
open Go.RowKit

/-- Lists in a row: each in its cell, in such blocks. -/
theorem ownL_at {P : Nat → Prop} {t : TypeId} {w : World} {base c : Nat} {A : Option Addr} {ll : List (List Tok)} (h : Pq.OwnL P t w base A c ll) (h0 : 0 < ll.length) :
    ∃ g, A = some ⟨g, 0, none⟩ ∧ base ≤ g ∧ ∀ i l, ll[i]? = some l → ∃ B d, w.cell? ⟨g, i, none⟩ = some (.slice B l.length d) ∧ Rd w B l ∧ InQ P B l.length := by
  obtain ⟨cs, hown, hc⟩ := h
  obtain ⟨g, cap, hv, hb, _⟩ := World.ownsRow.form hown h0
  simp only [Value.slice.injEq] at hv
  obtain ⟨rfl, _, _⟩ := hv
  refine ⟨g, rfl, hb, fun i l hi => ?_⟩
  obtain ⟨B, d, h1, h2, h3⟩ := hc i l hi
  have hlt : i < ll.length := (List.getElem?_eq_some_iff.1 hi).1
  have c1 := World.ownsRow.cellAt hown i (by omega)
  exact ⟨B, d, c1.trans h1, h2, fun h0 a ha => (h3 h0 a ha).2⟩
theorem cell_far {w : World} {p j : Nat} {v : Value} {a : Addr} (h : a.block ≠ p) : (w.setCell ⟨p, j, none⟩ v).cell? a = w.cell? a := by
  have := Below.heap_setCell w ⟨p, j, none⟩ v a.block h
  simp only [World.cell?, this]
theorem bod_bare (ms : List Ml) : Bod (bares ms) := fun m hm => by
  obtain ⟨f, _, rfl⟩ := List.mem_map.1 hm
  exact Nat.zero_le _
theorem getD_at {x : List (List Tok)} {i : Nat} {y : List Tok} (h : x[i]? = some y) : x.getD i [] = y := by rw [List.getD_eq_getElem?_getD, h]; rfl
set_option maxRecDepth 100000 in
set_option maxHeartbeats 8000000 in
theorem xchoose_any (k : Xk) (e : Ex) (n : Nat) (w : World) (h : XW k w e n) (hi : e.inp.length ≤ 1000) (hg : Good e.ms) :
    Calls Tryz.prog 46 #[.pointer (some ⟨k.p, 0, none⟩)] w (CmdPost k w n sIfdef (ifdefE e)) := by
  have HZ := Lib.hid (show k.base ≤ w.heap.size by have := h.size; omega)
  obtain ⟨s, hx, hsn⟩ := h
  have C1 := Lib.hid (xgroups_any k e n 3 ⟨by omega, by omega⟩ w s hx)
  obtain ⟨G, hG⟩ : ∃ G, ifdefE e = G := ⟨_, rfl⟩
  rw [hG]
  have HG : Hid ((match argsW e.inp 3 with
    | none => e.note 10 sIfdef
    | some (x, s, p) => { e with inp := (if hasL e.ms s then x.getD 1 [] else x.getD 2 []) ++ e.inp.drop p }) = G) := Lib.hid hG
  have HX := Lib.hid hx
  have HN := Lib.hid hsn
  have HM := Lib.hid hg
  have HP := Lib.hid (lt_of_blk hx.blk)
  clear hx hG hsn hg
  go_enter Tryz.func46, Tryz.ntmps46
  go_wp2_with fail
  refine C1.out.mono ?_
  rintro en w1 hpost
  rcases hpost with ⟨hno, rfl, hb1⟩ | ⟨x, nm, p, A, c, hyes, rfl, ho, hb1⟩
  · rw [hno] at HG
    have HBS := Lib.hid hb1
    have HB := Lib.hid (hb1.mono HZ.out)
    have HX1 := Lib.hid (HX.out.below hb1)
    unfold errV
    clear hb1 hno
    go_wp2
    go_ret2
    exact ⟨e, [], some 10, rfl, err_some (.inr (.inr (.inr (.inr rfl)))), HB.out, ⟨s, HX1.out, HN.out⟩, HG.out, fun _ => HBS.out⟩
  · rw [hyes] at HG
    obtain ⟨hp0, hpl, hpy⟩ := args_part (argsW_some hyes).1 (Nat.zero_le _)
    have hx3 : x.length = 3 := (args_le (argsW_some hyes).1 (Nat.zero_le _)).1
    obtain ⟨y1, hy1⟩ : ∃ y, x[1]? = some y := ⟨_, List.getElem?_eq_getElem (by omega)⟩
    obtain ⟨y2, hy2⟩ : ∃ y, x[2]? = some y := ⟨_, List.getElem?_eq_getElem (by omega)⟩
    have hyl1 := hpy y1 (List.mem_of_getElem? hy1)
    have hyl2 := hpy y2 (List.mem_of_getElem? hy2)
    simp only [getD_at hy1, getD_at hy2] at HG
    obtain ⟨g, rfl, hgb, hcell⟩ := ownL_at ho (by omega)
    obtain ⟨B1, d1, a1, r1, p1⟩ := hcell 1 y1 hy1
    obtain ⟨B2, d2, a2, r2, p2⟩ := hcell 2 y2 hy2
    have hgp : g ≠ k.p := by have := HP.out; omega
    have hne : ∀ {B : Option Addr} {l : Nat}, InQ (fun b => w.heap.size ≤ b) B l → InQ (fun b => b ≠ k.p) B l := fun q h0 a ha => by have := q h0 a ha; have := HP.out; omega
    have hx1 := HX.out.below hb1
    have c7 : w1.cell? ⟨k.p, 7, none⟩ = some (.int .i64 s.at_) := hx1.cell 7
    have f7 := hx1.froz 7
    have hX2 := go_XR hx1 hpl
    have HB2 := Lib.hid ((hb1.mono HZ.out).setCell hx1.hp (p := ⟨k.p, 7, none⟩) (.int .i64 ((p : Int) + (s.at_ : Int))))
    have A1 := (cell_far (w := w1) (p := k.p) (j := 7) (v := .int .i64 ((p : Int) + (s.at_ : Int))) (a := ⟨g, 1, none⟩) hgp).trans a1
    have A2 := (cell_far (w := w1) (p := k.p) (j := 7) (v := .int .i64 ((p : Int) + (s.at_ : Int))) (a := ⟨g, 2, none⟩) hgp).trans a2
    have R1 := Lib.hid (rd_set (j := 7) (v := .int .i64 ((p : Int) + (s.at_ : Int))) r1 (hne p1))
    have R2 := Lib.hid (rd_set (j := 7) (v := .int .i64 ((p : Int) + (s.at_ : Int))) r2 (hne p2))
    have P1 := Lib.hid (hne p1)
    have P2 := Lib.hid (hne p2)
    obtain ⟨W, hW⟩ : ∃ W, w1.setCell ⟨k.p, 7, none⟩ (.int .i64 ((p : Int) + (s.at_ : Int))) = W := ⟨_, rfl⟩
    rw [hW] at hX2 HB2 A1 A2 R1 R2
    have c4 : W.cell? ⟨k.p, 4, none⟩ = some (.slice s.MA (bares e.ms).length s.mc) := by rw [bares_len]; exact hX2.cell 4
    have C2 := get7_any s.MA s.mc (bares e.ms) nm W hX2.ms (by rw [bares_len]; have := HM.out.2.1; omega) (Lib.hid (good_bare HM.out).1) (Lib.hid (bod_bare _))
    rw [has_bare] at C2
    obtain ⟨m, hm⟩ : ∃ m, getM (bares e.ms) nm = m := ⟨_, rfl⟩
    rw [hm] at C2
    have C2 := Lib.hid C2
    have HX2 := Lib.hid hX2
    have hil : (e.go p).inp.length + p ≤ 1000 := by simp [Ex.go]; omega
    have HIL := Lib.hid hil
    have CG := Lib.hid (fun W' (B : Option Addr) (d : Nat) (l : List Tok) (hW : XW k W' (e.go p) n) (hr : Rd W' B l) (hP : InQ (fun b => b ≠ k.p) B l.length) (hl : l.length ≤ p) => xbring_any k (e.go p) n B d l W' hW hr hP (by have := HIL.out; omega))
    have i1 : (1 : Int) < (x.length : Int) := by omega
    have i2 : (2 : Int) < (x.length : Int) := by omega
    unfold errV
    clear hb1 hyes ho hx1 hcell a1 a2 r1 r2 p1 p2 hX2 hy1 hy2 hpy hne hil hm
    go_wp2_with fail
    refine C2.out.mono ?_
    rintro en w2 ⟨B, d, rfl, _, hb2⟩
    have o1 := one_below w2 (.cells #[.string ⟨m.1.toArray⟩, .int .i64 m.2.1, .slice B m.2.2.length d] 137)
    have hb3 := bch hb2 o1
    have A1' := cell_below hb3 A1
    have HX3 := Lib.hid (HX2.out.below hb3)
    have HB3 := Lib.hid (HB2.out.trans (hb3.mono (show k.base ≤ W.heap.size by have := HB2.out.size; have := HZ.out; omega)))
    have R1' := Lib.hid (R1.out.below hb3)
    have R2' := Lib.hid (R2.out.below hb3)
    clear hb2 o1 hb3
    cases hh : hasL e.ms nm
    · rw [hh] at HG
      have HG : Hid ({ e with inp := y2 ++ e.inp.drop p } = G) := HG
      clear hh
      go_wp2_with fail
      refine (CG.out _ B2 d2 y2 ⟨_, HX3.out, HN.out⟩ R2'.out P2.out hyl2).mono ?_
      rintro en w4 ⟨rfl, hb4, hx4⟩
      have HB4 := Lib.hid (HB3.out.trans hb4)
      have HX4 := Lib.hid hx4
      clear hb4 hx4
      go_wp2
      go_ret2
      exact ⟨_, nm, none, rfl, err_none, HB4.out, HX4.out, HG.out, fun h => by cases h⟩
    · rw [hh] at HG
      have HG : Hid ({ e with inp := y1 ++ e.inp.drop p } = G) := HG
      clear hh
      go_wp2_with fail
      refine (CG.out _ B1 d1 y1 ⟨_, HX3.out, HN.out⟩ R1'.out P1.out hyl1).mono ?_
      rintro en w4 ⟨rfl, hb4, hx4⟩
      have HB4 := Lib.hid (HB3.out.trans hb4)
      have HX4 := Lib.hid hx4
      clear hb4 hx4
      go_wp2
      go_ret2
      exact ⟨_, nm, none, rfl, err_none, HB4.out, HX4.out, HG.out, fun h => by cases h⟩
end Go.Proofs.YtmnbepapgghdaaaGreat

namespace Go.Proofs.YtmnbepapgghdaaaGreat
open Go.RowKit

theorem fillT_other {args : List (List Tok)} {t : Tok} (h : t.1 ≠ 7) : (fillT args t).length = 1 := by unfold fillT; rw [if_neg h]; rfl
theorem fillT_far {args : List (List Tok)} {t : Tok} {d : UInt8} (h : t.1 = 7) (hd : t.2 = [d]) (hg : dgt d = true) (hi : ¬ ((d.toNat : Int) - 49 < (args.length : Int))) : (fillT args t).length = 0 := by
  unfold fillT
  rw [if_pos h, hd]
  unfold dgt at hg
  have hg := of_decide_eq_true hg
  simp only [argOf, if_pos hg]
  rw [List.getD_eq_getElem?_getD, List.getElem?_eq_none (by omega)]
  rfl
theorem fillT_at {args : List (List Tok)} {t : Tok} {d : UInt8} {y : List Tok} {i : Nat} (h : t.1 = 7) (hd : t.2 = [d]) (hg : dgt d = true) (hi : d.toNat = 49 + i) (hy : args[i]? = some y) : (fillT args t).length = y.length := by
  unfold fillT
  rw [if_pos h, hd]
  unfold dgt at hg
  have hg := of_decide_eq_true hg
  simp only [argOf, if_pos hg]
  rw [List.getD_eq_getElem?_getD, show d.toNat - 49 = i by omega, hy]
  rfl
theorem fillN_step {ts : List Tok} {args : List (List Tok)} {k m j : Nat} {f : Tok} (h : ts[k]? = some f) (hm : (fillL (ts.take k) args).length = m) (hj : (fillT args f).length = j) : (fillL (ts.take (k + 1)) args).length = m + j := by
  rw [fill_step h, List.length_append, hm, hj]
set_option maxRecDepth 100000 in
set_option maxHeartbeats 4000000 in
theorem filled_any (A D : Option Addr) (c dc : Nat) (ts : List Tok) (ll : List (List Tok)) (w : World) (hr : Rd w A ts) (hrl : RdL w D ll) (hl : ts.length ≤ 100000) (hll : ll.length ≤ 9) (hz : Hid (PTl ts)) (hfl : (fillL ts ll).length ≤ 1000000) :
    Calls Tryz.prog 106 #[.slice A ts.length c, .slice D ll.length dc] w fun en w' => en = .returned (.int .i64 (fillL ts ll).length) ∧ Below w.heap.size w w' := by
  obtain ⟨R, hR⟩ : ∃ R, (fillL ts ll).length = R := ⟨_, rfl⟩
  rw [hR] at hfl ⊢
  have HR := Lib.hid hR
  have HLE := Lib.hid (fun k => (show (fillL (ts.take k) ll).length ≤ R by have := fill_le (ts := ts) (args := ll) k; omega))
  have HB0 := Lib.hid (Below.refl w.heap.size w)
  clear hR
  go_enter Tryz.func106, Tryz.ntmps106
  go_wp2
  go_loopw [5, 11] (fun v i wr => ∃ k m : Nat, k ≤ ts.length ∧ i = .int .i64 k ∧ v = .int .i64 m ∧ Hid ((fillL (ts.take k) ll).length = m) ∧ Hid (Below w.heap.size w wr)) (fun _ i _ => ts.length - (intOf i).toNat)
  case atStart => exact ⟨0, 0, Nat.zero_le _, rfl, rfl, Lib.hid rfl, HB0⟩
  case round =>
    clear HB0
    obtain ⟨k, m, hk, rfl, rfl, HM, HB⟩ := hrel
    have hm : m ≤ 1000000 := by have := HM.out; have := HLE.out k; omega
    by_cases hlt : k < ts.length
    · have hrw := hr.below HB.out
      obtain ⟨b, o, rfl, hcell⟩ := hrw (by omega)
      obtain ⟨f, hf⟩ : ∃ f, ts[k]? = some f := ⟨_, List.getElem?_eq_getElem hlt⟩
      obtain ⟨c1, c2⟩ := hcell k f hf
      have hpt := hz.out f (List.mem_of_getElem? hf)
      have HF := Lib.hid hf
      have HB1 := Lib.hid (HB.out.alloc HB.out.size (.cells #[.int .i64 f.1, .string ⟨f.2.toArray⟩] 89))
      have i1 : (k : Int) < (ts.length : Int) := by omega
      by_cases h7 : f.1 = 7
      · obtain ⟨d, hd, hg⟩ := hpt.1 h7
        have hgd := hg
        unfold dgt at hgd
        have hgd := of_decide_eq_true hgd
        rw [hd] at c2
        rw [h7] at c1
        have HB1 := Lib.hid (HB.out.alloc HB.out.size (.cells #[.int .i64 7, .string ⟨#[d]⟩] 89))
        have hb0 : (ByteArray.mk #[d])[0]'(by show 0 < 1; omega) = d := rfl
        obtain ⟨i, hi⟩ : ∃ i : Nat, d.toNat = 49 + i := ⟨d.toNat - 49, by omega⟩
        have e49 : IntKind.u8.wrap ((d.toNat : Int) - 49) = (i : Int) := by
          rw [hi]; unfold IntKind.wrap; simp [IntKind.bits, IntKind.signed]; omega
        have i9 : i ≤ 8 := by omega
        by_cases hil : i < ll.length
        · obtain ⟨y, hy⟩ : ∃ y, ll[i]? = some y := ⟨_, List.getElem?_eq_getElem hil⟩
          have HN := Lib.hid (fillN_step HF.out HM.out (fillT_at (args := ll) h7 hd hg hi hy))
          have hle := HLE.out (k + 1)
          have hm2 : m + y.length ≤ 1000000 := by have := HN.out; omega
          obtain ⟨b2, o2, rfl, hc2⟩ := (hrl.below HB.out) (by omega)
          obtain ⟨Y, dy, c3, _⟩ := hc2 i y hy
          have c4 := cell_below (one_below wr (.cells #[.int .i64 7, .string ⟨#[d]⟩] 89)) c3
          have i2 : (i : Int) < (ll.length : Int) := by omega
          have i3 : (0 : Int) ≤ (i : Int) := by omega
          clear hf hcell hpt h7 hrw HM hg hd hi hgd hc2 hy
          go_wp2
          go_roundw
          case rel => exact ⟨k + 1, m + y.length, by omega, by go_num, by go_num, HN, HB1⟩
          case measure => simp [intOf]; omega
        · have q2 : ¬ (i : Int) < (ll.length : Int) := by omega
          have HN := Lib.hid (fillN_step HF.out HM.out (fillT_far (args := ll) h7 hd hg (by omega)))
          clear hf hcell hpt h7 hrw HM hg hd hi hgd
          go_wp2
          go_roundw
          case rel => exact ⟨k + 1, m, by omega, by go_num, rfl, HN, HB1⟩
          case measure => simp [intOf]; omega
      · have q7 : (f.1 != 7) = true := by simpa using h7
        have HN := Lib.hid (fillN_step HF.out HM.out (fillT_other (args := ll) h7))
        have hle := HLE.out (k + 1)
        have hm2 : m + 1 ≤ 1000000 := by have := HN.out; omega
        clear hf hcell hpt h7 hrw HM
        go_wp2
        go_roundw
        case rel => exact ⟨k + 1, m + 1, by omega, by go_num, by go_num, HN, HB1⟩
        case measure => simp [intOf]; omega
    · have HE := Lib.hid (show R = m by have := HM.out; rw [List.take_of_length_le (by omega)] at this; rw [← HR.out]; exact this)
      go_wp2
      go_ret
      rw [HE.out]
      exact ⟨rfl, HB.out⟩
end Go.Proofs.YtmnbepapgghdaaaGreat

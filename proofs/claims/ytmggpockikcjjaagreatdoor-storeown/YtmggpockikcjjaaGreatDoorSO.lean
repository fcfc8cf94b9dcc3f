/-
  The walk of StoreOwn: for every list of files it returns true; old memory stays.
-/
import Derived.Test.YtmggpockikcjjaaGreatDoorSK
namespace Go.Proofs.YtmggpockikcjjaaGreatDoor
open Go.RowKit
open Dsk (DS Tx Wt Kp DiskAt NoB Ok newS)

def Row (w : World) (A : Option Addr) (n B1 B2 : Nat) : Prop := 0 < n → ∃ g cur, A = some ⟨g, 0, none⟩ ∧ B1 ≤ g ∧ g < B2 ∧ w.heap[g]? = some (.cells cur 37) ∧ n * 2 ≤ cur.size
theorem Own.row {w : World} {B : Nat} {A : Option Addr} {c : Nat} {fs : List Fl} (h : Own w B A c fs) : Row w A fs.length B w.heap.size := fun h0 => by
  rcases h.2 with ⟨hv, h1⟩ | ⟨g, cap, cur, hv, hg, hb, h4, _, h6, _⟩
  · omega
  · simp only [Value.slice.injEq] at hv
    obtain ⟨rfl, _, rfl⟩ := hv
    refine ⟨g, cur, rfl, hg, Dsk.lt_of_blk hb, hb, ?_⟩
    rw [h6]; exact Nat.mul_le_mul_right 2 h4
theorem Row.below {w w' : World} {A : Option Addr} {n B1 B2 : Nat} (h : Row w A n B1 B2) (hb : Below w.heap.size w w') : Row w' A n B1 B2 := fun h0 => by
  obtain ⟨g, cur, e, h1, h2, h3, h4⟩ := h h0
  exact ⟨g, cur, e, h1, h2, blk_below hb h3, h4⟩
structure OwnI (w0 w : World) (q s : Nat) (F : Nat → Prop) (n : Nat) (fs : List Fl) (st : DS) (Aw A : Option Addr) (m B1 B2 : Nat) : Prop where
  ls : LS w0 w q s F n fs st
  was : RdA w F q Aw fs
  ap : ∀ x, F x → x < B1 ∨ B2 ≤ x
  q1 : q < B1
  wa : 0 < fs.length → ∀ b o, Aw = some ⟨b, o, none⟩ → b < B1 ∨ B2 ≤ b
  lo : w0.heap.size ≤ B1
  row : Row w A m B1 B2
theorem OwnI.set {w0 w : World} {q s : Nat} {F : Nat → Prop} {n : Nat} {fs : List Fl} {st : DS} {Aw A : Option Addr} {m B1 B2 : Nat} (h : OwnI w0 w q s F n fs st Aw A m B1 B2) {g : Nat} {cur : Array Value} (hA : A = some ⟨g, 0, none⟩) (h1 : B1 ≤ g) (h2 : g < B2) (hb : w.heap[g]? = some (.cells cur 37)) (hc : m * 2 ≤ cur.size) (j : Nat) (v : Value) : OwnI w0 (w.setCell ⟨g, j, none⟩ v) q s F n fs st Aw A m B1 B2 := by
  have hk : Kp (· = g) w (w.setCell ⟨g, j, none⟩ v) := (Kp.refl (· = g) w).setCell (p := ⟨g, j, none⟩) (.inl rfl) v
  have nF : ¬ F g := fun x => by have := h.ap g x; omega
  have hlo := h.lo
  have hq := h.q1
  refine ⟨⟨h.ls.sat.kpq hk (fun x hx e => by subst e; rcases hx with hx | hx; exact nF hx; omega), h.ls.fb, fun x hx => by simpa [World.setCell] using h.ls.fl x hx, h.ls.qb, h.ls.bel.setCell (by show w0.heap.size ≤ g; omega) v⟩, ⟨h.was.1.kp hk (fun h0 b o e x => by subst x; have := h.wa h0 _ _ e; omega), h.was.2⟩, h.ap, h.q1, h.wa, h.lo, fun h0 => ⟨g, cur.setIfInBounds j v, hA, h1, h2, Dsk.blk_set hb j v, by simpa using hc⟩⟩

theorem Own.lo {w : World} {B : Nat} {A : Option Addr} {c : Nat} {fs : List Fl} (h : Own w B A c fs) (h0 : 0 < fs.length) {b o : Nat} (e : A = some ⟨b, o, none⟩) : B ≤ b := by
  rcases h.2 with ⟨hv, h1⟩ | ⟨g, cap, cur, hv, hg, _⟩
  · omega
  · subst e
    simp only [Value.slice.injEq, Option.some.injEq, Addr.mk.injEq] at hv
    obtain ⟨⟨rfl, _⟩, _⟩ := hv
    exact hg
theorem Own.hi {w : World} {B : Nat} {A : Option Addr} {c : Nat} {fs : List Fl} (h : Own w B A c fs) (h0 : 0 < fs.length) {b o : Nat} (e : A = some ⟨b, o, none⟩) : b < w.heap.size := by
  rcases h.2 with ⟨hv, h1⟩ | ⟨g, cap, cur, hv, hg, hb, _⟩
  · omega
  · subst e
    simp only [Value.slice.injEq, Option.some.injEq, Addr.mk.injEq] at hv
    obtain ⟨⟨rfl, _⟩, _⟩ := hv
    exact Dsk.lt_of_blk hb
theorem Rd.hi {w : World} {A : Option Addr} {fs : List Fl} (h : Rd w A fs) (h0 : 0 < fs.length) {b o : Nat} (e : A = some ⟨b, o, none⟩) : b < w.heap.size := by
  obtain ⟨b', o', e', hc⟩ := h h0
  obtain ⟨rfl, rfl⟩ : b = b' ∧ o = o' := by rw [e] at e'; simp at e'; exact e'
  obtain ⟨f, hf⟩ : ∃ f, fs[0]? = some f := ⟨_, List.getElem?_eq_getElem h0⟩
  exact World.block_lt_of_cell? _ _ (hc 0 f hf).1
theorem Row.kp {w w' : World} {G : Nat → Prop} {A : Option Addr} {n B1 B2 : Nat} (h : Row w A n B1 B2) (hk : Kp G w w') (hG : ∀ x, G x → x < B1 ∨ B2 ≤ x) : Row w' A n B1 B2 := fun h0 => by
  obtain ⟨g, cur, e, h1, h2, h3, h4⟩ := h h0
  exact ⟨g, cur, e, h1, h2, hk.keep h3 (fun x => by have := hG g x; omega), h4⟩
theorem row_cell {w : World} {g i m : Nat} {cur : Array Value} (hb : w.heap[g]? = some (.cells cur 37)) (hc : m * 2 ≤ cur.size) (hi : i < m) : ∃ v, w.cell? ⟨g, i * 2 + 1, none⟩ = some v ∧ w.frozen? ⟨g, i * 2 + 1, none⟩ = false := by
  refine ⟨cur[i * 2 + 1]'(by omega), ?_, Dsk.frozen_of hb _⟩
  rw [Dsk.cell_of hb]
  exact Array.getElem?_eq_getElem (by omega)

set_option maxRecDepth 100000 in
set_option maxHeartbeats 8000000 in
theorem storeOwn_any (A0 : Option Addr) (c0 : Nat) (l : List Fl) (w : World) (T : Tabs w) (hr0 : Rd w A0 l) (f0 : Hid (Fit l)) (l0 : l.length ≤ 9223372036854775807) :
    Calls Tryz.prog 5 #[.slice A0 l.length c0] w fun e w' => e = .returned (.bool true) ∧ Below w.heap.size w w' := by
  have HT := Lib.hid T
  have C1 := Lib.hid (ls_on 40 w T (by omega) (by omega))
  rw [show ((40 : Nat) : Int) = 40 from rfl] at C1
  have CA := Lib.hid (fun (w : World) (h : Rd w A0 l) => map_any A0 c0 l 6 40 w h f0 l0 (by omega) (by omega))
  rw [show ((6 : Nat) : Int) = 6 from rfl, show ((40 : Nat) : Int) = 40 from rfl] at CA
  have GA := Lib.hid (And.intro (mapL_good l 6 40) (map640 l))
  have la : (mapL l 6 40).length ≤ 6 := mapL_len l 6 40
  generalize mapL l 6 40 = a at *
  have H0 := Lib.hid hr0
  have HH := Lib.hid (show halfN 40 = 19 from rfl)
  clear T hr0 f0
  go_enter Tryz.func5, Tryz.ntmps5
  go_wp2_with fail
  refine C1.out.mono ?_
  rintro e w1 ⟨q, s, F, rfl, hL1⟩
  have L1 := Lib.hid hL1
  clear hL1 C1
  go_wp2_with fail
  refine (CA.out w1 (H0.out.below L1.out.bel)).mono ?_
  rintro e w2 ⟨Aa, ca, rfl, hoa, hb2⟩
  have O2 := Lib.hid hoa
  have HB2 := Lib.hid hb2
  obtain ⟨w2a, hw2a⟩ : ∃ w2a, w2.alloc (.cells #[] 37) = w2a := ⟨_, rfl⟩
  have hba : Below w2.heap.size w2 w2a := by rw [← hw2a]; exact one_below _ _
  have HOE := Lib.hid (show Own w2a w2.heap.size (some ⟨w2.heap.size, 0, none⟩) 0 [] by rw [← hw2a]; exact own_empty w2)
  have HBA := Lib.hid hba
  have HW := Lib.hid hw2a
  have RA := Lib.hid (hoa.rd.below hba)
  have hsa : w2.heap.size ≤ w2a.heap.size := hba.size
  obtain ⟨rr, hrr⟩ : ∃ rr, ([] : List Fl) ++ a = rr := ⟨_, rfl⟩
  have HRR := Lib.hid hrr
  have HRL := Lib.hid (show rr = a by rw [← hrr]; rfl)
  clear hoa hb2 CA hba hw2a hrr
  go_wp2_with (at_builtin; rw [HW.out]; refine wpList_append_rdn _ rfl _ _ rfl w2.heap.size _ [] rfl HOE.out Aa a.length ca a rfl rfl RA.out (by simp; omega) hsa rr HRR.out ?_; intro Aw cw w3 hown3 hb3; have O3 := Lib.hid hown3; have HB3 := Lib.hid hb3; clear hown3 hb3)
  obtain rfl : a = rr := HRL.out.symm
  have HB23 := Lib.hid (HBA.out.trans HB3.out)
  have hs23 := HB23.out.size
  have hs12 := HB2.out.size
  have L3 := Lib.hid (L1.out.below (bch HB2.out HB23.out))
  have R3 := Lib.hid (O2.out.rd.below HB23.out)
  have W3 := Lib.hid (show RdA w3 F q Aw a from O3.out.apart (fun x hx => by have := L1.out.fl x hx; omega) (by have := L1.out.sat.qlt; omega))
  go_wp2_with fail
  refine (ls_commit_ok HT.out L3.out ca R3.out GA.out.1 GA.out.2 (by rw [HH.out]; decide) rfl).mono ?_
  rintro e w4 ⟨rfl, F4, st4, hL4, hl4, hc4, hs4⟩
  have ap4 : ∀ x, F4 x → x < w1.heap.size ∨ w2.heap.size ≤ x := fun x hx => by
    rcases hs4.sub x hx with p | p
    · exact .inl (L1.out.fl x p)
    · exact .inr (by omega)
  have I4 := Lib.hid (show OwnI w w4 q s F4 40 a st4 Aw Aa a.length w1.heap.size w2.heap.size from ⟨hL4, W3.out.stp hs4, ap4, L1.out.sat.qlt, fun h0 b o e => .inr (O3.out.lo h0 e), L1.out.bel.size, (O2.out.row.below HB23.out).kp hs4.kp (fun x hx => by rcases hx with hx | rfl; exact .inl (L1.out.fl x hx); exact .inl L1.out.sat.qlt)⟩)
  generalize w1.heap.size = B1 at I4
  generalize w2.heap.size = B2 at I4
  clear hL4 hl4 hc4 hs4 ap4 L3 R3 W3 O3 O2 HB23 hs23 hs12 HB2 HBA HB3 HOE HW RA HRR hsa
  go_wp2_with fail
  go_loopw [7] (fun vi wr => ∃ (i : Nat), i ≤ a.length ∧ vi = .int .i64 i ∧ Hid (OwnI w wr q s F4 40 a st4 Aw Aa a.length B1 B2)) (fun vi _ => a.length - (intOf vi).toNat)
  case atStart => exact ⟨0, Nat.zero_le _, rfl, I4⟩
  case round =>
    obtain ⟨i, hi, rfl, HI⟩ := hrel
    clear I4
    by_cases hlt : i < a.length
    · obtain ⟨g, cur, rfl, g1, g2, g3, g4⟩ := HI.out.row (by omega)
      obtain ⟨v, cv, fv⟩ := row_cell g3 g4 hlt
      have i1 : (i : Int) < (a.length : Int) := by omega
      have HN := Lib.hid (HI.out.set rfl g1 g2 g3 g4 (i * 2 + 1) (.string ⟨#[116, 117, 114, 110, 101, 100]⟩))
      clear g1 g2 g3 g4
      go_wp2_with fail
      go_roundw
      case rel => exact ⟨i + 1, by omega, by go_num, HN⟩
      case measure => simp [intOf]; omega
    · obtain rfl : i = a.length := by omega
      go_wp2_with fail
      refine (ls_load HI.out.ls).mono ?_
      rintro e w5 ⟨Ab, cb, rfl, hob, hb5⟩
      have I5 := Lib.hid (show OwnI w w5 q s F4 40 a st4 Aw Ab a.length wr.heap.size w5.heap.size from ⟨HI.out.ls.below hb5, HI.out.was.below hb5, fun x hx => .inl (HI.out.ls.fl x hx), HI.out.ls.sat.qlt, fun h0 b o e => .inl (HI.out.was.1.hi h0 e), HI.out.ls.bel.size, hob.row⟩)
      generalize wr.heap.size = B3 at I5
      generalize w5.heap.size = B4 at I5
      clear hob hb5 HI
      go_wp2_with fail
      go_loopw [9] (fun vi wr => ∃ (i : Nat), i ≤ a.length ∧ vi = .int .i64 i ∧ Hid (OwnI w wr q s F4 40 a st4 Aw Ab a.length B3 B4)) (fun vi _ => a.length - (intOf vi).toNat)
      case atStart => exact ⟨0, Nat.zero_le _, rfl, I5⟩
      case round =>
        obtain ⟨i, hi, rfl, HI⟩ := hrel
        clear I5
        by_cases hlt : i < a.length
        · obtain ⟨g, cur, rfl, g1, g2, g3, g4⟩ := HI.out.row (by omega)
          obtain ⟨v, cv, fv⟩ := row_cell g3 g4 hlt
          have i1 : (i : Int) < (a.length : Int) := by omega
          have HN := Lib.hid (HI.out.set rfl g1 g2 g3 g4 (i * 2 + 1) (.string ⟨#[116, 117, 114, 110, 101, 100]⟩))
          clear g1 g2 g3 g4
          go_wp2_with fail
          go_roundw
          case rel => exact ⟨i + 1, by omega, by go_num, HN⟩
          case measure => simp [intOf]; omega
        · obtain rfl : i = a.length := by omega
          go_wp2_with fail
          refine (ls_load HI.out.ls).mono ?_
          rintro e w6 ⟨Ac, cc, rfl, hoc, hb6⟩
          have L6 := Lib.hid (HI.out.ls.below hb6)
          have C6 := Lib.hid (same_rd Ac Aw cc cw a a w6 hoc.rd (HI.out.was.1.below hb6) (by omega) (by omega))
          rw [decide_eq_true rfl] at C6
          clear hoc hb6
          go_wp2_with fail
          refine C6.out.mono ?_
          rintro e w7 ⟨rfl, hb7⟩
          have L7 := Lib.hid (L6.out.below hb7)
          clear hb7 C6 L6
          go_wp2_with fail
          refine (fixed_any w7 (HT.out.below L7.out.bel)).mono ?_
          rintro e w8 ⟨rfl, hb8⟩
          go_wp2
          go_ret
          exact ⟨rfl, bch L7.out.bel hb8⟩
end Go.Proofs.YtmggpockikcjjaaGreatDoor

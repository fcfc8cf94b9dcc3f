/-
  The document's expansion: undef, ifdef, a macro's name; any command.
  The document's expansion: any command.
  Package expand: Expand on files that are handed in; a law's own expansion of one file.
  The laws of package expand: two answers that are the same.
  The document's expansion: its beginning, its end, a token that is put out.
-/
import Derived.Test.YtmnbepapgghdaaaGreatK34
import Derived.Test.YtmnbepapgghdaaaGreatK31
import Derived.Test.YtmnbepapgghdaaaGreatK04
import Derived.Test.YtmnbepapgghdaaaGreatK11
namespace Go.Proofs.YtmnbepapgghdaaaGreat
open Go.RowKit

set_option maxRecDepth 100000 in
set_option maxHeartbeats 4000000 in
theorem cmd_undef (base p : Nat) (FA : Option Addr) (fn fc most : Nat) (e : Ex) (w : World) (h : Wq w base p FA fn fc most e) (hbd : Bd e) (hbase : base ≤ w.heap.size) :
    Calls Tryz.prog 30 #[.pointer (some ⟨p, 0, none⟩), .string ⟨#[117, 110, 100, 101, 102]⟩] w (ComPost base w p FA fn fc most (some (undefE e))) := by
  obtain ⟨MA0, mc0, c20, CG⟩ := get_front h hbd.good [117, 110, 100, 101, 102]
  have HBD := Lib.hid hbd
  have HWQ := Lib.hid h
  have HBS := Lib.hid hbase
  obtain ⟨G, hG⟩ : ∃ G, undefE e = G := ⟨_, rfl⟩
  rw [hG]
  have HG : Hid ((match argsW e.inp 1 with
    | none => e.note 10 sUndef
    | some (_, s, p) => { e.go p with ms := dropL e.ms s }) = G) := Lib.hid hG
  clear h hbd hG
  go_enter Tryz.func30, Tryz.ntmps30
  go_wp2_with fail
  refine CG.out.mono ?_
  rintro en w1 ⟨B, d, rfl, _, _, hb1⟩
  generalize getM e.ms [117, 110, 100, 101, 102] = mm
  generalize hasL e.ms [117, 110, 100, 101, 102] = bb
  have HB1 := Lib.hid (bch hb1 (one_below w1 (.cells #[.string ⟨mm.1.toArray⟩, .int .i64 mm.2.1, .slice B mm.2.2.length d] 110)))
  clear hb1 CG c20
  go_wp2_with fail
  generalize w1.alloc (.cells #[.string ⟨mm.1.toArray⟩, .int .i64 mm.2.1, .slice B mm.2.2.length d] 110) = W at HB1 ⊢
  obtain ⟨IA, MA, LA, RA, NA, ic, mc, lc, rc, nc, ⟨hp, hic⟩, hr, hk⟩ := HWQ.out.below HB1.out
  have hpl := lt_of_blk hk
  have CW := Lib.hid (rwordq_any (P := Gd p (obA LA) (obA RA) (obA NA)) p IA ic e.inp 1 W (cell_of hk 1) hr.inp (by have := HBD.out.len; omega) hic.1 hic.2 ⟨by omega, by omega⟩ (Lib.hid (fun k q => hr.gd hpl q)))
  have HR := Lib.hid hr
  have HK := Lib.hid hk
  have HIC := Lib.hid hic
  have HZ := Lib.hid (show base ≤ W.heap.size by have := HB1.out.size; omega)
  have HBW := Lib.hid (HB1.out.mono HBS.out)
  clear hr hk hic
  cases hw : argsW e.inp 1 with
  | none =>
    rw [hw] at CW HG
    simp only at HG
    clear hw
    refine CW.out.mono ?_
    rintro en w2 ⟨a, b, c, rfl, hb⟩
    have HB := Lib.hid hb
    have CN := Lib.hid (rnoteq_any base p FA fn fc most e 10 sUndef w2 (Wq.below ⟨IA, MA, LA, RA, NA, ic, mc, lc, rc, nc, ⟨hp, HIC.out⟩, HR.out, HK.out⟩ hb) (by have := HBD.out.notes; omega) (by have := hb.size; have := HZ.out; omega))
    rw [HG.out] at CN
    clear hb
    go_wp2_with fail
    refine CN.out.mono ?_
    rintro en w3 ⟨rfl, hb, hq⟩
    have HBF := Lib.hid ((HBW.out.trans (HB.out.mono HZ.out)).trans hb)
    have HQF := Lib.hid hq
    clear hb hq
    go_wp2_with fail
    go_ret
    exact ⟨rfl, HBF.out, HQF.out⟩
  | some y =>
    obtain ⟨x, s, k⟩ := y
    rw [hw] at CW HG
    obtain ⟨_, hkl, _⟩ := args_part (argsW_some hw).1 (Nat.zero_le _)
    simp only at HG
    clear hw
    refine CW.out.mono ?_
    rintro en w2 ⟨A2, c2, rfl, _, hb⟩
    obtain ⟨f1, f2, w3, hw3, HR3, HK3, HB3, HBU, HIC3⟩ := cut_stepr HIC.out HR.out HK.out hp hb hkl
    have HCUT := fun w => rtok_from (A := IA) (n := e.inp.length) (c := ic) (l := k) hkl w
    have cc2 : w3.cell? ⟨p, 2, none⟩ = some (.slice MA e.ms.length mc) := cell_of HK3.out 2
    have CC2 := Lib.hid cc2
    have cc0 : w2.cell? ⟨p, 2, none⟩ = some (.slice MA e.ms.length mc) := cell_of (blk_below hb HK.out) 2
    have HGD := Lib.hid (fun q (hq : w3.heap.size ≤ q) => HR3.out.gd (lt_of_blk HK3.out) hq)
    have CD := Lib.hid (Pq.rdrop_any (P := Gd p (obA LA) (obA RA) (obA NA)) MA mc e.ms s w3 HR3.out.ms (by have := HBD.out.good.2.1; omega))
    clear hb cc2 CW
    go_wp2_with fail
    rw [← hw3]
    clear f1 f2 HCUT hw3 cc0
    refine CD.out.mono ?_
    rintro en w4 ⟨A4, c4, rfl, ho, hb4⟩
    obtain ⟨r1, r2⟩ := rd110 ho HGD.out
    obtain ⟨f1, f2, HQ, HBF4, _⟩ := ms_stepq (c := c4) HIC3.out HR3.out HK3.out hp hb4 r1 r2
    have HBF := Lib.hid (HBW.out.trans (HB3.out.trans HBF4.out))
    obtain ⟨ms, hms⟩ : ∃ ms, dropL e.ms s = ms := ⟨_, rfl⟩
    rw [hms] at HG HQ HBF ⊢
    clear r1 r2 ho hb4 HBF4 hms CD
    go_wp2_with fail
    go_ret
    exact ⟨rfl, HBF.out, by rw [← HG.out]; exact HQ.out⟩
set_option maxRecDepth 100000 in
set_option maxHeartbeats 4000000 in
theorem cmd_ifdef (base p : Nat) (FA : Option Addr) (fn fc most : Nat) (e : Ex) (w : World) (h : Wq w base p FA fn fc most e) (hbd : Bd e) (hbase : base ≤ w.heap.size) :
    Calls Tryz.prog 30 #[.pointer (some ⟨p, 0, none⟩), .string ⟨#[105, 102, 100, 101, 102]⟩] w (ComPost base w p FA fn fc most (some (ifdefE e))) := by
  obtain ⟨MA0, mc0, c20, CG⟩ := get_front h hbd.good [105, 102, 100, 101, 102]
  have HBD := Lib.hid hbd
  have HWQ := Lib.hid h
  have HBS := Lib.hid hbase
  obtain ⟨G, hG⟩ : ∃ G, ifdefE e = G := ⟨_, rfl⟩
  rw [hG]
  have HG : Hid ((match argsW e.inp 3 with
    | none => e.note 10 sIfdef
    | some (x, s, p) => { e with inp := (if hasL e.ms s then x.getD 1 [] else x.getD 2 []) ++ e.inp.drop p }) = G) := Lib.hid hG
  clear h hbd hG
  go_enter Tryz.func30, Tryz.ntmps30
  go_wp2_with fail
  refine CG.out.mono ?_
  rintro en w1 ⟨B, d, rfl, _, _, hb1⟩
  generalize getM e.ms [105, 102, 100, 101, 102] = mm
  generalize hasL e.ms [105, 102, 100, 101, 102] = bb
  have HB1 := Lib.hid (bch hb1 (one_below w1 (.cells #[.string ⟨mm.1.toArray⟩, .int .i64 mm.2.1, .slice B mm.2.2.length d] 110)))
  clear hb1 CG c20
  go_wp2_with fail
  generalize w1.alloc (.cells #[.string ⟨mm.1.toArray⟩, .int .i64 mm.2.1, .slice B mm.2.2.length d] 110) = W at HB1 ⊢
  obtain ⟨IA, MA, LA, RA, NA, ic, mc, lc, rc, nc, ⟨hp, hic⟩, hr, hk⟩ := HWQ.out.below HB1.out
  have hpl := lt_of_blk hk
  have CW := Lib.hid (rwordq_any (P := Gd p (obA LA) (obA RA) (obA NA)) p IA ic e.inp 3 W (cell_of hk 1) hr.inp (by have := HBD.out.len; omega) hic.1 hic.2 ⟨by omega, by omega⟩ (Lib.hid (fun k q => hr.gd hpl q)))
  have HR := Lib.hid hr
  have HK := Lib.hid hk
  have HIC := Lib.hid hic
  have HZ := Lib.hid (show base ≤ W.heap.size by have := HB1.out.size; omega)
  have HBW := Lib.hid (HB1.out.mono HBS.out)
  have HQW := Lib.hid (show Wq W base p FA fn fc most e from ⟨IA, MA, LA, RA, NA, ic, mc, lc, rc, nc, ⟨hp, hic⟩, hr, hk⟩)
  clear hr hk hic
  cases hw : argsW e.inp 3 with
  | none =>
    rw [hw] at CW HG
    simp only at HG
    clear hw
    refine CW.out.mono ?_
    rintro en w2 ⟨a, b, c, rfl, hb⟩
    have HB := Lib.hid hb
    have CN := Lib.hid (rnoteq_any base p FA fn fc most e 10 sIfdef w2 (HQW.out.below hb) (by have := HBD.out.notes; omega) (by have := hb.size; have := HZ.out; omega))
    rw [HG.out] at CN
    clear hb
    go_wp2_with fail
    refine CN.out.mono ?_
    rintro en w3 ⟨rfl, hb, hq⟩
    have HBF := Lib.hid ((HBW.out.trans (HB.out.mono HZ.out)).trans hb)
    have HQF := Lib.hid hq
    clear hb hq
    go_wp2_with fail
    go_ret
    exact ⟨rfl, HBF.out, HQF.out⟩
  | some y =>
    obtain ⟨x, s, k⟩ := y
    rw [hw] at CW HG
    have hx3 : x.length = 3 := (args_le (argsW_some hw).1 (Nat.zero_le _)).1
    obtain ⟨_, hkl, _⟩ := args_part (argsW_some hw).1 (Nat.zero_le _)
    have hxl := (args_le (argsW_some hw).1 (Nat.zero_le _)).2.2
    have hil := HBD.out.len
    obtain ⟨y1, hy1⟩ : ∃ y, x[1]? = some y := ⟨_, List.getElem?_eq_getElem (by omega)⟩
    obtain ⟨y2, hy2⟩ : ∃ y, x[2]? = some y := ⟨_, List.getElem?_eq_getElem (by omega)⟩
    have hl1 := hxl y1 (List.mem_of_getElem? hy1)
    have hl2 := hxl y2 (List.mem_of_getElem? hy2)
    simp only [getD_at hy1, getD_at hy2] at HG
    have HY1 := Lib.hid hy1
    have HY2 := Lib.hid hy2
    have i1 : (1 : Int) < (x.length : Int) := by omega
    have i2 : (2 : Int) < (x.length : Int) := by omega
    clear hw hxl hy1 hy2
    refine CW.out.mono ?_
    rintro en w2 ⟨A2, c2, rfl, ho, hb⟩
    have HO := Lib.hid ho
    obtain ⟨MA2, mc2, cm, CG2⟩ := get_front (HQW.out.below hb) HBD.out.good s
    have HB2 := Lib.hid hb
    clear hb ho CW
    go_wp2_with fail
    refine CG2.out.mono ?_
    rintro en w3 ⟨B3, d3, rfl, _, _, hb3⟩
    obtain ⟨m3, hm3⟩ : ∃ m3, getM e.ms s = m3 := ⟨_, rfl⟩
    rw [hm3]
    have h35 := bch hb3 (one_below w3 (.cells #[.string ⟨m3.1.toArray⟩, .int .i64 m3.2.1, .slice B3 m3.2.2.length d3] 110))
    clear hb3 CG2 cm hm3
    have hcut := fun w => rtok_from (A := IA) (n := e.inp.length) (c := ic) (l := k) hkl w
    have k1 := cell_of (blk_below (bch HB2.out h35) HK.out) 1
    cases hh : hasL e.ms s with
    | true =>
      rw [hh, if_pos rfl] at HG
      clear hh
      go_wp2_with fail
      obtain ⟨W5, hW5⟩ : ∃ W5, w3.alloc (.cells #[.string ⟨m3.1.toArray⟩, .int .i64 m3.2.1, .slice B3 m3.2.2.length d3] 110) = W5 := ⟨_, rfl⟩
      rw [hW5] at h35 k1 ⊢
      have HB25 := Lib.hid (show Below w2.heap.size w2 W5.drew from bch h35 (below_drew W5))
      have HBX := Lib.hid (HBW.out.trans ((bch HB2.out h35).mono HZ.out))
      have HZ5 := Lib.hid (show base ≤ W5.heap.size by have := (bch HB2.out h35).size; have := HZ.out; omega)
      have HQ5 := Lib.hid (HQW.out.below (bch HB2.out h35))
      have HI5 := Lib.hid (((HR.out.inp.below (bch HB2.out h35))).drop hkl HIC.out.1)
      have k1 : W5.drew.cell? ⟨p, 1, none⟩ = some (.slice IA e.inp.length ic) := k1
      clear h35 hW5
      have HG := Lib.hid HG.out
      obtain ⟨g, BX, dx, hA, _, _, hc, hrx, _⟩ := ownL_atq HO.out HY1.out
      subst hA
      have cx : W5.drew.cell? ⟨g, 1, none⟩ = some (.slice BX y1.length dx) := cell_below HB25.out hc
      have HX := Lib.hid (hrx.below HB25.out)
      clear hrx hc HO HB25
      go_wp2_with fail
      go_region_law (first
        | (refine step_call W5.drew (by rfl) 59 _ _ (by rfl) #[.pointer (some ⟨p, 0, none⟩), .slice BX y1.length dx, .slice (cutS 2 IA ic k) (e.inp.length - k) (ic - k)] (by rfl) (enter59q _ _) (R := fun z w' => z = .tuple #[] ∧ Below base W5.drew w' ∧ Wq w' base p FA fn fc most { e with inp := y1 ++ e.inp.drop k }) ((rfront_n base p FA fn fc most e BX (cutS 2 IA ic k) y1.length (e.inp.length - k) dx (ic - k) y1 (e.inp.drop k) W5.drew (HQ5.out.below (below_drew W5)) rfl (by simp) HX.out (HI5.out.below (below_drew W5)) (by simp; omega)).mono fun _ _ ⟨q1, q2, q3⟩ => ⟨_, q1, rfl, q2, q3⟩) ?_
           rintro z w8 ⟨rfl, hb8, hq8⟩
           have HB8 := Lib.hid hb8
           have HQ8 := Lib.hid hq8
           clear hb8 hq8))
      all_goals
        have HBF := Lib.hid (HBX.out.trans (((below_drew W5).mono HZ5.out).trans HB8.out))
        go_wp2_with fail
        go_ret
        exact ⟨rfl, HBF.out, by rw [← HG.out]; exact HQ8.out⟩
    | false =>
      rw [hh, if_neg (by decide)] at HG
      clear hh
      go_wp2_with fail
      obtain ⟨W5, hW5⟩ : ∃ W5, w3.alloc (.cells #[.string ⟨m3.1.toArray⟩, .int .i64 m3.2.1, .slice B3 m3.2.2.length d3] 110) = W5 := ⟨_, rfl⟩
      rw [hW5] at h35 k1 ⊢
      have HB25 := Lib.hid (show Below w2.heap.size w2 W5.drew from bch h35 (below_drew W5))
      have HBX := Lib.hid (HBW.out.trans ((bch HB2.out h35).mono HZ.out))
      have HZ5 := Lib.hid (show base ≤ W5.heap.size by have := (bch HB2.out h35).size; have := HZ.out; omega)
      have HQ5 := Lib.hid (HQW.out.below (bch HB2.out h35))
      have HI5 := Lib.hid (((HR.out.inp.below (bch HB2.out h35))).drop hkl HIC.out.1)
      have k1 : W5.drew.cell? ⟨p, 1, none⟩ = some (.slice IA e.inp.length ic) := k1
      clear h35 hW5
      have HG := Lib.hid HG.out
      obtain ⟨g, BX, dx, hA, _, _, hc, hrx, _⟩ := ownL_atq HO.out HY2.out
      subst hA
      have cx : W5.drew.cell? ⟨g, 2, none⟩ = some (.slice BX y2.length dx) := cell_below HB25.out hc
      have HX := Lib.hid (hrx.below HB25.out)
      clear hrx hc HO HB25
      go_wp2_with fail
      go_region_law (first
        | (refine step_call W5.drew (by rfl) 59 _ _ (by rfl) #[.pointer (some ⟨p, 0, none⟩), .slice BX y2.length dx, .slice (cutS 2 IA ic k) (e.inp.length - k) (ic - k)] (by rfl) (enter59q _ _) (R := fun z w' => z = .tuple #[] ∧ Below base W5.drew w' ∧ Wq w' base p FA fn fc most { e with inp := y2 ++ e.inp.drop k }) ((rfront_n base p FA fn fc most e BX (cutS 2 IA ic k) y2.length (e.inp.length - k) dx (ic - k) y2 (e.inp.drop k) W5.drew (HQ5.out.below (below_drew W5)) rfl (by simp) HX.out (HI5.out.below (below_drew W5)) (by simp; omega)).mono fun _ _ ⟨q1, q2, q3⟩ => ⟨_, q1, rfl, q2, q3⟩) ?_
           rintro z w8 ⟨rfl, hb8, hq8⟩
           have HB8 := Lib.hid hb8
           have HQ8 := Lib.hid hq8
           clear hb8 hq8))
      all_goals
        have HBF := Lib.hid (HBX.out.trans (((below_drew W5).mono HZ5.out).trans HB8.out))
        go_wp2_with fail
        go_ret
        exact ⟨rfl, HBF.out, by rw [← HG.out]; exact HQ8.out⟩
end Go.Proofs.YtmnbepapgghdaaaGreat

namespace Go.Proofs.YtmnbepapgghdaaaGreat
open Go.RowKit

theorem getM_yes {ms : List Ml} {s : By} {v : Mv} (h : getL ms s = some v) : getM ms s = (s, v) ∧ hasL ms s = true := by
  refine ⟨by unfold getM; rw [h], by rw [hasL_get, h]; rfl⟩
theorem getM_no {ms : List Ml} {s : By} (h : getL ms s = none) : getM ms s = ([], 0, []) ∧ hasL ms s = false := by
  refine ⟨by unfold getM; rw [h], by rw [hasL_get, h]; rfl⟩
set_option maxRecDepth 100000 in
set_option maxHeartbeats 4000000 in
theorem cmd_other (base p : Nat) (FA : Option Addr) (fn fc most : Nat) (e : Ex) (s : By) (w : World) (h : Wq w base p FA fn fc most e) (hbd : Bd e) (hbase : base ≤ w.heap.size) (hm : most ≤ 1000) (n1 : (s == [100, 101, 102]) = false) (n2 : (s == [117, 110, 100, 101, 102]) = false) (n3 : (s == [105, 102, 100, 101, 102]) = false) (n4 : (s == [105, 110, 99, 108, 117, 100, 101]) = false) :
    Calls Tryz.prog 30 #[.pointer (some ⟨p, 0, none⟩), .string ⟨s.toArray⟩] w (ComPost base w p FA fn fc most ((getL e.ms s).map (callE most e s))) := by
  obtain ⟨MA, mc, c2, CG⟩ := get_front h hbd.good s
  have HBD := Lib.hid hbd
  have HWQ := Lib.hid h
  have HBS := Lib.hid hbase
  clear h hbd
  cases hg : getL e.ms s with
  | none =>
    obtain ⟨q1, q2⟩ := getM_no hg
    rw [q1, q2] at CG
    clear hg q1 q2
    go_enter Tryz.func30, Tryz.ntmps30
    go_wp2_with fail
    refine CG.out.mono ?_
    rintro en w1 ⟨B, d, rfl, _, _, hb1⟩
    have HB1 := Lib.hid (bch hb1 (one_below w1 (.cells #[.string ⟨([] : By).toArray⟩, .int .i64 0, .slice B ([] : List Tok).length d] 110)))
    clear hb1 CG
    go_wp2_with fail
    go_ret
    exact ⟨rfl, HB1.out⟩
  | some v =>
    obtain ⟨dd, body⟩ := v
    obtain ⟨q1, q2⟩ := getM_yes hg
    rw [q1, q2] at CG
    have hmem := getL_mem hg
    have hwr := HBD.out.good.2.2 _ hmem
    have hbl := HBD.out.bods _ hmem
    have hd : 0 ≤ dd ∧ dd ≤ 9 := by
      unfold wrE at hwr
      split at hwr
      · cases hwr
      · split at hwr
        · cases hwr
        · rename_i z
          simp only at z
          omega
    simp only at hbl
    have HD := Lib.hid hd
    clear hg q1 q2 hmem hwr hd
    go_enter Tryz.func30, Tryz.ntmps30
    go_wp2_with fail
    refine CG.out.mono ?_
    rintro en w1 ⟨B, d, rfl, hr, hq, hb1⟩
    simp only at hr hq ⊢
    have o1 := one_below w1 (.cells #[.string ⟨s.toArray⟩, .int .i64 dd, .slice B body.length d] 110)
    have HB1 := Lib.hid (bch hb1 o1)
    have m0 : (w1.alloc (.cells #[.string ⟨s.toArray⟩, .int .i64 dd, .slice B body.length d] 110)).cell? ⟨w1.heap.size, 0, none⟩ = some (.string ⟨s.toArray⟩) := by rw [World.cell?_alloc_new]; rfl
    have CC := Lib.hid (rcall_any base p FA fn fc most e s dd body B d _ (HWQ.out.below HB1.out) HBD.out (by have := HB1.out.size; have := HBS.out; omega) HD.out (hr.below o1) hq hbl hm)
    clear hb1 CG hr hq o1 m0
    go_wp2_with fail
    refine CC.out.mono ?_
    rintro en w2 ⟨rfl, hb, hq⟩
    have HBF := Lib.hid ((HB1.out.mono HBS.out).trans hb)
    have HQF := Lib.hid hq
    clear hb hq
    go_wp2_with fail
    go_ret
    exact ⟨rfl, HBF.out, HQF.out⟩
theorem rcommand_any (w0 : World) (p : Nat) (FA : Option Addr) (fs : List Fl.Fl) (fc most : Nat) (e : Ex) (s : By) (w : World) (h : Wq w w0.heap.size p FA fs.length fc most e) (hbd : Bd e) (hb0 : Below w0.heap.size w0 w) (hF : Fl.Rd w0 FA fs) (hfl : fs.length ≤ 1000) (htx : ∀ f ∈ fs, f.2.length ≤ 1000) (hm : most ≤ 1000) :
    Calls Tryz.prog 30 #[.pointer (some ⟨p, 0, none⟩), .string ⟨s.toArray⟩] w (ComPost w0.heap.size w p FA fs.length fc most (cmdE Fl.nmOk (flF fs) most e s)) := by
  unfold cmdE
  by_cases h1 : s = sDef
  · rw [if_pos h1]
    subst h1
    exact cmd_def w0.heap.size p FA fs.length fc most e w h hbd hb0.size
  rw [if_neg h1]
  by_cases h2 : s = sUndef
  · rw [if_pos h2]
    subst h2
    exact cmd_undef w0.heap.size p FA fs.length fc most e w h hbd hb0.size
  rw [if_neg h2]
  by_cases h3 : s = sIfdef
  · rw [if_pos h3]
    subst h3
    exact cmd_ifdef w0.heap.size p FA fs.length fc most e w h hbd hb0.size
  rw [if_neg h3]
  by_cases h4 : s = sInc
  · rw [if_pos h4]
    subst h4
    exact cmd_inc w0 p FA fs fc most e w h hbd hb0 hF hfl htx hm
  rw [if_neg h4]
  exact cmd_other w0.heap.size p FA fs.length fc most e s w h hbd hb0.size hm (by simpa [sDef] using h1) (by simpa [sUndef] using h2) (by simpa [sIfdef] using h3) (by simpa [sInc] using h4)
end Go.Proofs.YtmnbepapgghdaaaGreat

namespace Go.Proofs.YtmnbepapgghdaaaGreat
open Go.RowKit

theorem enter11 (args : Array Value) (w : World) : (callFunc 11 args).run Tryz.prog w = .ok (.enter 11 args) w := enter_of Tryz.func11 (by kernel_rfl) (by kernel_rfl) args w
theorem mono_run {ok : By → Bool} {F : By → Option By} {most B C : Nat} (hF : Short F) (hm : most ≤ B) (e : Ex) : Fine most B C e → Fine most B C (runE ok F most e) :=
  run_ind (fun e e' => Fine most B C e → Fine most B C e') (fun _ _ h => h) (fun _ _ hs h => step_fine hF hm h hs) (fun _ _ _ hs ih h => ih (step_fine hF hm h hs)) e
theorem none_fine' {fuel most : Nat} {main : By} (hf : fuel ≤ 50) : Fine most 1000 60000 (((ex0 fuel).ask main).note 4 main) := none_fine hf
theorem expE_fine {fs : List Fl.Fl} {fuel most : Nat} {main : By} (hf : fuel ≤ 50) (hm : most ≤ 900) (hs : ∀ f ∈ fs, f.2.length ≤ 1000) : Fine most 1000 60000 (expE Fl.nmOk (flF fs) fuel most main) := by
  unfold expE
  cases hF : flF fs main with
  | none => exact none_fine' hf
  | some t => exact mono_run (fun n t ht => Nat.le_trans (hs _ (Fl.getL_mem ht)) (by omega)) (by omega) _ (ask_fine hf hm (hs _ (Fl.getL_mem hF)))
/-- One file. -/
theorem one_fs (w : World) (n s : By) (hs : s.length ≤ 1000) : Fs (w.alloc (.cells #[.string ⟨n.toArray⟩, .string ⟨s.toArray⟩] 45)) (some ⟨w.heap.size, 0, none⟩) [(n, s)] := by
  refine ⟨fun _ => ⟨w.heap.size, 0, rfl, fun i f hi => ?_⟩, by simp, List.pairwise_singleton _ _, fun f hf => ?_⟩
  · match i, hi with
    | 0, hi =>
      cases hi
      exact ⟨new_fst w _ _ 45, new_snd w _ _ 45⟩
    | i + 1, hi => simp at hi
  · simp at hf
    subst hf
    exact hs
/-- An answer, in cells of one block. -/
theorem out_cells (w : World) (LA RA NA : Option Addr) (lc rc nc : Nat) (r : Res8) (t : TypeId) : (w.alloc (.cells (outC LA RA NA lc rc nc r) t)).heap[w.heap.size]? = some (.cells (outC LA RA NA lc rc nc r) t) := heap_alloc_new w _
def OutPost (w : World) (r : Res8) (en : Ending) (w' : World) : Prop :=
  ∃ (LA RA NA : Option Addr) (lc rc nc : Nat), en = .returned (.agg (outC LA RA NA lc rc nc r)) ∧ OutO w' w.heap.size LA RA NA lc rc nc r ∧ Below w.heap.size w w'
def set4 (w : World) (b : Nat) (LA RA NA : Option Addr) (lc rc nc : Nat) (r : Res8) : World :=
  (((w.setCell ⟨b, 0, none⟩ (.slice LA r.1.length lc)).setCell ⟨b, 1, none⟩ (.slice RA r.2.1.length rc)).setCell ⟨b, 2, none⟩ (.slice NA r.2.2.1.length nc)).setCell ⟨b, 3, none⟩ (.int .i64 r.2.2.2)
theorem below4 {b : Nat} {w w' : World} (h : Below b w w') (LA RA NA : Option Addr) (lc rc nc : Nat) (r : Res8) : Below b w (set4 w' b LA RA NA lc rc nc r) :=
  (((h.setCell (Nat.le_refl _) (p := ⟨b, 0, none⟩) _).setCell (Nat.le_refl _) (p := ⟨b, 1, none⟩) _).setCell (Nat.le_refl _) (p := ⟨b, 2, none⟩) _).setCell (Nat.le_refl _) (p := ⟨b, 3, none⟩) _
theorem OutO.set4 {w : World} {b p : Nat} {LA RA NA LA' RA' NA' : Option Addr} {lc rc nc lc' rc' nc' : Nat} {r r' : Res8} (h : OutO w b LA RA NA lc rc nc r) (hp : p < b) : OutO (Go.Proofs.YtmnbepapgghdaaaGreat.set4 w p LA' RA' NA' lc' rc' nc' r') b LA RA NA lc rc nc r :=
  (((h.set hp).set hp).set hp).set hp
/-- Behind a call of Expand in a law, its answer laid in cells; then in the cells of a result. -/
theorem of_end {w W0 w1 : World} {c : Array Value} {LA RA NA : Option Addr} {lc rc nc : Nat} {R : Res8} (hb : Below w.heap.size w W0) (hz : W0.heap.size = w.heap.size + 1)
    (hk : W0.heap[w.heap.size]? = some (.cells #[.slice none 0 0, .slice none 0 0, .slice none 0 0, .int .i64 0] 31))
    (ho : OutO w1 (W0.alloc (.cells c 45)).heap.size LA RA NA lc rc nc R) (hb1 : Below (W0.alloc (.cells c 45)).heap.size (W0.alloc (.cells c 45)) w1) :
    (w1.alloc (.cells (outC LA RA NA lc rc nc R) 31)).heap[w.heap.size]? = some (.cells #[.slice none 0 0, .slice none 0 0, .slice none 0 0, .int .i64 0] 31) ∧ w.heap.size < w1.heap.size ∧
    OutO (set4 (w1.alloc (.cells (outC LA RA NA lc rc nc R) 31)) w.heap.size LA RA NA lc rc nc R) w.heap.size LA RA NA lc rc nc R ∧ Below w.heap.size w (set4 (w1.alloc (.cells (outC LA RA NA lc rc nc R) 31)) w.heap.size LA RA NA lc rc nc R) := by
  have s1 : (W0.alloc (.cells c 45)).heap.size = w.heap.size + 2 := by simp [hz]
  have a1 := one_below W0 (.cells c 45)
  have a2 := one_below w1 (.cells (outC LA RA NA lc rc nc R) 31)
  have a3 : Below W0.heap.size W0 (w1.alloc (.cells (outC LA RA NA lc rc nc R) 31)) := bch (bch a1 hb1) a2
  have hs := hb1.size
  refine ⟨(a3.block _ (by omega)).trans hk, by omega, ?_, below4 (bch hb a3) _ _ _ _ _ _ _⟩
  exact ((ho.below a2).set4 (by omega)).mono (by omega)
set_option maxRecDepth 100000 in
set_option maxHeartbeats 4000000 in
theorem of_any (s : By) (fuel : Nat) (w : World) (hf : fuel ≤ 50) (hs : s.length ≤ 1000) :
    Calls Tryz.prog 17 #[.string ⟨s.toArray⟩, .int .i64 fuel] w (OutPost w (outX (expE Fl.nmOk (flF [([109], s)]) fuel 100 [109]))) := by
  have HK := blk31 w
  have HB := Lib.hid (one_below w (.cells #[.slice none 0 0, .slice none 0 0, .slice none 0 0, .int .i64 0] 31))
  obtain ⟨W0, hW⟩ : ∃ W0, w.alloc (.cells #[.slice none 0 0, .slice none 0 0, .slice none 0 0, .int .i64 0] 31) = W0 := ⟨_, rfl⟩
  rw [hW] at HB HK
  have HBK := Lib.hid HK
  have HZ := Lib.hid (show W0.heap.size = w.heap.size + 1 by rw [← hW]; simp)
  clear HK
  obtain ⟨R, hR⟩ : ∃ R, outX (expE Fl.nmOk (flF [([109], s)]) fuel 100 [109]) = R := ⟨_, rfl⟩
  have C := Lib.hid (expand_go [([109], s)] [109] (some ⟨W0.heap.size, 0, none⟩) 1 fuel 100 (W0.alloc (.cells #[.string ⟨#[109]⟩, .string ⟨s.toArray⟩] 45)) hf (by omega) (one_fs W0 [109] s hs))
  rw [hR] at C ⊢
  clear hR
  go_enter Tryz.func17, Tryz.ntmps17
  go_wp2_with fail
  refine C.out.mono ?_
  rintro en w1 ⟨LA, RA, NA, lc, rc, nc, rfl, ho, hb1⟩
  obtain ⟨hp, hlt, ho2, hb2⟩ := of_end HB.out HZ.out HBK.out ho hb1
  have HO2 := Lib.hid ho2
  have HB2 := Lib.hid hb2
  have hq := out_cells w1 LA RA NA lc rc nc R 31
  have HLT := Lib.hid hlt
  unfold outC at hq ho2 ⊢
  have k0 := cell_of hq 0
  have k1 := cell_of hq 1
  have k2 := cell_of hq 2
  have k3 := cell_of hq 3
  obtain ⟨W2, hW2⟩ : ∃ W2, w1.alloc (.cells #[.slice LA R.1.length lc, .slice RA R.2.1.length rc, .slice NA R.2.2.1.length nc, .int .i64 R.2.2.2] 31) = W2 := ⟨_, rfl⟩
  have hp2 : W2.heap[w.heap.size]? = some (.cells #[.slice none 0 0, .slice none 0 0, .slice none 0 0, .int .i64 0] 31) := by rw [← hW2]; exact hp
  rw [hW2] at k0 k1 k2 k3
  have k0 : W2.cell? ⟨w1.heap.size, 0, none⟩ = some (.slice LA R.1.length lc) := k0
  have k1 : W2.cell? ⟨w1.heap.size, 1, none⟩ = some (.slice RA R.2.1.length rc) := k1
  have k2 : W2.cell? ⟨w1.heap.size, 2, none⟩ = some (.slice NA R.2.2.1.length nc) := k2
  have k3 : W2.cell? ⟨w1.heap.size, 3, none⟩ = some (.int .i64 R.2.2.2) := k3
  have r0 : W2.cell? ⟨w.heap.size, 0, none⟩ = some (.slice none 0 0) := cell_of hp2 0
  have r1 : W2.cell? ⟨w.heap.size, 1, none⟩ = some (.slice none 0 0) := cell_of hp2 1
  have r2 : W2.cell? ⟨w.heap.size, 2, none⟩ = some (.slice none 0 0) := cell_of hp2 2
  have r3 : W2.cell? ⟨w.heap.size, 3, none⟩ = some (.int .i64 0) := cell_of hp2 3
  have f0 := frozen_of hp2 0
  have f1 := frozen_of hp2 1
  have f2 := frozen_of hp2 2
  have f3 := frozen_of hp2 3
  have BK := Lib.hid (blk_set (blk_set (blk_set (blk_set hp2 0 (.slice LA R.1.length lc)) 1 (.slice RA R.2.1.length rc)) 2 (.slice NA R.2.2.1.length nc)) 3 (.int .i64 R.2.2.2))
  have HW2 := Lib.hid hW2
  clear hp hlt ho2 hb2 hq hp2 ho hb1
  go_wp2_with fail
  refine bodyPost_ret (results_cell_row (P := Tryz.prog) rfl _ _ w.heap.size 31 #[.slice LA R.1.length lc, .slice RA R.2.1.length rc, .slice NA R.2.2.1.length nc, .int .i64 R.2.2.2] (0, 0) _ (by rfl) BK.out Tryz.underlying31 rfl (by kernel_rfl)) rfl ?_
  have ho2 := HO2.out
  have hb2 := HB2.out
  unfold outC at ho2 hb2
  rw [HW2.out] at ho2 hb2
  exact ⟨LA, RA, NA, lc, rc, nc, rfl, ho2, hb2⟩
end Go.Proofs.YtmnbepapgghdaaaGreat

namespace Go.Proofs.YtmnbepapgghdaaaGreat
open Go.RowKit

/-- Rows of an answer, to read. -/
structure RdO (w : World) (LA RA NA : Option Addr) (r : Res8) : Prop where
  l : Rd w LA r.1
  reads : RdS w RA r.2.1
  notes : Rd w NA r.2.2.1
theorem RdO.below {w w' : World} {LA RA NA : Option Addr} {r : Res8} (h : RdO w LA RA NA r) (hb : Below w.heap.size w w') : RdO w' LA RA NA r := ⟨h.l.below hb, h.reads.below hb, h.notes.below hb⟩
theorem OutO.rdo {w : World} {b : Nat} {LA RA NA : Option Addr} {lc rc nc : Nat} {r : Res8} (h : OutO w b LA RA NA lc rc nc r) : RdO w LA RA NA r := ⟨h.l.rd, OwnT.rd h.reads, h.notes.rd⟩
/-- No row of it is long. -/
def Sm (r : Res8) : Prop := r.1.length ≤ 1000 ∧ r.2.1.length ≤ 100 ∧ r.2.2.1.length ≤ 100000
theorem two_boxes (w : World) (c d : Array Value) : let W := (w.alloc (.cells c 37)).alloc (.cells d 37)
    W.heap[w.heap.size]? = some (.cells c 37) ∧ W.heap[w.heap.size + 1]? = some (.cells d 37) ∧ Below w.heap.size w W ∧ W.heap.size = w.heap.size + 2 := by
  have s1 : (w.alloc (.cells c 37)).heap.size = w.heap.size + 1 := by simp
  have h1 := heap_alloc_new w (.cells c 37)
  have h2 := heap_alloc_new (w.alloc (.cells c 37)) (.cells d 37)
  have b2 := one_below (w.alloc (.cells c 37)) (.cells d 37)
  rw [s1] at h2
  exact ⟨(b2.block _ (by omega)).trans h1, h2, bch (one_below w _) b2, by simp⟩
set_option maxRecDepth 100000 in
set_option maxHeartbeats 4000000 in
theorem same8_any (LA RA NA LB RB NB : Option Addr) (lc rc nc ld rd nd : Nat) (r : Res8) (w : World) (h : RdO w LA RA NA r) (g : RdO w LB RB NB r) (hs : Sm r) :
    Calls Tryz.prog 13 #[.agg (outC LA RA NA lc rc nc r), .agg (outC LB RB NB ld rd nd r)] w fun en w' => en = .returned (.bool true) ∧ Below w.heap.size w w' := by
  obtain ⟨q1, q2, q3, q4⟩ := two_boxes w (outC LA RA NA lc rc nc r) (outC LB RB NB ld rd nd r)
  unfold outC at q1 q2 q3 q4 ⊢
  obtain ⟨s1, s2, s3⟩ := hs
  obtain ⟨W, hW⟩ : ∃ W, (w.alloc (.cells #[.slice LA r.1.length lc, .slice RA r.2.1.length rc, .slice NA r.2.2.1.length nc, .int .i64 r.2.2.2] 37)).alloc (.cells #[.slice LB r.1.length ld, .slice RB r.2.1.length rd, .slice NB r.2.2.1.length nd, .int .i64 r.2.2.2] 37) = W := ⟨_, rfl⟩
  rw [hW] at q1 q2 q3 q4
  have HB := Lib.hid q3
  have H := Lib.hid (fun n => (h.below q3).below (drewN_below W n))
  have G := Lib.hid (fun n => (g.below q3).below (drewN_below W n))
  have C1 := Lib.hid (fun n => same_any LA LB lc ld r.1 r.1 (W.drewN n) (H.out n).l (G.out n).l (by omega) (by omega))
  have C2 := Lib.hid (fun n => rwords_any RA RB rc rd r.2.1 r.2.1 (W.drewN n) (H.out n).reads (G.out n).reads (by omega) (by omega))
  have C3 := Lib.hid (fun n => rnotes_any NA NB nc nd r.2.2.1 r.2.2.1 (W.drewN n) (H.out n).notes (G.out n).notes (by omega) (by omega))
  simp only [decide_true] at C1 C2 C3
  have k0 : ∀ n, (W.drewN n).cell? ⟨w.heap.size, 0, none⟩ = some (.slice LA r.1.length lc) := fun n => cell_of q1 0
  have k1 : ∀ n, (W.drewN n).cell? ⟨w.heap.size, 1, none⟩ = some (.slice RA r.2.1.length rc) := fun n => cell_of q1 1
  have k2 : ∀ n, (W.drewN n).cell? ⟨w.heap.size, 2, none⟩ = some (.slice NA r.2.2.1.length nc) := fun n => cell_of q1 2
  have k3 : ∀ n, (W.drewN n).cell? ⟨w.heap.size, 3, none⟩ = some (.int .i64 r.2.2.2) := fun n => cell_of q1 3
  have j0 : ∀ n, (W.drewN n).cell? ⟨w.heap.size + 1, 0, none⟩ = some (.slice LB r.1.length ld) := fun n => cell_of q2 0
  have j1 : ∀ n, (W.drewN n).cell? ⟨w.heap.size + 1, 1, none⟩ = some (.slice RB r.2.1.length rd) := fun n => cell_of q2 1
  have j2 : ∀ n, (W.drewN n).cell? ⟨w.heap.size + 1, 2, none⟩ = some (.slice NB r.2.2.1.length nd) := fun n => cell_of q2 2
  have j3 : ∀ n, (W.drewN n).cell? ⟨w.heap.size + 1, 3, none⟩ = some (.int .i64 r.2.2.2) := fun n => cell_of q2 3
  have d0 : W.cell? ⟨w.heap.size, 0, none⟩ = some (.slice LA r.1.length lc) := cell_of q1 0
  have d1 : W.cell? ⟨w.heap.size + 1, 0, none⟩ = some (.slice LB r.1.length ld) := cell_of q2 0
  clear q1 q2 q3 q4
  go_enter Tryz.func13, Tryz.ntmps13
  go_wp2_with fail
  refine (C1.out 0).mono ?_
  rintro en w1 ⟨rfl, n1, rfl⟩
  rw [World.drewN_drewN, Nat.zero_add]
  have a1 := k1 n1
  have a2 := j1 n1
  go_wp2_with fail
  refine (C2.out n1).mono ?_
  rintro en w1 ⟨rfl, n2, rfl⟩
  rw [World.drewN_drewN]
  have b1 := k2 (n1 + n2)
  have b2 := j2 (n1 + n2)
  go_wp2_with fail
  refine (C3.out (n1 + n2)).mono ?_
  rintro en w1 ⟨rfl, n3, rfl⟩
  rw [World.drewN_drewN]
  have c1 := k3 (n1 + n2 + n3)
  have c2 := j3 (n1 + n2 + n3)
  go_wp2
  go_ret
  exact ⟨by simp, HB.out.trans ((drewN_below W _).mono HB.out.size)⟩
end Go.Proofs.YtmnbepapgghdaaaGreat

namespace Go.Proofs.YtmnbepapgghdaaaGreat
open Go.RowKit

theorem step_append_d {ops : Array Oper} {o : Oper} {a : Act} {K : Act → World → Prop} {Q : Exit → Act → World → Prop} {E : Prop} (w : World) (hgd : o.guard = none) (s x : Operand)
    (ho : o.op = .call { callee := .builtin .append, args := #[s, x], argTypes := #[35, 35] }) (base : Nat) (C : Option Addr) (cc : Nat) (xs : List Tok) (hs : a.eval s = .slice C xs.length cc) (hown : Own 82 w base C cc xs)
    (A : Option Addr) (m c : Nat) (gs : List Tok) (hm : m = gs.length) (hx : a.eval x = .slice A m c) (hr : Rd w A gs) (hlen : xs.length + gs.length ≤ 200000) (hbase : base ≤ w.heap.size) (r : List Tok) (hr0 : xs ++ gs = r)
    (h : ∀ A' c' w', Own 82 w' base A' c' r → w.grownBy w' (obA C) → (obA A' = obA C ∨ obA A' = some w.heap.size) → K (a.put o.dst (.slice A' r.length c')) w') : if Region.wanted o (yielded ops a.tmps) = true then Oper.wp Tryz.prog o a w K Q else E := by
  subst hm hr0
  have hw : Region.wanted o (yielded ops a.tmps) = true := by simp [Region.wanted, hgd]
  rw [if_pos hw]
  obtain ⟨A', c', w', hrun, h2, h3, h4⟩ := run_append_dt w base o.type C cc xs hown A c gs hr hlen hbase
  rw [obA_own, obA_own] at h4
  rw [obA_own] at h3
  unfold Oper.wp
  simp only [execOp, ho, resolve, invoke, builtin, Sem.run_bind, Sem.run_pure, Result.andThen_ok, List.map_toArray, List.map_cons, List.map_nil, hs, hx, hrun]
  exact h A' c' w' h2 h3 h4
/-- It begins. -/
theorem wq_new (W1 : World) (FA : Option Addr) (fn fc fuel most : Nat) :
    Wq (W1.alloc (.cells #[.slice FA fn fc, .slice none 0 0, .slice none 0 0, .int .i64 fuel, .int .i64 most, .slice none 0 0, .slice none 0 0, .slice none 0 0, .int .i64 0] 77)) W1.heap.size W1.heap.size FA fn fc most (ex0 fuel) := by
  have own : ∀ (t s : Nat) (w : World) (base : Nat), w.ownsRow base t s (.slice none 0 0) 0 [] := fun t s w base => ⟨by simp, .inl ⟨rfl, rfl⟩⟩
  refine ⟨none, none, none, none, none, 0, 0, 0, 0, 0, ⟨Nat.le_refl _, Nat.le_refl _, by omega⟩, ⟨own 82 2 _ _, own 9 1 _ _, own 86 2 _ _, fun e => (by cases e), fun e => (by cases e), fun e => (by cases e), fun h => absurd h (Nat.lt_irrefl 0), fun h => absurd h (Nat.lt_irrefl 0), fun h => absurd h (Nat.lt_irrefl 0), fun h => absurd h (Nat.lt_irrefl 0)⟩, ?_⟩
  rw [heap_alloc_new]
  rfl
/-- The measure, as memory tells it. -/
def muQ (B p : Nat) (w : World) : Nat := match w.heap[p]? with
  | some (.cells cs _ _) => match cs[1]?, cs[3]? with
    | some (Value.slice _ n _), some (Value.int _ f) => f.toNat * (B + 1) + n
    | _, _ => 0
  | _ => 0
theorem muQ_eq {w : World} {base p : Nat} {FA : Option Addr} {fn fc most : Nat} {e : Ex} (B : Nat) (h : Wq w base p FA fn fc most e) : muQ B p w = mu B e := by
  obtain ⟨IA, MA, LA, RA, NA, ic, mc, lc, rc, nc, hp, hr, hk⟩ := h
  unfold muQ mu
  rw [hk]
  rfl
theorem step_cmd {ok : By → Bool} {F : By → Option By} {most : Nat} {e e2 : Ex} {t : Tok} {r : List Tok} (hi : e.inp = t :: r) (h4 : t.1 = 4) (hc : cmdE ok F most (e.go 1) t.2 = some e2) : stepE ok F most e = some (true, e2) := by
  have hg : e.go 1 = { e with inp := r } := by unfold Ex.go; rw [hi]; rfl
  rw [hg] at hc
  unfold stepE
  rw [hi]
  simp only [h4, if_true, hc]
theorem step_none {ok : By → Bool} {F : By → Option By} {most : Nat} {e : Ex} {t : Tok} {r : List Tok} (hi : e.inp = t :: r) (h : t.1 ≠ 4 ∨ cmdE ok F most (e.go 1) t.2 = none) : stepE ok F most e = if most ≤ e.out.length then some (false, (e.go 1).note 3 []) else some (true, { e.go 1 with out := e.out ++ [t] }) := by
  have hg : e.go 1 = { e with inp := r } := by unfold Ex.go; rw [hi]; rfl
  have hz : (if t.1 = 4 then cmdE ok F most { e with inp := r } t.2 else none) = none := by
    rcases h with h | h
    · rw [if_neg h]
    · rw [← hg, h]; split <;> rfl
  unfold stepE
  rw [hi]
  simp only [hz, hg]
theorem bd_of {most : Nat} {e : Ex} (h : Fine most 400 60000 e) (hm : most ≤ 400) (hu : e.used + e.fuel ≤ 50) : Bd e :=
  ⟨h.pt, h.good, h.len, h.bods, h.reads, by have := h.out; omega, by have := h.notes; omega, by omega, by omega⟩
theorem bd_go {e : Ex} (h : Bd e) : Bd (e.go 1) :=
  ⟨⟨fun t ht => h.pt.1 t (List.drop_subset _ _ ht), h.pt.2⟩, h.good, by show (e.inp.drop 1).length ≤ 400; have := h.len; simp; omega, h.bods, h.reads, h.out, h.notes, h.fuel, h.used⟩
/-- What holds at each round. -/
def LoopQ (W1 : World) (p : Nat) (FA : Option Addr) (fs : List Fl.Fl) (fc most : Nat) (R : Res8) (wr : World) : Prop :=
  ∃ e, Wq wr W1.heap.size p FA fs.length fc most e ∧ outX (runE Fl.nmOk (flF fs) most e) = R ∧ Fine most 400 60000 e ∧ e.used + e.fuel ≤ 50 ∧ Below W1.heap.size W1 wr
theorem loopq_step {W1 w' : World} {p : Nat} {FA : Option Addr} {fs : List Fl.Fl} {fc most : Nat} {R : Res8} {e e2 : Ex} (hS : Short (flF fs)) (hm : most ≤ 400) (h2 : outX (runE Fl.nmOk (flF fs) most e) = R) (h3 : Fine most 400 60000 e) (h4 : e.used + e.fuel ≤ 50) (hs : stepE Fl.nmOk (flF fs) most e = some (true, e2)) (hq : Wq w' W1.heap.size p FA fs.length fc most e2) (hb : Below W1.heap.size W1 w') :
    LoopQ W1 p FA fs fc most R w' ∧ muQ 400 p w' < mu 400 e := by
  have hf := step_fine hS hm h3 hs
  refine ⟨⟨e2, hq, by rw [← h2, run_next hs], hf, by rw [step_used hs]; exact h4, hb⟩, ?_⟩
  rw [muQ_eq 400 hq]
  exact mu_less (step_less hs) hf.len
theorem set4_other (w : World) (b : Nat) (LA RA NA : Option Addr) (lc rc nc : Nat) (r : Res8) {g : Nat} (h : g ≠ b) : (set4 w b LA RA NA lc rc nc r).heap[g]? = w.heap[g]? := by
  unfold set4
  rw [Below.heap_setCell _ ⟨b, 3, none⟩ _ g h, Below.heap_setCell _ ⟨b, 2, none⟩ _ g h, Below.heap_setCell _ ⟨b, 1, none⟩ _ g h, Below.heap_setCell _ ⟨b, 0, none⟩ _ g h]
/-- It ends: what it put out is laid into the cells of the result. -/
theorem end_q {w0 W1 wr : World} {p : Nat} {FA : Option Addr} {fn fc most : Nat} {e : Ex} (h : Wq wr W1.heap.size p FA fn fc most e) (hz : W1.heap.size = w0.heap.size + 1) (hb0 : Below w0.heap.size w0 W1) (hb : Below W1.heap.size W1 wr) (hk0 : W1.heap[w0.heap.size]? = some (.cells #[.slice none 0 0, .slice none 0 0, .slice none 0 0, .int .i64 0] 37)) :
    ∃ (LA RA NA : Option Addr) (lc rc nc : Nat), (wr.cell? ⟨p, 5, none⟩ = some (.slice LA e.out.length lc) ∧ wr.cell? ⟨p, 6, none⟩ = some (.slice RA e.reads.length rc) ∧ wr.cell? ⟨p, 7, none⟩ = some (.slice NA e.notes.length nc) ∧ wr.cell? ⟨p, 8, none⟩ = some (.int .i64 e.used)) ∧
      (wr.cell? ⟨w0.heap.size, 0, none⟩ = some (.slice none 0 0) ∧ wr.cell? ⟨w0.heap.size, 1, none⟩ = some (.slice none 0 0) ∧ wr.cell? ⟨w0.heap.size, 2, none⟩ = some (.slice none 0 0) ∧ wr.cell? ⟨w0.heap.size, 3, none⟩ = some (.int .i64 0)) ∧
      (wr.frozen? ⟨w0.heap.size, 0, none⟩ = false ∧ wr.frozen? ⟨w0.heap.size, 1, none⟩ = false ∧ wr.frozen? ⟨w0.heap.size, 2, none⟩ = false ∧ wr.frozen? ⟨w0.heap.size, 3, none⟩ = false) ∧
      ∃ wf, wf = (((wr.setCell ⟨w0.heap.size, 0, none⟩ (.slice LA e.out.length lc)).setCell ⟨w0.heap.size, 1, none⟩ (.slice RA e.reads.length rc)).setCell ⟨w0.heap.size, 2, none⟩ (.slice NA e.notes.length nc)).setCell ⟨w0.heap.size, 3, none⟩ (.int .i64 e.used) ∧
        Hid (wf.heap[w0.heap.size]? = some (.cells #[.slice LA e.out.length lc, .slice RA e.reads.length rc, .slice NA e.notes.length nc, .int .i64 e.used] 37)) ∧ Hid (RdO wf LA RA NA (outX e)) ∧ Hid (Below w0.heap.size w0 wf) := by
  obtain ⟨IA, MA, LA, RA, NA, ic, mc, lc, rc, nc, hp, hr, hk⟩ := h
  have hblk := (hb.block _ (by omega)).trans hk0
  have far : ∀ {t s n : Nat} {v : Value} {xs : List Value}, wr.ownsRow W1.heap.size t s v n xs → (set4 wr w0.heap.size LA RA NA lc rc nc (outX e)).ownsRow W1.heap.size t s v n xs := fun q => row_keep q fun g hg => set4_other wr _ _ _ _ _ _ _ _ (by have := (World.ownsRow.lt q g hg).1; omega)
  refine ⟨LA, RA, NA, lc, rc, nc, ⟨cell_of hk 5, cell_of hk 6, cell_of hk 7, cell_of hk 8⟩, ⟨cell_of hblk 0, cell_of hblk 1, cell_of hblk 2, cell_of hblk 3⟩, ⟨frozen_of hblk 0, frozen_of hblk 1, frozen_of hblk 2, frozen_of hblk 3⟩, _, rfl, Lib.hid ?_, Lib.hid ?_, Lib.hid ?_⟩
  · rw [blk_set (blk_set (blk_set (blk_set hblk 0 _) 1 _) 2 _) 3 _]; rfl
  · exact ⟨Own.rd (far hr.out), OwnT.rd (far hr.reads), Own.rd (far hr.notes)⟩
  · exact below4 (hb0.trans (hb.mono (by omega))) LA RA NA lc rc nc (outX e)
end Go.Proofs.YtmnbepapgghdaaaGreat

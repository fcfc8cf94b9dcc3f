/-
  Package macro: Drop, Put, Get.
  Package macro: Put.
  The law's Ref, Refs of macros; the document's Drop, Get, Same.
-/
import Derived.Test.YtmnbepapgghdaaaGreatK09
import Derived.StillTailTactics
import Derived.Deep.RegionHeld3
import Derived.Deep.RegionWith
namespace Go.Proofs.YtmnbepapgghdaaaGreat
open Go.RowKit

theorem below_drew (w : World) : Below w.heap.size w w.drew := ⟨rfl, rfl, rfl, Nat.le_refl _, fun _ _ => rfl⟩
theorem mac_from {A : Option Addr} {n c l : Nat} (h1 : l ≤ n) (w : World) : (Instr.slice 66 (.slice A n c) (some (.int .i64 l)) none none).run Tryz.prog w = .ok (.slice (cutS 3 A c l) (n - l) (c - l)) w :=
  part_l 66 137 3 (by kernel_rfl) (by kernel_rfl) (sz_run Tryz.infoM137) A n c l h1 w
theorem mac_to {A : Option Addr} {n c h : Nat} (h2 : h ≤ c) (w : World) : (Instr.slice 66 (.slice A n c) none (some (.int .i64 h)) none).run Tryz.prog w = .ok (.slice A h c) w :=
  part_h 66 137 3 (by kernel_rfl) (by kernel_rfl) (sz_run Tryz.infoM137) A n c h h2 w
theorem get_yes {fs : List Ml} {n : By} {f : Ml} (hs : Sorted fs) (h : hasL fs n = true) (hf : fs[plc fs n]? = some f) : f.1 = n ∧ getL fs n = some f.2 := by
  have hk : plc fs n < fs.length := by
    rcases Nat.lt_or_ge (plc fs n) fs.length with q | q
    · exact q
    · rw [List.getElem?_eq_none q] at hf; cases hf
  have e := get_of hf hk
  have h1 := hasL_plc hs hk
  rw [h, e] at h1
  have h2 : f.1 = n := by simpa using h1.symm
  refine ⟨h2, ?_⟩
  rw [getL_plc hs hk (by rw [e]; exact h2), e]
theorem has_lt {fs : List Ml} {n : By} (h : hasL fs n = true) : plc fs n < fs.length := by
  rcases Nat.lt_or_ge (plc fs n) fs.length with q | q
  · exact q
  · rw [hasL_plc_end (Nat.le_antisymm (plc_le fs n) q)] at h; cases h
theorem ResM.from {t : TypeId} {w w1 : World} {ms : List Ml} {e : Ending} {w' : World} (h : ResM t w1 ms e w') (hb : Below w.heap.size w w1) : ResM t w ms e w' := by
  obtain ⟨A, c, he, ho, hb1⟩ := h
  exact ⟨A, c, he, ho.mono hb.size, bch hb hb1⟩
/-- Small bodies. -/
def Bod (ms : List Ml) : Prop := ∀ m ∈ ms, m.2.2.length ≤ 200000
theorem join1_world (A : Option Addr) (c e : Nat) (ms : List Ml) (w : World) (hr : RdM w A ms) (hc : ms.length ≤ 1000) (hz : Bod ms) :
    Calls Tryz.prog 97 #[.slice (some ⟨w.heap.size, 0, none⟩) 1 1] (w.alloc (.cells #[.slice A ms.length c] e)) (ResM 137 w ms) := by
  have b1 := one_below w (.cells #[.slice A ms.length c] e)
  have hp : Pcs (w.alloc (.cells #[.slice A ms.length c] e)) w.heap.size [(A, c, ms)] := fun i p hi => by
    match i, hi with
    | 0, hi => simp at hi; subst hi; exact ⟨new_one _ _ _, hr.below b1⟩
    | i + 1, hi => simp at hi
  have hcat : cat [(A, c, ms)] = ms := by simp [cat]
  have h := join_any w.heap.size 1 _ _ hp (by simp) (by rw [hcat]; omega) (Lib.hid (by rw [hcat]; exact hz))
  rw [hcat] at h
  exact h.mono fun _ _ hh => hh.from b1
theorem join2_world (A B : Option Addr) (c d e : Nat) (fs gs : List Ml) (w : World) (hr : RdM w A fs) (hq : RdM w B gs) (hc : fs.length + gs.length ≤ 1000) (hz : Bod (fs ++ gs)) :
    Calls Tryz.prog 97 #[.slice (some ⟨w.heap.size, 0, none⟩) 2 2] (w.alloc (.cells #[.slice A fs.length c, .slice B gs.length d] e)) (ResM 137 w (fs ++ gs)) := by
  have b1 := one_below w (.cells #[.slice A fs.length c, .slice B gs.length d] e)
  have hp := two_read (w := w.alloc (.cells #[.slice A fs.length c, .slice B gs.length d] e)) (b := w.heap.size) (c1 := c) (c2 := d) (new_fst _ _ _ _) (new_snd _ _ _ _) (hr.below b1) (hq.below b1)
  have h := join_any w.heap.size 2 _ _ hp (by simp) (by rw [cat2]; simp; omega) (Lib.hid (by rw [cat2]; exact hz))
  rw [cat2] at h
  exact h.mono fun _ _ hh => hh.from b1
theorem new_three (w : World) (a b c : Value) (t : TypeId) : (w.alloc (.cells #[a, b, c] t)).cell? ⟨w.heap.size, 0, none⟩ = some a ∧ (w.alloc (.cells #[a, b, c] t)).cell? ⟨w.heap.size, 1, none⟩ = some b ∧ (w.alloc (.cells #[a, b, c] t)).cell? ⟨w.heap.size, 2, none⟩ = some c :=
  ⟨by rw [World.cell?_alloc_new]; rfl, by rw [World.cell?_alloc_new]; rfl, by rw [World.cell?_alloc_new]; rfl⟩
theorem join3_world (A B D : Option Addr) (c d k e t : Nat) (fs gs : List Ml) (m : Ml) (w : World) (hr : RdM w A fs) (hq : RdM w B gs) (hm : Rd w D m.2.2) (hc : fs.length + gs.length ≤ 1000) (hz : Bod (fs ++ (m :: gs))) :
    Calls Tryz.prog 97 #[.slice (some ⟨w.heap.size + 1, 0, none⟩) 3 3] ((w.alloc (.cells #[.string ⟨m.1.toArray⟩, .int .i64 m.2.1, .slice D m.2.2.length k] t)).alloc (.cells #[.slice A fs.length c, .slice (some ⟨w.heap.size, 0, none⟩) 1 1, .slice B gs.length d] e)) (ResM 137 w (fs ++ (m :: gs))) := by
  have b1 := one_below w (.cells #[.string ⟨m.1.toArray⟩, .int .i64 m.2.1, .slice D m.2.2.length k] t)
  have s1 : (w.alloc (.cells #[.string ⟨m.1.toArray⟩, .int .i64 m.2.1, .slice D m.2.2.length k] t)).heap.size = w.heap.size + 1 := by simp
  obtain ⟨k1, k2, k3⟩ := new_three w (.string ⟨m.1.toArray⟩) (.int .i64 m.2.1) (.slice D m.2.2.length k) t
  have r1 : RdM (w.alloc (.cells #[.string ⟨m.1.toArray⟩, .int .i64 m.2.1, .slice D m.2.2.length k] t)) (some ⟨w.heap.size, 0, none⟩) [m] := one_readM k1 k2 k3 (hm.below b1) (fun _ => far_none D)
  generalize w.alloc (.cells #[.string ⟨m.1.toArray⟩, .int .i64 m.2.1, .slice D m.2.2.length k] t) = w1 at *
  have b2 := one_below w1 (.cells #[.slice A fs.length c, .slice (some ⟨w.heap.size, 0, none⟩) 1 1, .slice B gs.length d] e)
  have hb := bch b1 b2
  obtain ⟨q1, q2, q3⟩ := new_three w1 (.slice A fs.length c) (.slice (some ⟨w.heap.size, 0, none⟩) 1 1) (.slice B gs.length d) e
  rw [← s1]
  have hp := three_read (w := w1.alloc (.cells #[.slice A fs.length c, .slice (some ⟨w.heap.size, 0, none⟩) 1 1, .slice B gs.length d] e)) (b := w1.heap.size) (A1 := A) (A2 := some ⟨w.heap.size, 0, none⟩) (A3 := B) (c1 := c) (c2 := 1) (c3 := d) (f1 := fs) (f2 := [m]) (f3 := gs)
    q1 q2 q3 (hr.below hb) (r1.below b2) (hq.below hb)
  have h := join_any w1.heap.size 3 _ _ hp (by simp) (by rw [cat3]; simp; omega) (Lib.hid (by rw [cat3]; exact hz))
  rw [cat3] at h
  exact h.mono fun _ _ hh => hh.from hb
theorem Bod.drop {ms : List Ml} (h : Bod ms) (n : By) : Bod (dropL ms n) := fun m hm => h m (List.mem_filter.1 hm).1
set_option maxRecDepth 100000 in
set_option maxHeartbeats 1000000 in
theorem drop7_any (A : Option Addr) (c : Nat) (fs : List Ml) (n : By) (w : World) (hr : RdM w A fs) (hc : fs.length ≤ 1000) (hcap : fs.length ≤ c) (hc63 : c ≤ 9223372036854775807) (hs : Hid (Sorted fs)) (hz : Hid (Bod fs)) :
    Calls Tryz.prog 75 #[.slice A fs.length c, .string ⟨n.toArray⟩] w (ResM 137 w (dropL fs n)) := by
  have HC := Lib.hid (find_any A c fs n w hr (by omega) hs)
  have HZ := Lib.hid (hz.out.drop n)
  cases hh : hasL fs n
  · have hd := dropL_none hh
    have HH := Lib.hid hh
    have HF := Lib.hid (fun w' hr' => join1_world A c 66 fs w' hr' (by omega) hz.out)
    clear hh
    rw [hd]
    clear hd HZ
    go_enter Tryz.func75, Tryz.ntmps75
    go_wp2_with fail
    refine HC.out.mono ?_
    rw [HH.out]
    rintro e w1 ⟨rfl, hb⟩
    have hr1 := hr.below hb
    go_wp2_with fail
    refine (HF.out _ hr1).mono ?_
    rintro e w2 ⟨A2, c2, rfl, ho, hb2⟩
    go_wp2
    go_ret
    exact ⟨A2, c2, rfl, ho.mono hb.size, bch hb hb2⟩
  · have hlt := has_lt hh
    obtain ⟨f, hf⟩ : ∃ f, fs[plc fs n]? = some f := ⟨_, List.getElem?_eq_getElem hlt⟩
    have hy := (get_yes hs.out hh hf).1
    have hd := dropL_has hs.out hlt (by rw [get_of hf hlt]; exact hy)
    rw [hd] at HZ ⊢
    have HH := Lib.hid hh
    clear hh hf hy hd
    obtain ⟨k, hk⟩ : ∃ k, k = plc fs n := ⟨_, rfl⟩
    rw [← hk] at HC hlt HZ ⊢
    clear hk
    have hra := fun (w' : World) (h : RdM w' A fs) => RdMF.take h k
    have hrb := fun (w' : World) (h : RdM w' A fs) => RdMF.part h (l := k + 1) (c := c) (by omega) hcap
    have hl1 : (fs.take k).length = k := by simp; omega
    have hl2 : (fs.drop (k + 1)).length = fs.length - (k + 1) := by simp
    generalize fs.take k = xs at hra hl1 HZ ⊢
    generalize fs.drop (k + 1) = ys at hrb hl2 HZ ⊢
    subst hl1
    have e1 := fun w => mac_to (A := A) (n := fs.length) (c := c) (h := xs.length) (by omega) w
    have e2 := fun w => mac_from (A := A) (n := fs.length) (c := c) (l := xs.length + 1) (by omega) w
    rw [← hl2] at e2
    have ec : ((xs.length + 1 : Nat) : Int) = (xs.length : Int) + 1 := by omega
    rw [ec] at e2
    have hly : xs.length + ys.length ≤ 1000 := by omega
    have HL := Lib.hid hl2
    have HR := Lib.hid hr
    have HA := Lib.hid hra
    have HB := Lib.hid hrb
    clear hl2 hr hra hrb ec
    generalize cutS 3 A c (xs.length + 1) = B at e2 HB
    have HW := Lib.hid (fun (w' : World) (h : RdM w' A fs) => join2_world A B c (c - (xs.length + 1)) 66 xs ys w' (HA.out w' h) (HB.out w' h) hly HZ.out)
    clear HA HB
    obtain ⟨r, hr0⟩ : ∃ r, r = xs ++ ys := ⟨_, rfl⟩
    rw [← hr0] at HW ⊢
    clear hr0
    generalize c - (xs.length + 1) = d at e2 HW
    have i1 : (xs.length : Int) ≤ (c : Int) := by omega
    have i2 : (xs.length : Int) + 1 ≤ (fs.length : Int) := by omega
    have i3 : (0 : Int) ≤ (xs.length : Int) + 1 := by omega
    go_enter Tryz.func75, Tryz.ntmps75
    go_wp2_with fail
    refine HC.out.mono ?_
    rw [HH.out]
    rintro e w1 ⟨rfl, hb⟩
    go_wp2_with fail
    have f0 : IntKind.i64.wrap ((xs.length : Int) + 1) = (xs.length : Int) + 1 := IntWalk.i64_in _ (by omega)
    go_still_tail 7, (by kernel_rfl)
    change wpList _ _ _ _ _ w1.drew
    have hr1 := HR.out.below (bch hb (below_drew w1))
    have hb1 := bch hb (below_drew w1)
    generalize w1.drew = w2 at hr1 hb1 ⊢
    clear f0
    go_wp2_with fail
    refine (HW.out w2 hr1).mono ?_
    rintro e w3 ⟨A2, c2, rfl, ho, hb2⟩
    go_wp2
    go_ret
    exact ⟨A2, c2, rfl, ho.mono hb1.size, bch hb1 hb2⟩
/-- The macro of a name; the zero one, if there is none. -/
def getM (ms : List Ml) (n : By) : Ml := match getL ms n with
  | some v => (n, v)
  | none => ([], 0, [])
theorem getM_none {ms : List Ml} {n : By} (h : hasL ms n = false) : getM ms n = ([], 0, []) := by
  rw [hasL_get] at h
  unfold getM
  cases k : getL ms n with
  | none => rfl
  | some t => rw [k] at h; cases h
theorem getM_some {ms : List Ml} {n : By} {v : Mv} (h : getL ms n = some v) : getM ms n = (n, v) := by unfold getM; rw [h]
/-- A macro, and whether there is one. -/
def GetPost (w : World) (m : Ml) (b : Bool) (e : Ending) (w' : World) : Prop :=
  ∃ B d, e = .returned (.tuple #[.agg #[.string ⟨m.1.toArray⟩, .int .i64 m.2.1, .slice B m.2.2.length d], .bool b]) ∧ Rd w' B m.2.2 ∧ Below w.heap.size w w'
set_option maxRecDepth 100000 in
set_option maxHeartbeats 2000000 in
theorem get7_any (A : Option Addr) (c : Nat) (fs : List Ml) (n : By) (w : World) (hr : RdM w A fs) (hc : fs.length ≤ 1000) (hs : Hid (Sorted fs)) (hz : Hid (Bod fs)) :
    Calls Tryz.prog 76 #[.slice A fs.length c, .string ⟨n.toArray⟩] w (GetPost w (getM fs n) (hasL fs n)) := by
  have b0 := one_below w (.cells #[.string ⟨#[]⟩, .int .i64 0, .slice none 0 0] 137)
  have HC := Lib.hid (find_any A c fs n (w.alloc (.cells #[.string ⟨#[]⟩, .int .i64 0, .slice none 0 0] 137)) (hr.below b0) (by omega) hs)
  have HK := Lib.hid (heap_alloc_new w (.cells #[.string ⟨#[]⟩, .int .i64 0, .slice none 0 0] 137))
  have HB0 := Lib.hid b0
  clear b0
  cases hh : hasL fs n
  · rw [getM_none hh]
    have HH := Lib.hid hh
    clear hh
    go_enter Tryz.func76, Tryz.ntmps76
    go_wp2_with fail
    refine HC.out.mono ?_
    rw [HH.out]
    rintro e w1 ⟨rfl, hb⟩
    have hk := blk_below hb HK.out
    have c0 : w1.cell? ⟨w.heap.size, 0, none⟩ = some (.string ⟨#[]⟩) := cell_of hk 0
    have c1 : w1.cell? ⟨w.heap.size, 1, none⟩ = some (.int .i64 0) := cell_of hk 1
    have c2 : w1.cell? ⟨w.heap.size, 2, none⟩ = some (.slice none 0 0) := cell_of hk 2
    have f0 := frozen_of hk 0
    have f1 := frozen_of hk 1
    have f2 := frozen_of hk 2
    have BK := Lib.hid (blk_set (blk_set (blk_set hk 0 (.string ⟨#[]⟩)) 1 (.int .i64 0)) 2 (.slice none 0 0))
    have HB := Lib.hid (((bch HB0.out hb).setCell (Nat.le_refl _) (p := ⟨w.heap.size, 0, none⟩) (.string ⟨#[]⟩)).setCell (Nat.le_refl _) (p := ⟨w.heap.size, 1, none⟩) (.int .i64 0) |>.setCell (Nat.le_refl _) (p := ⟨w.heap.size, 2, none⟩) (.slice none 0 0))
    clear hk hb
    go_wp2
    refine bodyPost_ret (results_cell_tmp (P := Tryz.prog) rfl _ _ w.heap.size 137 #[.string ⟨#[]⟩, .int .i64 0, .slice none 0 0] (0, 0) _ _ (by rfl) (by rfl) BK.out Tryz.underlying137 rfl (by kernel_rfl)) rfl ?_
    exact ⟨none, 0, rfl, Rd.empty _ _, HB.out⟩
  · have hlt := has_lt hh
    obtain ⟨f, hf⟩ : ∃ f, fs[plc fs n]? = some f := ⟨_, List.getElem?_eq_getElem hlt⟩
    obtain ⟨hy1, hy2⟩ := get_yes hs.out hh hf
    have hgm := getM_some hy2
    obtain ⟨z, p, body⟩ := f
    simp only at hy1 hgm
    rw [hgm]
    have hbl := hz.out _ (List.mem_of_getElem? hf)
    simp only at hbl
    subst hy1
    have HH := Lib.hid hh
    have HF := Lib.hid hf
    clear hh hf hgm hy2
    obtain ⟨k, hk⟩ : ∃ k, k = plc fs z := ⟨_, rfl⟩
    rw [← hk] at HC HF hlt
    clear hk
    obtain ⟨b, o, rfl, hcell⟩ := hr.cells (by omega)
    obtain ⟨B, d, c1, c2, c3, hrd⟩ := hcell k _ HF.out
    simp only at c1 c2 c3 hrd
    have HR := Lib.hid hrd
    clear hcell hr hrd
    have i1 : (k : Int) < (fs.length : Int) := by omega
    go_enter Tryz.func76, Tryz.ntmps76
    go_wp2_with fail
    refine HC.out.mono ?_
    rw [HH.out]
    rintro e w1 ⟨rfl, hb⟩
    have hk := blk_below hb HK.out
    have HB1 := Lib.hid (bch HB0.out hb)
    have k1 := cell_below HB1.out c1
    have k2 := cell_below HB1.out c2
    have k3 := cell_below HB1.out c3
    have o1 := one_below w1 (.cells #[.string ⟨z.toArray⟩, .int .i64 p, .slice B body.length d] 137)
    have hk8 := heap_alloc_new w1 (.cells #[.string ⟨z.toArray⟩, .int .i64 p, .slice B body.length d] 137)
    have HK4 := Lib.hid (blk_below o1 hk)
    have HB2 := Lib.hid (bch HB1.out o1)
    have HK8 := Lib.hid hk8
    obtain ⟨q1, q2, q3⟩ := new_three w1 (.string ⟨z.toArray⟩) (.int .i64 p) (.slice B body.length d) 137
    have CF := Lib.hid (fresh_any B _ d body _ (HR.out.below HB2.out) rfl hbl)
    have HLT := Lib.hid (lt_of_blk hk)
    clear c1 c2 c3 hk o1 hb hk8
    go_wp2_with fail
    refine CF.out.mono ?_
    rintro e w2 ⟨B2, d2, rfl, ho, hb2⟩
    have m8 := blk_below hb2 HK8.out
    have m4 := blk_below hb2 HK4.out
    have n8 := blk_set m8 2 (.slice B2 body.length d2)
    have c0 : (w2.setCell ⟨w1.heap.size, 2, none⟩ (.slice B2 body.length d2)).cell? ⟨w1.heap.size, 0, none⟩ = some (.string ⟨z.toArray⟩) := cell_of n8 0
    have c1 : (w2.setCell ⟨w1.heap.size, 2, none⟩ (.slice B2 body.length d2)).cell? ⟨w1.heap.size, 1, none⟩ = some (.int .i64 p) := cell_of n8 1
    have c2 : (w2.setCell ⟨w1.heap.size, 2, none⟩ (.slice B2 body.length d2)).cell? ⟨w1.heap.size, 2, none⟩ = some (.slice B2 body.length d2) := cell_of n8 2
    have f8 := frozen_of m8 2
    have hne : w.heap.size ≠ w1.heap.size := by have := HLT.out; omega
    have n4 : (w2.setCell ⟨w1.heap.size, 2, none⟩ (.slice B2 body.length d2)).heap[w.heap.size]? = _ := (heap_setCell_other w2 ⟨w1.heap.size, 2, none⟩ w.heap.size (.slice B2 body.length d2) hne).trans m4
    have d0 : (w2.setCell ⟨w1.heap.size, 2, none⟩ (.slice B2 body.length d2)).cell? ⟨w.heap.size, 0, none⟩ = some (.string ⟨#[]⟩) := cell_of n4 0
    have d1 : (w2.setCell ⟨w1.heap.size, 2, none⟩ (.slice B2 body.length d2)).cell? ⟨w.heap.size, 1, none⟩ = some (.int .i64 0) := cell_of n4 1
    have d3 : (w2.setCell ⟨w1.heap.size, 2, none⟩ (.slice B2 body.length d2)).cell? ⟨w.heap.size, 2, none⟩ = some (.slice none 0 0) := cell_of n4 2
    have f0 := frozen_of n4 0
    have f1 := frozen_of n4 1
    have f2 := frozen_of n4 2
    have BK := Lib.hid (blk_set (blk_set (blk_set n4 0 (.string ⟨z.toArray⟩)) 1 (.int .i64 p)) 2 (.slice B2 body.length d2))
    have HBa := Lib.hid ((((bch HB2.out hb2).setCell (Nat.le_of_lt HLT.out) (p := ⟨w1.heap.size, 2, none⟩) (.slice B2 body.length d2)).setCell (Nat.le_refl _) (p := ⟨w.heap.size, 0, none⟩) (.string ⟨z.toArray⟩)).setCell (Nat.le_refl _) (p := ⟨w.heap.size, 1, none⟩) (.int .i64 p) |>.setCell (Nat.le_refl _) (p := ⟨w.heap.size, 2, none⟩) (.slice B2 body.length d2))
    have hsz : (w1.alloc (.cells #[.string ⟨z.toArray⟩, .int .i64 p, .slice B body.length d] 137)).heap.size = w1.heap.size + 1 := by simp
    have HO := Lib.hid ho
    have rdk : ∀ (W : World) (q : Addr) (v : Value), q.block < (w1.alloc (.cells #[.string ⟨z.toArray⟩, .int .i64 p, .slice B body.length d] 137)).heap.size → Rd W B2 body → Rd (W.setCell q v) B2 body := fun W q v hq h => by
      intro h0
      obtain ⟨g, cap, hv, hg, _⟩ := World.ownsRow.form HO.out h0
      simp only [Value.slice.injEq] at hv
      obtain ⟨b2, o2, e2, hc2⟩ := h h0
      rw [hv.1] at e2
      cases e2
      refine ⟨g, 0, hv.1, fun i f hi => ?_⟩
      have hb3 : g ≠ q.block := by omega
      have hs := heap_setCell_other W q g v hb3
      obtain ⟨u1, u2⟩ := hc2 i f hi
      constructor
      · rw [← u1]; simp only [World.cell?, hs]
      · rw [← u2]; simp only [World.cell?, hs]
    have hRD := rdk _ ⟨w.heap.size, 2, none⟩ (.slice B2 body.length d2) (by rw [hsz]; have := HLT.out; simp only; omega) (rdk _ ⟨w.heap.size, 1, none⟩ (.int .i64 p) (by rw [hsz]; have := HLT.out; simp only; omega) (rdk _ ⟨w.heap.size, 0, none⟩ (.string ⟨z.toArray⟩) (by rw [hsz]; have := HLT.out; simp only; omega) (rdk _ ⟨w1.heap.size, 2, none⟩ (.slice B2 body.length d2) (by rw [hsz]; simp only; omega) ho.rd)))
    have HRD := Lib.hid hRD
    have q3' := cell_below hb2 q3
    clear m8 m4 n8 n4 hb2 ho CF hRD rdk hsz q1 q2 q3
    go_wp2
    refine bodyPost_ret (results_cell_tmp (P := Tryz.prog) rfl _ _ w.heap.size 137 #[.string ⟨z.toArray⟩, .int .i64 p, .slice B2 body.length d2] (0, 0) _ _ (by rfl) (by rfl) BK.out Tryz.underlying137 rfl (by kernel_rfl)) rfl ?_
    exact ⟨B2, d2, rfl, HRD.out, HBa.out⟩
end Go.Proofs.YtmnbepapgghdaaaGreat

namespace Go.Proofs.YtmnbepapgghdaaaGreat
open Go.RowKit

/-- Macros and an error. -/
def ResM2 (t : TypeId) (w : World) (ms : List Ml) (v : Int) (e : Ending) (w' : World) : Prop := ∃ A c, e = .returned (.tuple #[.slice A ms.length c, .int .i64 v]) ∧ OwnM t w' w.heap.size A c ms ∧ Below w.heap.size w w'
theorem putE_wr {fs : List Ml} {f : Ml} (h : wrE f ≠ 0) : putE fs f = wrE f := by unfold putE; rw [if_pos h]
theorem putE_full {fs : List Ml} {f : Ml} (h : wrE f = 0) (k : hasL fs f.1 = false) (l : 40 ≤ fs.length) : putE fs f = 3 := by unfold putE; rw [if_neg (by simp [h]), if_pos ⟨k, l⟩]
theorem putR_no {fs : List Ml} {f : Ml} (h : putE fs f ≠ 0) : putR fs f = [] := by unfold putR; rw [if_neg h]
theorem putR_yes {fs : List Ml} {f : Ml} (h : putE fs f = 0) : putR fs f = putL fs f := by unfold putR; rw [if_pos h]
theorem wrE_name {f : Ml} (h : nameB f.1 = false) : wrE f = 2 := by unfold wrE; rw [if_pos h]
theorem wrE_par {f : Ml} (h : nameB f.1 = true) (k : f.2.1 < 0 ∨ 9 < f.2.1) : wrE f = 1 := by unfold wrE; rw [if_neg (by simp [h]), if_pos k]
theorem wrE_fine {f : Ml} (h : nameB f.1 = true) (k : ¬ (f.2.1 < 0 ∨ 9 < f.2.1)) : wrE f = 0 := by unfold wrE; rw [if_neg (by simp [h]), if_neg k]
theorem Bod.put {fs : List Ml} (h : Bod fs) {m : Ml} (hm : m.2.2.length ≤ 200000) : Bod (putL fs m) := fun g hg => by
  rcases putL_mem hg with rfl | hg
  · exact hm
  · exact h g hg
set_option maxRecDepth 100000 in
set_option maxHeartbeats 4000000 in
theorem put7_any (A : Option Addr) (c : Nat) (fs : List Ml) (m : Ml) (B : Option Addr) (d : Nat) (w : World) (hr : RdM w A fs) (hm : Rd w B m.2.2) (hc : fs.length ≤ 900) (hcap : fs.length ≤ c) (hc63 : c ≤ 9223372036854775807) (hs : Hid (Sorted fs)) (hz : Hid (Bod fs))
    (hmz : m.2.2.length ≤ 200000) (hnl : m.1.length ≤ 4611686018427387904) :
    Calls Tryz.prog 74 #[.slice A fs.length c, .agg #[.string ⟨m.1.toArray⟩, .int .i64 m.2.1, .slice B m.2.2.length d]] w (ResM2 137 w (putR fs m) (putE fs m)) := by
  obtain ⟨z, p, body⟩ := m
  simp only at hm hmz hnl
  have b0 := one_below w (.cells #[.string ⟨z.toArray⟩, .int .i64 p, .slice B body.length d] 137)
  obtain ⟨q0, q1, q2⟩ := new_three w (.string ⟨z.toArray⟩) (.int .i64 p) (.slice B body.length d) 137
  have Q0 := Lib.hid q0
  have Q1 := Lib.hid q1
  have Q2 := Lib.hid q2
  clear q0 q1 q2
  have CN := Lib.hid (named_any ⟨z.toArray⟩ (w.alloc (.cells #[.string ⟨z.toArray⟩, .int .i64 p, .slice B body.length d] 137)) hnl)
  rw [show (⟨z.toArray⟩ : ByteArray).data.toList = z from rfl] at CN
  cases hnm : nameB z
  · have hw := wrE_name (f := (z, p, body)) hnm
    have he : putE fs (z, p, body) = 2 := by rw [putE_wr (by rw [hw]; decide), hw]
    rw [putR_no (by rw [he]; decide), he]
    rw [hnm] at CN
    clear hnm hw he
    go_enter Tryz.func74, Tryz.ntmps74
    go_wp2_with fail
    refine CN.out.mono ?_
    rintro e w1 ⟨rfl, rfl⟩
    go_wp2
    go_ret2
    exact ⟨none, 0, rfl, ownM_nil _ _ _, b0⟩
  · rw [hnm] at CN
    by_cases hp : p < 0 ∨ 9 < p
    · have hw := wrE_par (f := (z, p, body)) hnm hp
      have he : putE fs (z, p, body) = 1 := by rw [putE_wr (by rw [hw]; decide), hw]
      rw [putR_no (by rw [he]; decide), he]
      clear hnm hw he
      rcases (show p < 0 ∨ (¬ p < 0 ∧ 9 < p) by omega) with h | ⟨h, h2⟩
      all_goals
        clear hp
        go_enter Tryz.func74, Tryz.ntmps74
        go_wp2_with fail
        refine CN.out.mono ?_
        rintro e w1 ⟨rfl, rfl⟩
        have k1 := Q1.out
        go_wp2
        go_ret2
        exact ⟨none, 0, rfl, ownM_nil _ _ _, b0⟩
    · have hw := wrE_fine (f := (z, p, body)) hnm hp
      have p1 : ¬ p < 0 := by omega
      have p2 : ¬ 9 < p := by omega
      have HC := Lib.hid (find_any A c fs z _ (hr.below b0) (by omega) hs)
      cases hh : hasL fs z
      · rw [hh] at HC
        by_cases h40 : 40 ≤ fs.length
        · have he := putE_full (fs := fs) hw hh h40
          rw [putR_no (by rw [he]; decide), he]
          have g40 : (40 : Int) ≤ (fs.length : Int) := by omega
          have g40' : decide ((40 : Int) ≤ (fs.length : Int)) = true := decide_eq_true g40
          clear hnm hw he hp hh
          go_enter Tryz.func74, Tryz.ntmps74
          go_wp2_with fail
          refine CN.out.mono ?_
          rintro e w1 ⟨rfl, rfl⟩
          have k1 := Q1.out
          go_wp2_with fail
          refine HC.out.mono ?_
          rintro e w1 ⟨rfl, hb⟩
          go_wp2
          go_ret2
          exact ⟨none, 0, rfl, ownM_nil _ _ _, bch b0 hb⟩
        · have he := putE_mk (fs := fs) hw (.inr (by omega))
          rw [putR_yes he, he]
          have hbod := hz.out.put (m := (z, p, body)) hmz
          rw [putL_new hh] at hbod ⊢
          have HZ := Lib.hid hbod
          clear hnm hw he hp hh hbod
          have hlt := plc_le fs z
          simp only at HZ ⊢
          obtain ⟨k, hk⟩ : ∃ k, k = plc fs z := ⟨_, rfl⟩
          rw [← hk] at HC hlt HZ ⊢
          clear hk
          have hra := fun (w' : World) (h : RdM w' A fs) => RdMF.take h k
          have hrb := fun (w' : World) (h : RdM w' A fs) => RdMF.part h (l := k) (c := c) (by omega) hcap
          have hl1 : (fs.take k).length = k := by simp; omega
          have hl2 : (fs.drop k).length = fs.length - k := by simp
          generalize fs.take k = xs at hra hl1 HZ ⊢
          generalize fs.drop k = ys at hrb hl2 HZ ⊢
          subst hl1
          have e1 := fun w => mac_to (A := A) (n := fs.length) (c := c) (h := xs.length) (by omega) w
          have e2 := fun w => mac_from (A := A) (n := fs.length) (c := c) (l := xs.length) (by omega) w
          rw [← hl2] at e2
          have hly : xs.length + ys.length ≤ 1000 := by omega
          have HL := Lib.hid hl2
          have HR := Lib.hid hr
          have HM := Lib.hid hm
          have HA := Lib.hid hra
          have HB := Lib.hid hrb
          clear hl2 hr hm hra hrb
          generalize cutS 3 A c xs.length = D at e2 HB
          have HW := Lib.hid (fun (w' : World) (h : RdM w' A fs) (h2 : Rd w' B body) => join3_world A D B c (c - xs.length) d 66 137 xs ys (z, p, body) w' (HA.out w' h) (HB.out w' h) h2 hly HZ.out)
          clear HA HB
          obtain ⟨r, hr0⟩ : ∃ r, r = xs ++ ((z, p, body) :: ys) := ⟨_, rfl⟩
          rw [← hr0] at HW ⊢
          clear hr0
          simp only at HW
          generalize c - xs.length = cd at e2 HW
          have i1 : (xs.length : Int) ≤ (c : Int) := by omega
          have i2 : (xs.length : Int) ≤ (fs.length : Int) := by omega
          have i4 : ¬ (40 : Int) ≤ (fs.length : Int) := by omega
          have i5 : decide ((40 : Int) ≤ (fs.length : Int)) = false := decide_eq_false i4
          go_enter Tryz.func74, Tryz.ntmps74
          go_wp2_with fail
          refine CN.out.mono ?_
          rintro e w1 ⟨rfl, rfl⟩
          have k1 := Q1.out
          go_wp2_with fail
          refine HC.out.mono ?_
          rintro e w2 ⟨rfl, hb⟩
          have m0 := cell_below hb Q0.out
          have m1 := cell_below hb Q1.out
          have m2 := cell_below hb Q2.out
          have hbw := bch (bch b0 hb) (below_drew w2)
          have HR2 := Lib.hid (HR.out.below hbw)
          have HM2 := Lib.hid (HM.out.below hbw)
          have D0 : Hid (w2.drew.cell? ⟨w.heap.size, 0, none⟩ = some (.string ⟨z.toArray⟩)) := Lib.hid m0
          have D1 : Hid (w2.drew.cell? ⟨w.heap.size, 1, none⟩ = some (.int .i64 p)) := Lib.hid m1
          have D2 : Hid (w2.drew.cell? ⟨w.heap.size, 2, none⟩ = some (.slice B body.length d)) := Lib.hid m2
          clear k1 hb
          go_wp2_with fail
          go_region_held3 (fun w' => w'.cell? ⟨w.heap.size, 0, none⟩ = some (.string ⟨z.toArray⟩) ∧ w'.cell? ⟨w.heap.size, 1, none⟩ = some (.int .i64 p) ∧ w'.cell? ⟨w.heap.size, 2, none⟩ = some (.slice B body.length d))
            (first
              | go_keep
              | exact ⟨cell_below hb3 D0.out, cell_below hb3 D1.out, cell_below hb3 D2.out⟩)
            (first
              | (go_at_call 97; refine (HW.out w2.drew HR2.out HM2.out).mono ?_; rintro e w3 ⟨A2, c2, rfl, ho, hb3⟩))
          go_wp2
          go_ret2
          exact ⟨A2, c2, rfl, ho.mono hbw.size, bch hbw hb3⟩
      · rw [hh] at HC
        have he := putE_mk (fs := fs) hw (.inl hh)
        rw [putR_yes he, he]
        have hlt := has_lt hh
        obtain ⟨g, hg⟩ : ∃ g, fs[plc fs z]? = some g := ⟨_, List.getElem?_eq_getElem hlt⟩
        have hy := (get_yes hs.out hh hg).1
        have hd := putL_has (f := (z, p, body)) hs.out hlt (by rw [get_of hg hlt]; exact hy)
        have hbod := hz.out.put (m := (z, p, body)) hmz
        rw [hd] at hbod ⊢
        have HZ := Lib.hid hbod
        clear hnm hw he hp hh hbod hd hg hy
        simp only at HZ ⊢
        obtain ⟨k, hk⟩ : ∃ k, k = plc fs z := ⟨_, rfl⟩
        rw [← hk] at HC hlt HZ ⊢
        clear hk
        have hra := fun (w' : World) (h : RdM w' A fs) => RdMF.take h k
        have hrb := fun (w' : World) (h : RdM w' A fs) => RdMF.part h (l := k + 1) (c := c) (by omega) hcap
        have hl1 : (fs.take k).length = k := by simp; omega
        have hl2 : (fs.drop (k + 1)).length = fs.length - (k + 1) := by simp
        generalize fs.take k = xs at hra hl1 HZ ⊢
        generalize fs.drop (k + 1) = ys at hrb hl2 HZ ⊢
        subst hl1
        have e1 := fun w => mac_to (A := A) (n := fs.length) (c := c) (h := xs.length) (by omega) w
        have e2 := fun w => mac_from (A := A) (n := fs.length) (c := c) (l := xs.length + 1) (by omega) w
        rw [← hl2] at e2
        have ec : ((xs.length + 1 : Nat) : Int) = (xs.length : Int) + 1 := by omega
        rw [ec] at e2
        have hly : xs.length + ys.length ≤ 1000 := by omega
        have HL := Lib.hid hl2
        have HR := Lib.hid hr
        have HM := Lib.hid hm
        have HA := Lib.hid hra
        have HB := Lib.hid hrb
        clear hl2 hr hm hra hrb ec
        generalize cutS 3 A c (xs.length + 1) = D at e2 HB
        have HW := Lib.hid (fun (w' : World) (h : RdM w' A fs) (h2 : Rd w' B body) => join3_world A D B c (c - (xs.length + 1)) d 66 137 xs ys (z, p, body) w' (HA.out w' h) (HB.out w' h) h2 hly HZ.out)
        clear HA HB
        obtain ⟨r, hr0⟩ : ∃ r, r = xs ++ ((z, p, body) :: ys) := ⟨_, rfl⟩
        rw [← hr0] at HW ⊢
        clear hr0
        simp only at HW
        generalize c - (xs.length + 1) = cd at e2 HW
        have i1 : (xs.length : Int) ≤ (c : Int) := by omega
        have i2 : (xs.length : Int) + 1 ≤ (fs.length : Int) := by omega
        have i3 : (0 : Int) ≤ (xs.length : Int) + 1 := by omega
        go_enter Tryz.func74, Tryz.ntmps74
        go_wp2_with fail
        refine CN.out.mono ?_
        rintro e w1 ⟨rfl, rfl⟩
        have k1 := Q1.out
        go_wp2_with fail
        refine HC.out.mono ?_
        rintro e w2 ⟨rfl, hb⟩
        have m0 := cell_below hb Q0.out
        have m1 := cell_below hb Q1.out
        have m2 := cell_below hb Q2.out
        have hbw := bch (bch b0 hb) (below_drew w2)
        have HR2 := Lib.hid (HR.out.below hbw)
        have HM2 := Lib.hid (HM.out.below hbw)
        have D0 : Hid (w2.drew.cell? ⟨w.heap.size, 0, none⟩ = some (.string ⟨z.toArray⟩)) := Lib.hid m0
        have D1 : Hid (w2.drew.cell? ⟨w.heap.size, 1, none⟩ = some (.int .i64 p)) := Lib.hid m1
        have D2 : Hid (w2.drew.cell? ⟨w.heap.size, 2, none⟩ = some (.slice B body.length d)) := Lib.hid m2
        clear k1 hb
        go_wp2_with fail
        have f0 : IntKind.i64.wrap ((xs.length : Int) + 1) = (xs.length : Int) + 1 := IntWalk.i64_in _ (by omega)
        go_region_held3 (fun w' => w'.cell? ⟨w.heap.size, 0, none⟩ = some (.string ⟨z.toArray⟩) ∧ w'.cell? ⟨w.heap.size, 1, none⟩ = some (.int .i64 p) ∧ w'.cell? ⟨w.heap.size, 2, none⟩ = some (.slice B body.length d))
          (first
            | go_keep
            | exact ⟨cell_below hb3 D0.out, cell_below hb3 D1.out, cell_below hb3 D2.out⟩)
          (first
            | (go_at_call 97; refine (HW.out w2.drew HR2.out HM2.out).mono ?_; rintro e w3 ⟨A2, c2, rfl, ho, hb3⟩))
        clear f0
        go_wp2
        go_ret2
        exact ⟨A2, c2, rfl, ho.mono hbw.size, bch hbw hb3⟩
end Go.Proofs.YtmnbepapgghdaaaGreat

namespace Go.Proofs.YtmnbepapgghdaaaGreat
open Go.RowKit

theorem far_own {t : TypeId} {w wr : World} {C : Option Addr} {cc : Nat} {xs : List Ml} {B : Option Addr} {l : List Tok} (h : Rd w B l) (ho : OwnM t wr w.heap.size C cc xs) : 0 < l.length → Far (Value.slice C xs.length cc).ownBlock B := fun h0 a ha e => by
  have := rd_lt h h0 a ha
  have := ho.ge _ e.symm
  omega
theorem drop_keep {fs : List Ml} {n : By} {k : Nat} {f : Ml} (hf : fs[k]? = some f) (h : (f.1 == n) = false) : dropL (fs.take (k + 1)) n = dropL (fs.take k) n ++ [f] := by
  rw [at_take hf]; unfold dropL; rw [List.filter_append]; simp [h]
theorem drop_skip {fs : List Ml} {n : By} {k : Nat} {f : Ml} (hf : fs[k]? = some f) (h : (f.1 == n) = true) : dropL (fs.take (k + 1)) n = dropL (fs.take k) n := by
  rw [at_take hf]; unfold dropL; rw [List.filter_append]; simp [h]
set_option maxRecDepth 100000 in
set_option maxHeartbeats 2000000 in
theorem rdrop_any (A : Option Addr) (c : Nat) (fs : List Ml) (n : By) (w : World) (hr : RdM w A fs) (hc : fs.length ≤ 100000) :
    Calls Tryz.prog 58 #[.slice A fs.length c, .string ⟨n.toArray⟩] w (ResM 110 w (dropL fs n)) := by
  have HO0 := Lib.hid (ownM_empty 110 w)
  have HB0 := Lib.hid (one_below w (.cells #[] 110))
  go_enter Tryz.func58, Tryz.ntmps58
  go_wp2_with fail
  go_loopw [5, 6] (fun v i wr => ∃ (k : Nat) (C : Option Addr) (cc : Nat) (xs : List Ml), k ≤ fs.length ∧ i = .int .i64 k ∧ v = .slice C xs.length cc ∧ xs.length ≤ fs.length ∧ Hid (dropL (fs.take k) n = xs) ∧ Hid (OwnM 110 wr w.heap.size C cc xs) ∧ Hid (Below w.heap.size w wr)) (fun _ i _ => fs.length - (intOf i).toNat)
  case atStart => exact ⟨0, _, 0, [], Nat.zero_le _, rfl, rfl, by simp, Lib.hid rfl, HO0, HB0⟩
  case round =>
    clear HO0 HB0
    obtain ⟨k, C, cc, xs, hk, rfl, rfl, hxl, HX, HO, HB⟩ := hrel
    by_cases hlt : k < fs.length
    · obtain ⟨b, o, rfl, hcell⟩ := hr.cells (by omega)
      obtain ⟨f, hf⟩ : ∃ f, fs[k]? = some f := ⟨_, List.getElem?_eq_getElem hlt⟩
      obtain ⟨B, d, c1, c2, c3, hrd⟩ := hcell k f hf
      have k1 := cell_below HB.out c1
      have k2 := cell_below HB.out c2
      have k3 := cell_below HB.out c3
      have i1 : (k : Int) < (fs.length : Int) := by omega
      cases hn : f.1 == n
      · have hst := drop_keep hf hn
        rw [HX.out] at hst
        obtain ⟨ys, hy⟩ : ∃ ys, xs ++ [f] = ys := ⟨_, rfl⟩
        rw [hy] at hst
        have hyl : ys.length ≤ fs.length := by rw [← hst]; have := dropL_len (fs.take (k + 1)) n; simp at this; omega
        have HN := Lib.hid hst
        have HY := Lib.hid hy
        have o1 := one_below wr (.cells #[.string ⟨f.1.toArray⟩, .int .i64 f.2.1, .slice B f.2.2.length d] 110)
        obtain ⟨q0, q1, q2⟩ := new_three wr (.string ⟨f.1.toArray⟩) (.int .i64 f.2.1) (.slice B f.2.2.length d) 110
        have HR1 := Lib.hid (one_readM (g := (Value.slice C xs.length cc).ownBlock) q0 q1 q2 (hrd.below (bch HB.out o1)) (far_own hrd HO.out))
        have HO1 := Lib.hid (HO.out.below o1)
        have HB1 := Lib.hid (bch HB.out o1)
        clear hst hy hf hcell c1 c2 c3 hrd q0 q1 q2 o1 HO HB HX
        go_wp2_with (at_builtin; refine wpList_append_m 75 110 Tryz.underlying75 Tryz.infoM110 _ rfl _ _ rfl w.heap.size C cc xs rfl HO1.out (some ⟨wr.heap.size, 0, none⟩) 1 1 [f] rfl rfl HR1.out (by show xs.length + 1 ≤ _; omega) HB1.out.size ys HY.out ?_; intro N2 nc2 w3 hown2 hb3)
        have HB2 := Lib.hid (HB1.out.trans hb3)
        have HO2 := Lib.hid hown2
        clear hb3 hown2 HO1 HB1
        go_roundw
        case rel => exact ⟨k + 1, N2, nc2, ys, by omega, by go_num, rfl, hyl, HN, HO2, HB2⟩
        case measure => simp [intOf]; omega
      · have HN := Lib.hid ((drop_skip hf hn).trans HX.out)
        clear hf hcell c1 c2 c3 hrd HX
        go_wp2
        go_roundw
        case rel => exact ⟨k + 1, C, cc, xs, by omega, by go_num, rfl, hxl, HN, HO, HB⟩
        case measure => simp [intOf]; omega
    · have hfin := HX.out
      rw [List.take_of_length_le (by omega)] at hfin
      have HF := Lib.hid hfin
      have i1 : ¬ (k : Int) < (fs.length : Int) := by omega
      clear hfin HX
      go_wp2
      go_ret
      rw [HF.out]
      exact ⟨C, cc, rfl, HO.out, HB.out⟩
theorem get_at {fs : List Ml} {n : By} {k : Nat} {f : Ml} (h : ∀ g ∈ fs.take k, g.1 ≠ n) (hf : fs[k]? = some f) (e : f.1 = n) : getL fs n = some f.2 ∧ hasL fs n = true := by
  have hk : fs = fs.take k ++ (f :: fs.drop (k + 1)) := by
    obtain ⟨hl, he⟩ := List.getElem?_eq_some_iff.1 hf
    rw [← he, ← List.drop_eq_getElem_cons hl, List.take_append_drop]
  have h1 : getL fs n = some f.2 := by
    rw [hk, getL_append, getL_none h, getL_cons, if_pos e]
  exact ⟨h1, by rw [hasL_get, h1]; rfl⟩
theorem get_end {fs : List Ml} {n : By} (h : ∀ g ∈ fs, g.1 ≠ n) : hasL fs n = false := by
  rw [hasL_get, getL_none h]; rfl
theorem ne_step {fs : List Ml} {n : By} {k : Nat} {f : Ml} (h : ∀ g ∈ fs.take k, g.1 ≠ n) (hf : fs[k]? = some f) (e : (f.1 == n) = false) : ∀ g ∈ fs.take (k + 1), g.1 ≠ n := fun g hg => by
  rw [at_take hf] at hg
  rcases List.mem_append.1 hg with hg | hg
  · exact h g hg
  · simp at hg; subst hg; simpa using e
set_option maxRecDepth 100000 in
set_option maxHeartbeats 2000000 in
theorem rget_any (A : Option Addr) (c : Nat) (fs : List Ml) (n : By) (w : World) (hr : RdM w A fs) (hc : fs.length ≤ 100000) :
    Calls Tryz.prog 55 #[.slice A fs.length c, .string ⟨n.toArray⟩] w (GetPost w (getM fs n) (hasL fs n)) := by
  obtain ⟨w0, hw0⟩ : ∃ w0, w.alloc (.cells #[.string ⟨#[]⟩, .int .i64 0, .slice none 0 0] 110) = w0 := ⟨_, rfl⟩
  have hb0 : Below w.heap.size w w0 := by rw [← hw0]; exact one_below _ _
  have hk : w0.heap[w.heap.size]? = some (.cells #[.string ⟨#[]⟩, .int .i64 0, .slice none 0 0] 110) := by rw [← hw0]; exact heap_alloc_new _ _
  have c0 : w0.cell? ⟨w.heap.size, 0, none⟩ = some (.string ⟨#[]⟩) := cell_of hk 0
  have c1 : w0.cell? ⟨w.heap.size, 1, none⟩ = some (.int .i64 0) := cell_of hk 1
  have c2 : w0.cell? ⟨w.heap.size, 2, none⟩ = some (.slice none 0 0) := cell_of hk 2
  have f0 := frozen_of hk 0
  have f1 := frozen_of hk 1
  have f2 := frozen_of hk 2
  have HK := Lib.hid hk
  have HB := Lib.hid hb0
  have HR := Lib.hid hr
  clear hk hb0 hr
  go_enter Tryz.func55, Tryz.ntmps55
  go_wp2_with fail
  clear hw0
  go_loop [6] (fun i => ∃ k : Nat, k ≤ fs.length ∧ i = .int .i64 k ∧ Hid (∀ g ∈ fs.take k, g.1 ≠ n)) (fun i => fs.length - (intOf i).toNat)
  case atStart => exact ⟨0, Nat.zero_le _, rfl, Lib.hid (by simp)⟩
  case round =>
    obtain ⟨k, hk, rfl, HA⟩ := hrel
    by_cases hlt : k < fs.length
    · obtain ⟨b, o, rfl, hcell⟩ := HR.out.cells (by omega)
      obtain ⟨f, hf⟩ : ∃ f, fs[k]? = some f := ⟨_, List.getElem?_eq_getElem hlt⟩
      obtain ⟨B, d, a1, a2, a3, hrd⟩ := hcell k f hf
      have k1 := cell_below HB.out a1
      have k2 := cell_below HB.out a2
      have k3 := cell_below HB.out a3
      have i1 : (k : Int) < (fs.length : Int) := by omega
      cases hn : f.1 == n
      · have HN := Lib.hid (ne_step HA.out hf hn)
        clear hf hcell a1 a2 a3 hrd HA
        go_wp2
        go_round
        case rel => exact ⟨k + 1, by omega, by go_num, HN⟩
        case measure => simp [intOf]; omega
      · have e : f.1 = n := by simpa using hn
        obtain ⟨g1, g2⟩ := get_at HA.out hf e
        rw [getM_some g1, g2]
        have E := Lib.hid e
        have BK := Lib.hid (blk_set (blk_set (blk_set HK.out 0 (.string ⟨f.1.toArray⟩)) 1 (.int .i64 f.2.1)) 2 (.slice B f.2.2.length d))
        have HB1 := Lib.hid (((HB.out.setCell (Nat.le_refl _) (p := ⟨w.heap.size, 0, none⟩) (.string ⟨f.1.toArray⟩)).setCell (Nat.le_refl _) (p := ⟨w.heap.size, 1, none⟩) (.int .i64 f.2.1)).setCell (Nat.le_refl _) (p := ⟨w.heap.size, 2, none⟩) (.slice B f.2.2.length d))
        have HRD := Lib.hid (hrd.below HB1.out)
        clear hf hcell a1 a2 a3 hrd HA g1 g2 e
        go_wp2
        refine bodyPost_ret (results_cell_tmp (P := Tryz.prog) rfl _ _ w.heap.size 110 #[.string ⟨f.1.toArray⟩, .int .i64 f.2.1, .slice B f.2.2.length d] (0, 0) _ _ (by rfl) (by rfl) BK.out Tryz.underlying110 rfl (by kernel_rfl)) rfl ?_
        exact ⟨B, d, by have e := E.out; subst e; rfl, HRD.out, HB1.out⟩
    · have hfin := HA.out
      rw [List.take_of_length_le (by omega)] at hfin
      have hno := get_end hfin
      have HG := Lib.hid (getM_none hno)
      have HN := Lib.hid hno
      have i1 : ¬ (k : Int) < (fs.length : Int) := by omega
      have BK := Lib.hid (blk_set (blk_set (blk_set HK.out 0 (.string ⟨#[]⟩)) 1 (.int .i64 0)) 2 (.slice none 0 0))
      have HB1 := Lib.hid (((HB.out.setCell (Nat.le_refl _) (p := ⟨w.heap.size, 0, none⟩) (.string ⟨#[]⟩)).setCell (Nat.le_refl _) (p := ⟨w.heap.size, 1, none⟩) (.int .i64 0)).setCell (Nat.le_refl _) (p := ⟨w.heap.size, 2, none⟩) (.slice none 0 0))
      clear hfin hno HA
      go_wp2
      refine bodyPost_ret (results_cell_tmp (P := Tryz.prog) rfl _ _ w.heap.size 110 #[.string ⟨#[]⟩, .int .i64 0, .slice none 0 0] (0, 0) _ _ (by rfl) (by rfl) BK.out Tryz.underlying110 rfl (by kernel_rfl)) rfl ?_
      rw [HG.out, HN.out]
      exact ⟨none, 0, rfl, Rd.empty _ _, HB1.out⟩
end Go.Proofs.YtmnbepapgghdaaaGreat

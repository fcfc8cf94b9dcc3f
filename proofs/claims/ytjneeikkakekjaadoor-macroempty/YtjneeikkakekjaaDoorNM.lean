/-
  Package macro: Drop, Put, Get.
-/
import Derived.Test.YtjneeikkakekjaaDoorNL
import Derived.StillTailTactics
import Derived.Deep.RegionHeld3
namespace Go.Proofs.YtjneeikkakekjaaDoor
open Go.RowKit

theorem below_drew (w : World) : Below w.heap.size w w.drew := ⟨rfl, rfl, rfl, Nat.le_refl _, fun _ _ => rfl⟩
theorem mac_from {A : Option Addr} {n c l : Nat} (h1 : l ≤ n) (w : World) : (Instr.slice 51 (.slice A n c) (some (.int .i64 l)) none none).run Tryd.prog w = .ok (.slice (cutS 3 A c l) (n - l) (c - l)) w :=
  part_l 51 55 3 (by kernel_rfl) (by kernel_rfl) (sz_run Tryd.infoM55) A n c l h1 w
theorem mac_to {A : Option Addr} {n c h : Nat} (h2 : h ≤ c) (w : World) : (Instr.slice 51 (.slice A n c) none (some (.int .i64 h)) none).run Tryd.prog w = .ok (.slice A h c) w :=
  part_h 51 55 3 (by kernel_rfl) (by kernel_rfl) (sz_run Tryd.infoM55) A n c h h2 w
theorem get_yes {fs : List Ml} {n : By} {f : Ml} (hs : Sorted fs) (h : hasL fs n = true) (hf : fs[plc fs n]? = some f) : f.1 = n ∧ getL fs n = some f.2 := by
  have hk : plc fs n < fs.length := by
    rcases Nat.lt_or_ge (plc fs n) fs.length with q | q
    · exact q
    · rw [List.getElem?_eq_none q] at hf; cases hf
  have e := get_of hf hk
  have h1 := hasL_plc hs hk
  rw [h, e] at h1
  have h2 : f.1 = n := by simpa using h1.symm
  refine ⟨h2, ?_⟩
  rw [getL_plc hs hk (by rw [e]; exact h2), e]
theorem has_lt {fs : List Ml} {n : By} (h : hasL fs n = true) : plc fs n < fs.length := by
  rcases Nat.lt_or_ge (plc fs n) fs.length with q | q
  · exact q
  · rw [hasL_plc_end (Nat.le_antisymm (plc_le fs n) q)] at h; cases h
theorem ResM.from {t : TypeId} {w w1 : World} {ms : List Ml} {e : Ending} {w' : World} (h : ResM t w1 ms e w') (hb : Below w.heap.size w w1) : ResM t w ms e w' := by
  obtain ⟨A, c, he, ho, hb1⟩ := h
  exact ⟨A, c, he, ho.mono hb.size, bch hb hb1⟩
/-- Small bodies. -/
def Bod (ms : List Ml) : Prop := ∀ m ∈ ms, m.2.2.length ≤ 200000
theorem join1_world (A : Option Addr) (c e : Nat) (ms : List Ml) (w : World) (hr : RdM w A ms) (hc : ms.length ≤ 1000) (hz : Bod ms) :
    Calls Tryd.prog 47 #[.slice (some ⟨w.heap.size, 0, none⟩) 1 1] (w.alloc (.cells #[.slice A ms.length c] e)) (ResM 55 w ms) := by
  have b1 := one_below w (.cells #[.slice A ms.length c] e)
  have hp : Pcs (w.alloc (.cells #[.slice A ms.length c] e)) w.heap.size [(A, c, ms)] := fun i p hi => by
    match i, hi with
    | 0, hi => simp at hi; subst hi; exact ⟨new_one _ _ _, hr.below b1⟩
    | i + 1, hi => simp at hi
  have hcat : cat [(A, c, ms)] = ms := by simp [cat]
  have h := join_any w.heap.size 1 _ _ hp (by simp) (by rw [hcat]; omega) (Lib.hid (by rw [hcat]; exact hz))
  rw [hcat] at h
  exact h.mono fun _ _ hh => hh.from b1
theorem join2_world (A B : Option Addr) (c d e : Nat) (fs gs : List Ml) (w : World) (hr : RdM w A fs) (hq : RdM w B gs) (hc : fs.length + gs.length ≤ 1000) (hz : Bod (fs ++ gs)) :
    Calls Tryd.prog 47 #[.slice (some ⟨w.heap.size, 0, none⟩) 2 2] (w.alloc (.cells #[.slice A fs.length c, .slice B gs.length d] e)) (ResM 55 w (fs ++ gs)) := by
  have b1 := one_below w (.cells #[.slice A fs.length c, .slice B gs.length d] e)
  have hp := two_read (w := w.alloc (.cells #[.slice A fs.length c, .slice B gs.length d] e)) (b := w.heap.size) (c1 := c) (c2 := d) (new_fst _ _ _ _) (new_snd _ _ _ _) (hr.below b1) (hq.below b1)
  have h := join_any w.heap.size 2 _ _ hp (by simp) (by rw [cat2]; simp; omega) (Lib.hid (by rw [cat2]; exact hz))
  rw [cat2] at h
  exact h.mono fun _ _ hh => hh.from b1
theorem new_three (w : World) (a b c : Value) (t : TypeId) : (w.alloc (.cells #[a, b, c] t)).cell? ⟨w.heap.size, 0, none⟩ = some a ∧ (w.alloc (.cells #[a, b, c] t)).cell? ⟨w.heap.size, 1, none⟩ = some b ∧ (w.alloc (.cells #[a, b, c] t)).cell? ⟨w.heap.size, 2, none⟩ = some c :=
  ⟨by rw [World.cell?_alloc_new]; rfl, by rw [World.cell?_alloc_new]; rfl, by rw [World.cell?_alloc_new]; rfl⟩
theorem join3_world (A B D : Option Addr) (c d k e t : Nat) (fs gs : List Ml) (m : Ml) (w : World) (hr : RdM w A fs) (hq : RdM w B gs) (hm : Rd w D m.2.2) (hc : fs.length + gs.length ≤ 1000) (hz : Bod (fs ++ (m :: gs))) :
    Calls Tryd.prog 47 #[.slice (some ⟨w.heap.size + 1, 0, none⟩) 3 3] ((w.alloc (.cells #[.string ⟨m.1.toArray⟩, .int .i64 m.2.1, .slice D m.2.2.length k] t)).alloc (.cells #[.slice A fs.length c, .slice (some ⟨w.heap.size, 0, none⟩) 1 1, .slice B gs.length d] e)) (ResM 55 w (fs ++ (m :: gs))) := by
  have b1 := one_below w (.cells #[.string ⟨m.1.toArray⟩, .int .i64 m.2.1, .slice D m.2.2.length k] t)
  have s1 : (w.alloc (.cells #[.string ⟨m.1.toArray⟩, .int .i64 m.2.1, .slice D m.2.2.length k] t)).heap.size = w.heap.size + 1 := by simp
  obtain ⟨k1, k2, k3⟩ := new_three w (.string ⟨m.1.toArray⟩) (.int .i64 m.2.1) (.slice D m.2.2.length k) t
  have r1 : RdM (w.alloc (.cells #[.string ⟨m.1.toArray⟩, .int .i64 m.2.1, .slice D m.2.2.length k] t)) (some ⟨w.heap.size, 0, none⟩) [m] := one_readM k1 k2 k3 (hm.below b1) (fun _ => far_none D)
  generalize w.alloc (.cells #[.string ⟨m.1.toArray⟩, .int .i64 m.2.1, .slice D m.2.2.length k] t) = w1 at *
  have b2 := one_below w1 (.cells #[.slice A fs.length c, .slice (some ⟨w.heap.size, 0, none⟩) 1 1, .slice B gs.length d] e)
  have hb := bch b1 b2
  obtain ⟨q1, q2, q3⟩ := new_three w1 (.slice A fs.length c) (.slice (some ⟨w.heap.size, 0, none⟩) 1 1) (.slice B gs.length d) e
  rw [← s1]
  have hp := three_read (w := w1.alloc (.cells #[.slice A fs.length c, .slice (some ⟨w.heap.size, 0, none⟩) 1 1, .slice B gs.length d] e)) (b := w1.heap.size) (A1 := A) (A2 := some ⟨w.heap.size, 0, none⟩) (A3 := B) (c1 := c) (c2 := 1) (c3 := d) (f1 := fs) (f2 := [m]) (f3 := gs)
    q1 q2 q3 (hr.below hb) (r1.below b2) (hq.below hb)
  have h := join_any w1.heap.size 3 _ _ hp (by simp) (by rw [cat3]; simp; omega) (Lib.hid (by rw [cat3]; exact hz))
  rw [cat3] at h
  exact h.mono fun _ _ hh => hh.from hb
theorem Bod.drop {ms : List Ml} (h : Bod ms) (n : By) : Bod (dropL ms n) := fun m hm => h m (List.mem_filter.1 hm).1
set_option maxRecDepth 100000 in
set_option maxHeartbeats 1000000 in
theorem drop7_any (A : Option Addr) (c : Nat) (fs : List Ml) (n : By) (w : World) (hr : RdM w A fs) (hc : fs.length ≤ 1000) (hcap : fs.length ≤ c) (hc63 : c ≤ 9223372036854775807) (hs : Hid (Sorted fs)) (hz : Hid (Bod fs)) :
    Calls Tryd.prog 25 #[.slice A fs.length c, .string ⟨n.toArray⟩] w (ResM 55 w (dropL fs n)) := by
  have HC := Lib.hid (find_any A c fs n w hr (by omega) hs)
  have HZ := Lib.hid (hz.out.drop n)
  cases hh : hasL fs n
  · have hd := dropL_none hh
    have HH := Lib.hid hh
    have HF := Lib.hid (fun w' hr' => join1_world A c 51 fs w' hr' (by omega) hz.out)
    clear hh
    rw [hd]
    clear hd HZ
    go_enter Tryd.func25, Tryd.ntmps25
    go_wp2_with fail
    refine HC.out.mono ?_
    rw [HH.out]
    rintro e w1 ⟨rfl, hb⟩
    have hr1 := hr.below hb
    go_wp2_with fail
    refine (HF.out _ hr1).mono ?_
    rintro e w2 ⟨A2, c2, rfl, ho, hb2⟩
    go_wp2
    go_ret
    exact ⟨A2, c2, rfl, ho.mono hb.size, bch hb hb2⟩
  · have hlt := has_lt hh
    obtain ⟨f, hf⟩ : ∃ f, fs[plc fs n]? = some f := ⟨_, List.getElem?_eq_getElem hlt⟩
    have hy := (get_yes hs.out hh hf).1
    have hd := dropL_has hs.out hlt (by rw [get_of hf hlt]; exact hy)
    rw [hd] at HZ ⊢
    have HH := Lib.hid hh
    clear hh hf hy hd
    obtain ⟨k, hk⟩ : ∃ k, k = plc fs n := ⟨_, rfl⟩
    rw [← hk] at HC hlt HZ ⊢
    clear hk
    have hra := fun (w' : World) (h : RdM w' A fs) => RdMF.take h k
    have hrb := fun (w' : World) (h : RdM w' A fs) => RdMF.part h (l := k + 1) (c := c) (by omega) hcap
    have hl1 : (fs.take k).length = k := by simp; omega
    have hl2 : (fs.drop (k + 1)).length = fs.length - (k + 1) := by simp
    generalize fs.take k = xs at hra hl1 HZ ⊢
    generalize fs.drop (k + 1) = ys at hrb hl2 HZ ⊢
    subst hl1
    have e1 := fun w => mac_to (A := A) (n := fs.length) (c := c) (h := xs.length) (by omega) w
    have e2 := fun w => mac_from (A := A) (n := fs.length) (c := c) (l := xs.length + 1) (by omega) w
    rw [← hl2] at e2
    have ec : ((xs.length + 1 : Nat) : Int) = (xs.length : Int) + 1 := by omega
    rw [ec] at e2
    have hly : xs.length + ys.length ≤ 1000 := by omega
    have HL := Lib.hid hl2
    have HR := Lib.hid hr
    have HA := Lib.hid hra
    have HB := Lib.hid hrb
    clear hl2 hr hra hrb ec
    generalize cutS 3 A c (xs.length + 1) = B at e2 HB
    have HW := Lib.hid (fun (w' : World) (h : RdM w' A fs) => join2_world A B c (c - (xs.length + 1)) 51 xs ys w' (HA.out w' h) (HB.out w' h) hly HZ.out)
    clear HA HB
    obtain ⟨r, hr0⟩ : ∃ r, r = xs ++ ys := ⟨_, rfl⟩
    rw [← hr0] at HW ⊢
    clear hr0
    generalize c - (xs.length + 1) = d at e2 HW
    have i1 : (xs.length : Int) ≤ (c : Int) := by omega
    have i2 : (xs.length : Int) + 1 ≤ (fs.length : Int) := by omega
    have i3 : (0 : Int) ≤ (xs.length : Int) + 1 := by omega
    go_enter Tryd.func25, Tryd.ntmps25
    go_wp2_with fail
    refine HC.out.mono ?_
    rw [HH.out]
    rintro e w1 ⟨rfl, hb⟩
    go_wp2_with fail
    have f0 : IntKind.i64.wrap ((xs.length : Int) + 1) = (xs.length : Int) + 1 := IntWalk.i64_in _ (by omega)
    go_still_tail 7, (by kernel_rfl)
    change wpList _ _ _ _ _ w1.drew
    have hr1 := HR.out.below (bch hb (below_drew w1))
    have hb1 := bch hb (below_drew w1)
    generalize w1.drew = w2 at hr1 hb1 ⊢
    clear f0
    go_wp2_with fail
    refine (HW.out w2 hr1).mono ?_
    rintro e w3 ⟨A2, c2, rfl, ho, hb2⟩
    go_wp2
    go_ret
    exact ⟨A2, c2, rfl, ho.mono hb1.size, bch hb1 hb2⟩
/-- The macro of a name; the zero one, if there is none. -/
def getM (ms : List Ml) (n : By) : Ml := match getL ms n with
  | some v => (n, v)
  | none => ([], 0, [])
theorem getM_none {ms : List Ml} {n : By} (h : hasL ms n = false) : getM ms n = ([], 0, []) := by
  rw [hasL_get] at h
  unfold getM
  cases k : getL ms n with
  | none => rfl
  | some t => rw [k] at h; cases h
theorem getM_some {ms : List Ml} {n : By} {v : Mv} (h : getL ms n = some v) : getM ms n = (n, v) := by unfold getM; rw [h]
/-- A macro, and whether there is one. -/
def GetPost (w : World) (m : Ml) (b : Bool) (e : Ending) (w' : World) : Prop :=
  ∃ B d, e = .returned (.tuple #[.agg #[.string ⟨m.1.toArray⟩, .int .i64 m.2.1, .slice B m.2.2.length d], .bool b]) ∧ Rd w' B m.2.2 ∧ Below w.heap.size w w'
set_option maxRecDepth 100000 in
set_option maxHeartbeats 2000000 in
theorem get7_any (A : Option Addr) (c : Nat) (fs : List Ml) (n : By) (w : World) (hr : RdM w A fs) (hc : fs.length ≤ 1000) (hs : Hid (Sorted fs)) (hz : Hid (Bod fs)) :
    Calls Tryd.prog 30 #[.slice A fs.length c, .string ⟨n.toArray⟩] w (GetPost w (getM fs n) (hasL fs n)) := by
  have b0 := one_below w (.cells #[.string ⟨#[]⟩, .int .i64 0, .slice none 0 0] 55)
  have HC := Lib.hid (find_any A c fs n (w.alloc (.cells #[.string ⟨#[]⟩, .int .i64 0, .slice none 0 0] 55)) (hr.below b0) (by omega) hs)
  have HK := Lib.hid (heap_alloc_new w (.cells #[.string ⟨#[]⟩, .int .i64 0, .slice none 0 0] 55))
  have HB0 := Lib.hid b0
  clear b0
  cases hh : hasL fs n
  · rw [getM_none hh]
    have HH := Lib.hid hh
    clear hh
    go_enter Tryd.func30, Tryd.ntmps30
    go_wp2_with fail
    refine HC.out.mono ?_
    rw [HH.out]
    rintro e w1 ⟨rfl, hb⟩
    have hk := blk_below hb HK.out
    have c0 : w1.cell? ⟨w.heap.size, 0, none⟩ = some (.string ⟨#[]⟩) := cell_of hk 0
    have c1 : w1.cell? ⟨w.heap.size, 1, none⟩ = some (.int .i64 0) := cell_of hk 1
    have c2 : w1.cell? ⟨w.heap.size, 2, none⟩ = some (.slice none 0 0) := cell_of hk 2
    have f0 := frozen_of hk 0
    have f1 := frozen_of hk 1
    have f2 := frozen_of hk 2
    have BK := Lib.hid (blk_set (blk_set (blk_set hk 0 (.string ⟨#[]⟩)) 1 (.int .i64 0)) 2 (.slice none 0 0))
    have HB := Lib.hid (((bch HB0.out hb).setCell (Nat.le_refl _) (p := ⟨w.heap.size, 0, none⟩) (.string ⟨#[]⟩)).setCell (Nat.le_refl _) (p := ⟨w.heap.size, 1, none⟩) (.int .i64 0) |>.setCell (Nat.le_refl _) (p := ⟨w.heap.size, 2, none⟩) (.slice none 0 0))
    clear hk hb
    go_wp2
    refine bodyPost_ret (results_cell_tmp (P := Tryd.prog) rfl _ _ w.heap.size 55 #[.string ⟨#[]⟩, .int .i64 0, .slice none 0 0] (0, 0) _ _ (by rfl) (by rfl) BK.out Tryd.underlying55 rfl (by kernel_rfl)) rfl ?_
    exact ⟨none, 0, rfl, Rd.empty _ _, HB.out⟩
  · have hlt := has_lt hh
    obtain ⟨f, hf⟩ : ∃ f, fs[plc fs n]? = some f := ⟨_, List.getElem?_eq_getElem hlt⟩
    obtain ⟨hy1, hy2⟩ := get_yes hs.out hh hf
    have hgm := getM_some hy2
    obtain ⟨z, p, body⟩ := f
    simp only at hy1 hgm
    rw [hgm]
    have hbl := hz.out _ (List.mem_of_getElem? hf)
    simp only at hbl
    subst hy1
    have HH := Lib.hid hh
    have HF := Lib.hid hf
    clear hh hf hgm hy2
    obtain ⟨k, hk⟩ : ∃ k, k = plc fs z := ⟨_, rfl⟩
    rw [← hk] at HC HF hlt
    clear hk
    obtain ⟨b, o, rfl, hcell⟩ := hr.cells (by omega)
    obtain ⟨B, d, c1, c2, c3, hrd⟩ := hcell k _ HF.out
    simp only at c1 c2 c3 hrd
    have HR := Lib.hid hrd
    clear hcell hr hrd
    have i1 : (k : Int) < (fs.length : Int) := by omega
    go_enter Tryd.func30, Tryd.ntmps30
    go_wp2_with fail
    refine HC.out.mono ?_
    rw [HH.out]
    rintro e w1 ⟨rfl, hb⟩
    have hk := blk_below hb HK.out
    have HB1 := Lib.hid (bch HB0.out hb)
    have k1 := cell_below HB1.out c1
    have k2 := cell_below HB1.out c2
    have k3 := cell_below HB1.out c3
    have o1 := one_below w1 (.cells #[.string ⟨z.toArray⟩, .int .i64 p, .slice B body.length d] 55)
    have hk8 := heap_alloc_new w1 (.cells #[.string ⟨z.toArray⟩, .int .i64 p, .slice B body.length d] 55)
    have HK4 := Lib.hid (blk_below o1 hk)
    have HB2 := Lib.hid (bch HB1.out o1)
    have HK8 := Lib.hid hk8
    obtain ⟨q1, q2, q3⟩ := new_three w1 (.string ⟨z.toArray⟩) (.int .i64 p) (.slice B body.length d) 55
    have CF := Lib.hid (fresh_any B _ d body _ (HR.out.below HB2.out) rfl hbl)
    have HLT := Lib.hid (lt_of_blk hk)
    clear c1 c2 c3 hk o1 hb hk8
    go_wp2_with fail
    refine CF.out.mono ?_
    rintro e w2 ⟨B2, d2, rfl, ho, hb2⟩
    have m8 := blk_below hb2 HK8.out
    have m4 := blk_below hb2 HK4.out
    have n8 := blk_set m8 2 (.slice B2 body.length d2)
    have c0 : (w2.setCell ⟨w1.heap.size, 2, none⟩ (.slice B2 body.length d2)).cell? ⟨w1.heap.size, 0, none⟩ = some (.string ⟨z.toArray⟩) := cell_of n8 0
    have c1 : (w2.setCell ⟨w1.heap.size, 2, none⟩ (.slice B2 body.length d2)).cell? ⟨w1.heap.size, 1, none⟩ = some (.int .i64 p) := cell_of n8 1
    have c2 : (w2.setCell ⟨w1.heap.size, 2, none⟩ (.slice B2 body.length d2)).cell? ⟨w1.heap.size, 2, none⟩ = some (.slice B2 body.length d2) := cell_of n8 2
    have f8 := frozen_of m8 2
    have hne : w.heap.size ≠ w1.heap.size := by have := HLT.out; omega
    have n4 : (w2.setCell ⟨w1.heap.size, 2, none⟩ (.slice B2 body.length d2)).heap[w.heap.size]? = _ := (heap_setCell_other w2 ⟨w1.heap.size, 2, none⟩ w.heap.size (.slice B2 body.length d2) hne).trans m4
    have d0 : (w2.setCell ⟨w1.heap.size, 2, none⟩ (.slice B2 body.length d2)).cell? ⟨w.heap.size, 0, none⟩ = some (.string ⟨#[]⟩) := cell_of n4 0
    have d1 : (w2.setCell ⟨w1.heap.size, 2, none⟩ (.slice B2 body.length d2)).cell? ⟨w.heap.size, 1, none⟩ = some (.int .i64 0) := cell_of n4 1
    have d3 : (w2.setCell ⟨w1.heap.size, 2, none⟩ (.slice B2 body.length d2)).cell? ⟨w.heap.size, 2, none⟩ = some (.slice none 0 0) := cell_of n4 2
    have f0 := frozen_of n4 0
    have f1 := frozen_of n4 1
    have f2 := frozen_of n4 2
    have BK := Lib.hid (blk_set (blk_set (blk_set n4 0 (.string ⟨z.toArray⟩)) 1 (.int .i64 p)) 2 (.slice B2 body.length d2))
    have HBa := Lib.hid ((((bch HB2.out hb2).setCell (Nat.le_of_lt HLT.out) (p := ⟨w1.heap.size, 2, none⟩) (.slice B2 body.length d2)).setCell (Nat.le_refl _) (p := ⟨w.heap.size, 0, none⟩) (.string ⟨z.toArray⟩)).setCell (Nat.le_refl _) (p := ⟨w.heap.size, 1, none⟩) (.int .i64 p) |>.setCell (Nat.le_refl _) (p := ⟨w.heap.size, 2, none⟩) (.slice B2 body.length d2))
    have hsz : (w1.alloc (.cells #[.string ⟨z.toArray⟩, .int .i64 p, .slice B body.length d] 55)).heap.size = w1.heap.size + 1 := by simp
    have HO := Lib.hid ho
    have rdk : ∀ (W : World) (q : Addr) (v : Value), q.block < (w1.alloc (.cells #[.string ⟨z.toArray⟩, .int .i64 p, .slice B body.length d] 55)).heap.size → Rd W B2 body → Rd (W.setCell q v) B2 body := fun W q v hq h => by
      intro h0
      obtain ⟨g, cap, hv, hg, _⟩ := World.ownsRow.form HO.out h0
      simp only [Value.slice.injEq] at hv
      obtain ⟨b2, o2, e2, hc2⟩ := h h0
      rw [hv.1] at e2
      cases e2
      refine ⟨g, 0, hv.1, fun i f hi => ?_⟩
      have hb3 : g ≠ q.block := by omega
      have hs := heap_setCell_other W q g v hb3
      obtain ⟨u1, u2⟩ := hc2 i f hi
      constructor
      · rw [← u1]; simp only [World.cell?, hs]
      · rw [← u2]; simp only [World.cell?, hs]
    have hRD := rdk _ ⟨w.heap.size, 2, none⟩ (.slice B2 body.length d2) (by rw [hsz]; have := HLT.out; simp only; omega) (rdk _ ⟨w.heap.size, 1, none⟩ (.int .i64 p) (by rw [hsz]; have := HLT.out; simp only; omega) (rdk _ ⟨w.heap.size, 0, none⟩ (.string ⟨z.toArray⟩) (by rw [hsz]; have := HLT.out; simp only; omega) (rdk _ ⟨w1.heap.size, 2, none⟩ (.slice B2 body.length d2) (by rw [hsz]; simp only; omega) ho.rd)))
    have HRD := Lib.hid hRD
    have q3' := cell_below hb2 q3
    clear m8 m4 n8 n4 hb2 ho CF hRD rdk hsz q1 q2 q3
    go_wp2
    refine bodyPost_ret (results_cell_tmp (P := Tryd.prog) rfl _ _ w.heap.size 55 #[.string ⟨z.toArray⟩, .int .i64 p, .slice B2 body.length d2] (0, 0) _ _ (by rfl) (by rfl) BK.out Tryd.underlying55 rfl (by kernel_rfl)) rfl ?_
    exact ⟨B2, d2, rfl, HRD.out, HBa.out⟩
end Go.Proofs.YtjneeikkakekjaaDoor

/-
  The law's Ref, Refs of macros; the document's Drop, Get, Same.
-/
import Derived.Test.YtjneeikkakekjaaDoorNO
import Derived.Deep.RegionWith
namespace Go.Proofs.YtjneeikkakekjaaDoor
open Go.RowKit

theorem far_own {t : TypeId} {w wr : World} {C : Option Addr} {cc : Nat} {xs : List Ml} {B : Option Addr} {l : List Tok} (h : Rd w B l) (ho : OwnM t wr w.heap.size C cc xs) : 0 < l.length → Far (Value.slice C xs.length cc).ownBlock B := fun h0 a ha e => by
  have := rd_lt h h0 a ha
  have := ho.ge _ e.symm
  omega
theorem drop_keep {fs : List Ml} {n : By} {k : Nat} {f : Ml} (hf : fs[k]? = some f) (h : (f.1 == n) = false) : dropL (fs.take (k + 1)) n = dropL (fs.take k) n ++ [f] := by
  rw [at_take hf]; unfold dropL; rw [List.filter_append]; simp [h]
theorem drop_skip {fs : List Ml} {n : By} {k : Nat} {f : Ml} (hf : fs[k]? = some f) (h : (f.1 == n) = true) : dropL (fs.take (k + 1)) n = dropL (fs.take k) n := by
  rw [at_take hf]; unfold dropL; rw [List.filter_append]; simp [h]
set_option maxRecDepth 100000 in
set_option maxHeartbeats 2000000 in
theorem rdrop_any (A : Option Addr) (c : Nat) (fs : List Ml) (n : By) (w : World) (hr : RdM w A fs) (hc : fs.length ≤ 100000) :
    Calls Tryd.prog 26 #[.slice A fs.length c, .string ⟨n.toArray⟩] w (ResM 63 w (dropL fs n)) := by
  have HO0 := Lib.hid (ownM_empty 63 w)
  have HB0 := Lib.hid (one_below w (.cells #[] 63))
  go_enter Tryd.func26, Tryd.ntmps26
  go_wp2_with fail
  go_loopw [5, 6] (fun v i wr => ∃ (k : Nat) (C : Option Addr) (cc : Nat) (xs : List Ml), k ≤ fs.length ∧ i = .int .i64 k ∧ v = .slice C xs.length cc ∧ xs.length ≤ fs.length ∧ Hid (dropL (fs.take k) n = xs) ∧ Hid (OwnM 63 wr w.heap.size C cc xs) ∧ Hid (Below w.heap.size w wr)) (fun _ i _ => fs.length - (intOf i).toNat)
  case atStart => exact ⟨0, _, 0, [], Nat.zero_le _, rfl, rfl, by simp, Lib.hid rfl, HO0, HB0⟩
  case round =>
    clear HO0 HB0
    obtain ⟨k, C, cc, xs, hk, rfl, rfl, hxl, HX, HO, HB⟩ := hrel
    by_cases hlt : k < fs.length
    · obtain ⟨b, o, rfl, hcell⟩ := hr.cells (by omega)
      obtain ⟨f, hf⟩ : ∃ f, fs[k]? = some f := ⟨_, List.getElem?_eq_getElem hlt⟩
      obtain ⟨B, d, c1, c2, c3, hrd⟩ := hcell k f hf
      have k1 := cell_below HB.out c1
      have k2 := cell_below HB.out c2
      have k3 := cell_below HB.out c3
      have i1 : (k : Int) < (fs.length : Int) := by omega
      cases hn : f.1 == n
      · have hst := drop_keep hf hn
        rw [HX.out] at hst
        obtain ⟨ys, hy⟩ : ∃ ys, xs ++ [f] = ys := ⟨_, rfl⟩
        rw [hy] at hst
        have hyl : ys.length ≤ fs.length := by rw [← hst]; have := dropL_len (fs.take (k + 1)) n; simp at this; omega
        have HN := Lib.hid hst
        have HY := Lib.hid hy
        have o1 := one_below wr (.cells #[.string ⟨f.1.toArray⟩, .int .i64 f.2.1, .slice B f.2.2.length d] 63)
        obtain ⟨q0, q1, q2⟩ := new_three wr (.string ⟨f.1.toArray⟩) (.int .i64 f.2.1) (.slice B f.2.2.length d) 63
        have HR1 := Lib.hid (one_readM (g := (Value.slice C xs.length cc).ownBlock) q0 q1 q2 (hrd.below (bch HB.out o1)) (far_own hrd HO.out))
        have HO1 := Lib.hid (HO.out.below o1)
        have HB1 := Lib.hid (bch HB.out o1)
        clear hst hy hf hcell c1 c2 c3 hrd q0 q1 q2 o1 HO HB HX
        go_wp2_with (at_builtin; refine wpList_append_m 53 63 Tryd.underlying53 Tryd.infoM63 _ rfl _ _ rfl w.heap.size C cc xs rfl HO1.out (some ⟨wr.heap.size, 0, none⟩) 1 1 [f] rfl rfl HR1.out (by show xs.length + 1 ≤ _; omega) HB1.out.size ys HY.out ?_; intro N2 nc2 w3 hown2 hb3)
        have HB2 := Lib.hid (HB1.out.trans hb3)
        have HO2 := Lib.hid hown2
        clear hb3 hown2 HO1 HB1
        go_roundw
        case rel => exact ⟨k + 1, N2, nc2, ys, by omega, by go_num, rfl, hyl, HN, HO2, HB2⟩
        case measure => simp [intOf]; omega
      · have HN := Lib.hid ((drop_skip hf hn).trans HX.out)
        clear hf hcell c1 c2 c3 hrd HX
        go_wp2
        go_roundw
        case rel => exact ⟨k + 1, C, cc, xs, by omega, by go_num, rfl, hxl, HN, HO, HB⟩
        case measure => simp [intOf]; omega
    · have hfin := HX.out
      rw [List.take_of_length_le (by omega)] at hfin
      have HF := Lib.hid hfin
      have i1 : ¬ (k : Int) < (fs.length : Int) := by omega
      clear hfin HX
      go_wp2
      go_ret
      rw [HF.out]
      exact ⟨C, cc, rfl, HO.out, HB.out⟩
theorem get_at {fs : List Ml} {n : By} {k : Nat} {f : Ml} (h : ∀ g ∈ fs.take k, g.1 ≠ n) (hf : fs[k]? = some f) (e : f.1 = n) : getL fs n = some f.2 ∧ hasL fs n = true := by
  have hk : fs = fs.take k ++ (f :: fs.drop (k + 1)) := by
    obtain ⟨hl, he⟩ := List.getElem?_eq_some_iff.1 hf
    rw [← he, ← List.drop_eq_getElem_cons hl, List.take_append_drop]
  have h1 : getL fs n = some f.2 := by
    rw [hk, getL_append, getL_none h, getL_cons, if_pos e]
  exact ⟨h1, by rw [hasL_get, h1]; rfl⟩
theorem get_end {fs : List Ml} {n : By} (h : ∀ g ∈ fs, g.1 ≠ n) : hasL fs n = false := by
  rw [hasL_get, getL_none h]; rfl
theorem ne_step {fs : List Ml} {n : By} {k : Nat} {f : Ml} (h : ∀ g ∈ fs.take k, g.1 ≠ n) (hf : fs[k]? = some f) (e : (f.1 == n) = false) : ∀ g ∈ fs.take (k + 1), g.1 ≠ n := fun g hg => by
  rw [at_take hf] at hg
  rcases List.mem_append.1 hg with hg | hg
  · exact h g hg
  · simp at hg; subst hg; simpa using e
set_option maxRecDepth 100000 in
set_option maxHeartbeats 2000000 in
theorem rget_any (A : Option Addr) (c : Nat) (fs : List Ml) (n : By) (w : World) (hr : RdM w A fs) (hc : fs.length ≤ 100000) :
    Calls Tryd.prog 31 #[.slice A fs.length c, .string ⟨n.toArray⟩] w (GetPost w (getM fs n) (hasL fs n)) := by
  obtain ⟨w0, hw0⟩ : ∃ w0, w.alloc (.cells #[.string ⟨#[]⟩, .int .i64 0, .slice none 0 0] 63) = w0 := ⟨_, rfl⟩
  have hb0 : Below w.heap.size w w0 := by rw [← hw0]; exact one_below _ _
  have hk : w0.heap[w.heap.size]? = some (.cells #[.string ⟨#[]⟩, .int .i64 0, .slice none 0 0] 63) := by rw [← hw0]; exact heap_alloc_new _ _
  have c0 : w0.cell? ⟨w.heap.size, 0, none⟩ = some (.string ⟨#[]⟩) := cell_of hk 0
  have c1 : w0.cell? ⟨w.heap.size, 1, none⟩ = some (.int .i64 0) := cell_of hk 1
  have c2 : w0.cell? ⟨w.heap.size, 2, none⟩ = some (.slice none 0 0) := cell_of hk 2
  have f0 := frozen_of hk 0
  have f1 := frozen_of hk 1
  have f2 := frozen_of hk 2
  have HK := Lib.hid hk
  have HB := Lib.hid hb0
  have HR := Lib.hid hr
  clear hk hb0 hr
  go_enter Tryd.func31, Tryd.ntmps31
  go_wp2_with fail
  clear hw0
  go_loop [6] (fun i => ∃ k : Nat, k ≤ fs.length ∧ i = .int .i64 k ∧ Hid (∀ g ∈ fs.take k, g.1 ≠ n)) (fun i => fs.length - (intOf i).toNat)
  case atStart => exact ⟨0, Nat.zero_le _, rfl, Lib.hid (by simp)⟩
  case round =>
    obtain ⟨k, hk, rfl, HA⟩ := hrel
    by_cases hlt : k < fs.length
    · obtain ⟨b, o, rfl, hcell⟩ := HR.out.cells (by omega)
      obtain ⟨f, hf⟩ : ∃ f, fs[k]? = some f := ⟨_, List.getElem?_eq_getElem hlt⟩
      obtain ⟨B, d, a1, a2, a3, hrd⟩ := hcell k f hf
      have k1 := cell_below HB.out a1
      have k2 := cell_below HB.out a2
      have k3 := cell_below HB.out a3
      have i1 : (k : Int) < (fs.length : Int) := by omega
      cases hn : f.1 == n
      · have HN := Lib.hid (ne_step HA.out hf hn)
        clear hf hcell a1 a2 a3 hrd HA
        go_wp2
        go_round
        case rel => exact ⟨k + 1, by omega, by go_num, HN⟩
        case measure => simp [intOf]; omega
      · have e : f.1 = n := by simpa using hn
        obtain ⟨g1, g2⟩ := get_at HA.out hf e
        rw [getM_some g1, g2]
        have E := Lib.hid e
        have BK := Lib.hid (blk_set (blk_set (blk_set HK.out 0 (.string ⟨f.1.toArray⟩)) 1 (.int .i64 f.2.1)) 2 (.slice B f.2.2.length d))
        have HB1 := Lib.hid (((HB.out.setCell (Nat.le_refl _) (p := ⟨w.heap.size, 0, none⟩) (.string ⟨f.1.toArray⟩)).setCell (Nat.le_refl _) (p := ⟨w.heap.size, 1, none⟩) (.int .i64 f.2.1)).setCell (Nat.le_refl _) (p := ⟨w.heap.size, 2, none⟩) (.slice B f.2.2.length d))
        have HRD := Lib.hid (hrd.below HB1.out)
        clear hf hcell a1 a2 a3 hrd HA g1 g2 e
        go_wp2
        refine bodyPost_ret (results_cell_tmp (P := Tryd.prog) rfl _ _ w.heap.size 63 #[.string ⟨f.1.toArray⟩, .int .i64 f.2.1, .slice B f.2.2.length d] (0, 0) _ _ (by rfl) (by rfl) BK.out Tryd.underlying63 rfl (by kernel_rfl)) rfl ?_
        exact ⟨B, d, by have e := E.out; subst e; rfl, HRD.out, HB1.out⟩
    · have hfin := HA.out
      rw [List.take_of_length_le (by omega)] at hfin
      have hno := get_end hfin
      have HG := Lib.hid (getM_none hno)
      have HN := Lib.hid hno
      have i1 : ¬ (k : Int) < (fs.length : Int) := by omega
      have BK := Lib.hid (blk_set (blk_set (blk_set HK.out 0 (.string ⟨#[]⟩)) 1 (.int .i64 0)) 2 (.slice none 0 0))
      have HB1 := Lib.hid (((HB.out.setCell (Nat.le_refl _) (p := ⟨w.heap.size, 0, none⟩) (.string ⟨#[]⟩)).setCell (Nat.le_refl _) (p := ⟨w.heap.size, 1, none⟩) (.int .i64 0)).setCell (Nat.le_refl _) (p := ⟨w.heap.size, 2, none⟩) (.slice none 0 0))
      clear hfin hno HA
      go_wp2
      refine bodyPost_ret (results_cell_tmp (P := Tryd.prog) rfl _ _ w.heap.size 63 #[.string ⟨#[]⟩, .int .i64 0, .slice none 0 0] (0, 0) _ _ (by rfl) (by rfl) BK.out Tryd.underlying63 rfl (by kernel_rfl)) rfl ?_
      rw [HG.out, HN.out]
      exact ⟨none, 0, rfl, Rd.empty _ _, HB1.out⟩
set_option maxRecDepth 100000 in
set_option maxHeartbeats 4000000 in
theorem rsame7_any (A B : Option Addr) (c d : Nat) (fs gs : List Ml) (w : World) (hr : RdM w A fs) (hq : RdM w B gs) (hc : fs.length ≤ 10000) (hd : gs.length ≤ 10000) (hf : Hid (Bod fs)) (hg : Hid (Bod gs)) :
    Calls Tryd.prog 32 #[.slice A fs.length c, .slice B gs.length d] w fun e w' => e = .returned (.bool (decide (fs = gs))) ∧ ∃ n, w' = w.drewN n := by
  by_cases hl : fs.length = gs.length
  · have q : ((fs.length : Int) != (gs.length : Int)) = false := by simp [hl]
    have HL := Lib.hid hl
    clear hl
    go_enter Tryd.func32, Tryd.ntmps32
    go_wp2
    go_loopw [5] (fun i wr => ∃ k m : Nat, k ≤ fs.length ∧ i = .int .i64 k ∧ Hid (fs.take k = gs.take k) ∧ Hid (wr = w.drewN m)) (fun i _ => fs.length - (intOf i).toNat)
    case atStart => exact ⟨0, 0, Nat.zero_le _, rfl, Lib.hid (by simp), Lib.hid rfl⟩
    case round =>
      obtain ⟨k, m, hk, rfl, Hall, HW⟩ := hrel
      replace hr : RdM wr A fs := by rw [HW.out]; exact hr.drewN m
      replace hq : RdM wr B gs := by rw [HW.out]; exact hq.drewN m
      by_cases hlt : k < fs.length
      · have hlt2 : k < gs.length := by rw [← HL.out]; exact hlt
        obtain ⟨b, o, rfl, hcell⟩ := hr.cells (by omega)
        obtain ⟨b2, o2, rfl, hcell2⟩ := hq.cells (by omega)
        obtain ⟨x, hx⟩ : ∃ x, fs[k]? = some x := ⟨_, List.getElem?_eq_getElem hlt⟩
        obtain ⟨y, hy⟩ : ∃ y, gs[k]? = some y := ⟨_, List.getElem?_eq_getElem hlt2⟩
        obtain ⟨X, cx, c1, c2, c3, rx⟩ := hcell k x hx
        obtain ⟨Y, cy, e1, e2, e3, ry⟩ := hcell2 k y hy
        have lx := hf.out x (List.mem_of_getElem? hx)
        have ly := hg.out y (List.mem_of_getElem? hy)
        have SS := Lib.hid (fun n => same_any X Y cx cy x.2.2 y.2.2 (wr.drewN n) rx ry lx ly)
        have HX := Lib.hid hx
        have HY := Lib.hid hy
        clear hx hcell hr hy hcell2 hq rx ry lx ly
        obtain ⟨x1, x2, x3⟩ := x
        obtain ⟨y1, y2, y3⟩ := y
        simp only at c1 c2 c3 e1 e2 e3 SS
        have i1 : (k : Int) < (fs.length : Int) := by omega
        have i2 : (k : Int) < (gs.length : Int) := by omega
        by_cases h1 : x1 = y1
        · have q1 : (x1 == y1) = true := by rw [beq_iff_eq]; exact h1
          have q1' : (x1 != y1) = false := by simp [h1]
          by_cases h2 : x2 = y2
          · have q2 : (x2 == y2) = true := by rw [beq_iff_eq]; exact h2
            have q2' : (x2 != y2) = false := by simp [h2]
            by_cases h3 : x3 = y3
            · have HE := Lib.hid (show (x1, x2, x3) = (y1, y2, y3) by rw [h1, h2, h3])
              rw [decide_eq_true h3] at SS
              clear h1 h2 h3
              go_wp2_with fail
              go_quiet ((go_at_call 20; exact quiet_draws (SS.out _)))
              go_wp2
              go_roundw
              case rel => exact ⟨k + 1, _, by omega, by go_num, Lib.hid (eq_step HX.out HY.out HE.out Hall.out), Lib.hid (by rw [HW.out, World.drewN_drewN])⟩
              case measure => simp [intOf]; omega
            · have HE := Lib.hid (show (x1, x2, x3) ≠ (y1, y2, y3) from fun e => h3 (by injection e with _ e; injection e))
              rw [decide_eq_false h3] at SS
              clear h1 h2 h3
              go_wp2_with fail
              go_quiet ((go_at_call 20; exact quiet_draws (SS.out _)))
              go_wp2
              go_ret
              exact ⟨ret_bool (eq_stop HX.out HY.out HE.out), _, by rw [HW.out, World.drewN_drewN]⟩
          · have q2 : (x2 == y2) = false := by simpa using h2
            have q2' : (x2 != y2) = true := by simpa using h2
            have HE := Lib.hid (show (x1, x2, x3) ≠ (y1, y2, y3) from fun e => h2 (by injection e with _ e; injection e))
            clear h1 h2
            go_wp2_with fail
            go_quiet (fail)
            go_wp2
            go_ret
            exact ⟨ret_bool (eq_stop HX.out HY.out HE.out), _, by rw [HW.out, World.drewN_drewN]⟩
        · have q1 : (x1 == y1) = false := by simpa using h1
          have q1' : (x1 != y1) = true := by simpa using h1
          have HE := Lib.hid (show (x1, x2, x3) ≠ (y1, y2, y3) from fun e => h1 (by injection e))
          clear h1
          go_wp2_with fail
          go_quiet (fail)
          go_wp2
          go_ret
          exact ⟨ret_bool (eq_stop HX.out HY.out HE.out), _, by rw [HW.out, World.drewN_drewN]⟩
      · go_wp2
        go_ret
        exact ⟨ret_bool (eq_end (by omega) (by rw [← HL.out]; omega) Hall.out), _, HW.out⟩
  · have q : ((fs.length : Int) != (gs.length : Int)) = true := by simp; omega
    have HL := Lib.hid hl
    clear hl
    go_enter Tryd.func32, Tryd.ntmps32
    go_wp2
    go_ret
    exact ⟨ret_bool (eq_len HL.out), 0, rfl⟩
end Go.Proofs.YtjneeikkakekjaaDoor

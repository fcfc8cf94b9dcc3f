/-
  The walk of MacroDoes: for every input it returns true; old memory stays.
-/
import Derived.Test.YtjneeikkakekjaaDoorNU
namespace Go.Proofs.YtjneeikkakekjaaDoor
open Go.RowKit

/-- A slice that reads as these bools. -/
def RdB (w : World) (A : Option Addr) (xs : List Bool) : Prop :=
  0 < xs.length → ∃ b o, A = some ⟨b, o, none⟩ ∧ ∀ i x, xs[i]? = some x → w.cell? ⟨b, o + i, none⟩ = some (.bool x)
theorem RdB.below {w w' : World} {A : Option Addr} {xs : List Bool} (h : RdB w A xs) (hb : Below w.heap.size w w') : RdB w' A xs := fun h0 => by
  obtain ⟨b, o, e, hc⟩ := h h0
  exact ⟨b, o, e, fun i f hi => cell_below hb (hc i f hi)⟩
/-- Macros that fit a machine. -/
def FitM (ms : List Ml) : Prop := ∀ m ∈ ms, m.1.length ≤ 9223372036854775807 ∧ m.2.2.length ≤ 9223372036854775807 ∧ ∀ t ∈ m.2.2, t.2.length ≤ 9223372036854775807
theorem sameM_eq (A B : Option Addr) (c d : Nat) (fs : List Ml) (w : World) (hr : RdM w A fs) (hq : RdM w B fs) (hc : fs.length ≤ 10000) (hf : Hid (Bod fs)) :
    Calls Tryd.prog 32 #[.slice A fs.length c, .slice B fs.length d] w fun e w' => e = .returned (.bool true) ∧ Below w.heap.size w w' :=
  (rsame7_any A B c d fs fs w hr hq hc hc hf hf).mono fun _ _ ⟨h1, n, h2⟩ => ⟨h1.trans (ret_bool (decide_eq_true rfl)), by subst h2; exact drewN_below w n⟩
theorem bod_one {g : Ml} (h : g.2.2.length ≤ 200000) : Hid (Bod [g]) := Lib.hid fun m hm => by simp at hm; subst hm; exact h
theorem sameM_one (a b : Nat) (g : Ml) (w v : World) (hb : Below w.heap.size w v) (hr : RdM v (some ⟨a, 0, none⟩) [g]) (hq : RdM v (some ⟨b, 0, none⟩) [g]) (hg : g.2.2.length ≤ 200000) :
    Calls Tryd.prog 32 #[.slice (some ⟨a, 0, none⟩) 1 1, .slice (some ⟨b, 0, none⟩) 1 1] v fun e w' => e = .returned (.bool true) ∧ Below w.heap.size w w' :=
  (sameM_eq (some ⟨a, 0, none⟩) (some ⟨b, 0, none⟩) 1 1 [g] v hr hq (by simp) (bod_one hg)).mono fun _ _ ⟨h1, h2⟩ => ⟨h1, bch hb h2⟩
theorem lit_m (w : World) (g : Ml) (B : Option Addr) (d : Nat) (t : TypeId) (hr : Rd w B g.2.2) : RdM (w.alloc (.cells #[.string ⟨g.1.toArray⟩, .int .i64 g.2.1, .slice B g.2.2.length d] t)) (some ⟨w.heap.size, 0, none⟩) [g] := by
  obtain ⟨q0, q1, q2⟩ := new_three w (.string ⟨g.1.toArray⟩) (.int .i64 g.2.1) (.slice B g.2.2.length d) t
  exact one_readM q0 q1 q2 (hr.below (one_below _ _)) (fun _ => far_none B)
theorem xy1 (w : World) (g : Ml) (B D : Option Addr) (b d : Nat) (hB : Rd w B g.2.2) (hD : Rd w D g.2.2) (hg : g.2.2.length ≤ 200000) :
    Calls Tryd.prog 32 #[.slice (some ⟨w.heap.size, 0, none⟩) 1 1, .slice (some ⟨w.heap.size + 1, 0, none⟩) 1 1] ((w.alloc (.cells #[.string ⟨g.1.toArray⟩, .int .i64 g.2.1, .slice B g.2.2.length b] 63)).alloc (.cells #[.string ⟨g.1.toArray⟩, .int .i64 g.2.1, .slice D g.2.2.length d] 63)) fun e w' => e = .returned (.bool true) ∧ Below w.heap.size w w' := by
  have o1 := one_below w (.cells #[.string ⟨g.1.toArray⟩, .int .i64 g.2.1, .slice B g.2.2.length b] 63)
  have o2 := one_below (w.alloc (.cells #[.string ⟨g.1.toArray⟩, .int .i64 g.2.1, .slice B g.2.2.length b] 63)) (.cells #[.string ⟨g.1.toArray⟩, .int .i64 g.2.1, .slice D g.2.2.length d] 63)
  have h1 := (lit_m w g B b 63 hB).below o2
  have h2 := lit_m (w.alloc (.cells #[.string ⟨g.1.toArray⟩, .int .i64 g.2.1, .slice B g.2.2.length b] 63)) g D d 63 (hD.below o1)
  rw [show (w.alloc (.cells #[.string ⟨g.1.toArray⟩, .int .i64 g.2.1, .slice B g.2.2.length b] 63)).heap.size = w.heap.size + 1 by simp] at h2
  exact sameM_one _ _ g w _ (bch o1 o2) h1 h2 hg
theorem xy2 (w : World) (g : Ml) (B D : Option Addr) (b d : Nat) (hB : Rd w B g.2.2) (hD : Rd w D g.2.2) (hg : g.2.2.length ≤ 200000) :
    Calls Tryd.prog 32 #[.slice (some ⟨w.heap.size + 1, 0, none⟩) 1 1, .slice (some ⟨w.heap.size, 0, none⟩) 1 1] ((w.alloc (.cells #[.string ⟨g.1.toArray⟩, .int .i64 g.2.1, .slice D g.2.2.length d] 63)).alloc (.cells #[.string ⟨g.1.toArray⟩, .int .i64 g.2.1, .slice B g.2.2.length b] 63)) fun e w' => e = .returned (.bool true) ∧ Below w.heap.size w w' := by
  have o1 := one_below w (.cells #[.string ⟨g.1.toArray⟩, .int .i64 g.2.1, .slice D g.2.2.length d] 63)
  have o2 := one_below (w.alloc (.cells #[.string ⟨g.1.toArray⟩, .int .i64 g.2.1, .slice D g.2.2.length d] 63)) (.cells #[.string ⟨g.1.toArray⟩, .int .i64 g.2.1, .slice B g.2.2.length b] 63)
  have h1 := (lit_m w g D d 63 hD).below o2
  have h2 := lit_m (w.alloc (.cells #[.string ⟨g.1.toArray⟩, .int .i64 g.2.1, .slice D g.2.2.length d] 63)) g B b 63 (hB.below o1)
  rw [show (w.alloc (.cells #[.string ⟨g.1.toArray⟩, .int .i64 g.2.1, .slice D g.2.2.length d] 63)).heap.size = w.heap.size + 1 by simp] at h2
  exact sameM_one _ _ g w _ (bch o1 o2) h2 h1 hg
theorem xy3 (w : World) (y : Nat) (g : Ml) (B : Option Addr) (b : Nat) (hB : Rd w B g.2.2) (hD : RdM w (some ⟨y, 0, none⟩) [g]) (hg : g.2.2.length ≤ 200000) :
    Calls Tryd.prog 32 #[.slice (some ⟨w.heap.size, 0, none⟩) 1 1, .slice (some ⟨y, 0, none⟩) 1 1] (w.alloc (.cells #[.string ⟨g.1.toArray⟩, .int .i64 g.2.1, .slice B g.2.2.length b] 63)) fun e w' => e = .returned (.bool true) ∧ Below w.heap.size w w' := by
  have o1 := one_below w (.cells #[.string ⟨g.1.toArray⟩, .int .i64 g.2.1, .slice B g.2.2.length b] 63)
  exact sameM_one _ _ g w _ o1 (lit_m w g B b 63 hB) (hD.below o1) hg
/-- Bodies of some tokens. -/
def Tiny (ms : List Ml) : Prop := ∀ m ∈ ms, m.2.2.length ≤ 6
theorem getM_tiny {L : List Ml} (h : Tiny L) (n : By) : (getM L n).2.2.length ≤ 6 := by
  unfold getM
  cases e : getL L n with
  | none => simp
  | some v => exact h _ (getL_mem e)
theorem getM_small {L : List Ml} (h : Bod L) (n : By) : (getM L n).2.2.length ≤ 200000 := by
  unfold getM
  cases e : getL L n with
  | none => simp
  | some v => exact h _ (getL_mem e)
theorem nmb_le {z : By} (h : nameB z = true) : z.length ≤ 20 := by
  unfold nameB at h
  rw [Bool.and_eq_true, decide_eq_true_eq] at h
  exact h.2.2
theorem len_put_err {L : List Ml} {m : Ml} (h : putE L m ≠ 0) : (putR L m).length = 0 := by rw [putR_no h]; rfl
set_option maxRecDepth 100000 in
set_option maxHeartbeats 16000000 in
theorem macroDoes_walk (A Q : Option Addr) (c qc : Nat) (ms : List Ml) (bs : List Bool) (w : World) (hr : RdM w A ms) (hl : ms.length ≤ 9223372036854775807) (hfit : Hid (FitM ms)) (hq : RdB w Q bs) (hbl : bs.length ≤ 9223372036854775807) :
    Calls Tryd.prog 5 #[.slice A ms.length c, .slice Q bs.length qc] w fun e w' => e = .returned (.bool true) ∧ Below w.heap.size w w' := by
  have o1 := one_below w (.cells #[] 55)
  have o2 := one_below (w.alloc (.cells #[] 55)) (.cells #[] 63)
  have HB0 := Lib.hid (bch o1 o2)
  clear o1 o2
  go_enter Tryd.func5, Tryd.ntmps5
  go_wp2_with fail
  go_loopw [5, 6, 7] (fun v5 v6 v7 wr => ∃ (k : Nat) (C D : Option Addr) (cc dc : Nat) (L : List Ml), v7 = .int .i64 k ∧ v5 = .slice C L.length cc ∧ v6 = .slice D L.length dc ∧ k ≤ 60 ∧ L.length ≤ 40 ∧ L.length ≤ cc ∧ cc ≤ 9223372036854775807 ∧ Hid (Good L) ∧ Hid (Bod L) ∧ Hid (Tiny L) ∧ Hid (RdM wr C L) ∧ Hid (RdM wr D L) ∧ Hid (Below w.heap.size w wr)) (fun _ _ v7 _ => 60 - (intOf v7).toNat)
  case atStart => exact ⟨0, _, _, 0, 0, [], rfl, rfl, rfl, by omega, by simp, by simp, by omega, Lib.hid Good.nil, Lib.hid (fun m hm => by cases hm), Lib.hid (fun m hm => by cases hm), Lib.hid (RdMF.empty _ _ _), Lib.hid (RdMF.empty _ _ _), HB0⟩
  case round =>
    clear HB0
    obtain ⟨k, C, D, cc, dc, L, rfl, rfl, rfl, hk, hL40, hcap, hc63, HG, HBD, HTB, RC, RD, HB⟩ := hrel
    by_cases hgo : k < ms.length ∧ k < 60
    · obtain ⟨hlt, hlt60⟩ := hgo
      have i1 : (k : Int) < (ms.length : Int) := by omega
      have i2 : (k : Int) < 60 := by omega
      have HBW := HB
      obtain ⟨b, o, rfl, hcell⟩ := hr.cells (by omega)
      obtain ⟨m, hm⟩ : ∃ m, ms[k]? = some m := ⟨_, List.getElem?_eq_getElem hlt⟩
      obtain ⟨E, ed, a1, a2, a3, hrd⟩ := hcell k m hm
      obtain ⟨f1, f2, f3⟩ := hfit.out m (List.mem_of_getElem? hm)
      obtain ⟨z0, p, body0⟩ := m
      simp only at a1 a2 a3 hrd f1 f2 f3
      have b1 := cell_below HB.out a1
      have b2 := cell_below HB.out a2
      have b3 := cell_below HB.out a3
      obtain ⟨cz, z, HCY, hzl, hmin, hcut⟩ := cut_facts z0 30 30 rfl
      have o1 := one_below wr (.cells #[.string ⟨z.toArray⟩, .int .i64 p, .slice E body0.length ed] 55)
      have O1 := Lib.hid o1
      have KB := Lib.hid (heap_alloc_new wr (.cells #[.string ⟨z.toArray⟩, .int .i64 p, .slice E body0.length ed] 55))
      have CT := Lib.hid (show Calls Tryd.prog 9 #[.slice E body0.length ed, .int .i64 6] (wr.alloc (.cells #[.string ⟨z.toArray⟩, .int .i64 p, .slice E body0.length ed] 55)) (Res 41 (wr.alloc (.cells #[.string ⟨z.toArray⟩, .int .i64 p, .slice E body0.length ed] 55)) (cutL 6 body0)) from lcut_any E ed 6 body0 _ ((hrd.below HB.out).below o1) f2 (Lib.hid f3) (by omega))
      have hb6 := cut_len 6 body0
      generalize cutL 6 body0 = body at *
      clear hcell hm hrd a1 a2 a3 f1 f2 f3 HCY o1
      go_wp2_with fail
      refine CT.out.mono ?_
      rintro e w1 ⟨B6, d6, rfl, ho, hb⟩
      have K1 := blk_below hb KB.out
      have e2 : w1.cell? ⟨wr.heap.size, 2, none⟩ = some (.slice E body0.length ed) := cell_of K1 2
      have fz := frozen_of K1 2
      have T8 := Lib.hid (blk_set K1 2 (.slice B6 body.length d6))
      have hsz : (wr.alloc (.cells #[.string ⟨z.toArray⟩, .int .i64 p, .slice E body0.length ed] 55)).heap.size = wr.heap.size + 1 := by simp
      have RB6 := Lib.hid (own_set ho (p := ⟨wr.heap.size, 2, none⟩) (by rw [hsz]; exact Nat.lt_succ_self _) (.slice B6 body.length d6)).rd
      have HW0 := Lib.hid ((bch O1.out hb).setCell (Nat.le_refl _) (p := ⟨wr.heap.size, 2, none⟩) (.slice B6 body.length d6))
      obtain ⟨W0, hW0⟩ : ∃ W0, w1.setCell ⟨wr.heap.size, 2, none⟩ (.slice B6 body.length d6) = W0 := ⟨_, rfl⟩
      rw [hW0] at T8 RB6 HW0
      replace RC := Lib.hid (RC.out.below HW0.out)
      replace RD := Lib.hid (RD.out.below HW0.out)
      replace HB := Lib.hid (bch HB.out HW0.out)
      have T80 : Hid (W0.heap[wr.heap.size]? = some (.cells #[.string ⟨z.toArray⟩, .int .i64 p, .slice B6 body.length d6] 55)) := T8
      clear T8
      have T8 := T80
      have t0 : W0.cell? ⟨wr.heap.size, 0, none⟩ = some (.string ⟨z.toArray⟩) := cell_of T8.out 0
      have t1 : W0.cell? ⟨wr.heap.size, 1, none⟩ = some (.int .i64 p) := cell_of T8.out 1
      have t2 : W0.cell? ⟨wr.heap.size, 2, none⟩ = some (.slice B6 body.length d6) := cell_of T8.out 2
      clear T80 K1 hb ho CT KB b1 b2 b3 hsz O1
      by_cases hx : bs[k]? = some true
      · have hkb : k < bs.length := (List.getElem?_eq_some_iff.1 hx).1
        obtain ⟨b3, o3, rfl, hbc⟩ := hq (by omega)
        have s1 := cell_below HB.out (hbc k true hx)
        have j1 : (k : Int) < (bs.length : Int) := by omega
        have HG2 := Lib.hid (dropL_good HG.out z)
        have HBD2 := Lib.hid (HBD.out.drop z)
        have HTB2 := Lib.hid (show Tiny (dropL L z) from fun m hm => HTB.out m (List.mem_filter.1 hm).1)
        have hL2 : (dropL L z).length ≤ 40 := HG2.out.2.1
        have CD := Lib.hid (drop7_any C cc L z W0 RC.out (by omega) hcap hc63 (Lib.hid HG.out.1) HBD)
        have CE := Lib.hid (fun W (h : RdM W D L) => rdrop_any D dc L z W h (by omega))
        generalize dropL L z = L2 at *
        clear hbc hx hkb
        go_wp2_with fail
        clear hW0 s1
        refine CD.out.mono ?_
        rintro e w2 ⟨C2, cc2, rfl, ho, hb⟩
        obtain ⟨kc1, kc2⟩ := ho.cap
        replace RC := Lib.hid ho.rd.plain
        replace RD := Lib.hid (RD.out.below hb)
        replace HB := Lib.hid (bch HB.out hb)
        replace T8 := Lib.hid (blk_below hb T8.out)
        have t0 : w2.cell? ⟨wr.heap.size, 0, none⟩ = some (.string ⟨z.toArray⟩) := cell_of T8.out 0
        clear hb ho CD t1 t2
        go_wp2_with fail
        refine (CE.out _ RD.out).mono ?_
        rintro e w3 ⟨D2, dc2, rfl, ho, hb⟩
        replace RC := Lib.hid (RC.out.below hb)
        replace RD := Lib.hid ho.rd.plain
        replace HB := Lib.hid (bch HB.out hb)
        replace T8 := Lib.hid (blk_below hb T8.out)
        clear hb ho CE t0
        replace HG := HG2
        replace HBD := HBD2
        replace HTB := HTB2
        have c8 : w3.cell? ⟨wr.heap.size, 0, none⟩ = some (.string ⟨z.toArray⟩) := cell_of T8.out 0
        obtain ⟨g, hg⟩ : ∃ g, getM L2 z = g := ⟨_, rfl⟩
        obtain ⟨hv, hhv⟩ : ∃ hv, hasL L2 z = hv := ⟨_, rfl⟩
        have C30 := Lib.hid (get7_any C2 cc2 L2 z w3 RC.out (by omega) (Lib.hid HG.out.1) HBD)
        have C31 := Lib.hid (fun W (h : RdM W D2 L2) => rget_any D2 dc2 L2 z W h (by omega))
        rw [hg, hhv] at C30 C31
        have hgs : g.2.2.length ≤ 190000 := by rw [← hg]; have := getM_tiny HTB.out z; omega
        have C33 := Lib.hid (fun W (h : RdM W C2 L2) => refs7_any C2 cc2 L2 W h (by omega) (Lib.hid fun m hm => by have := HTB.out m hm; omega))
        have C32 := Lib.hid (fun F f W (h1 : RdM W F L2) (h2 : RdM W D2 L2) => sameM_eq F D2 f dc2 L2 W h1 h2 (by omega) HBD)
        have qv : (hv != hv) = false := by simp
        have qv2 : (hv == hv) = true := by simp
        clear hg hhv
        go_wp2_with fail
        refine C30.out.mono ?_
        rintro e v1 ⟨Bx, dx, rfl, hrx, hb⟩
        have ox := one_below v1 (.cells #[.string ⟨g.1.toArray⟩, .int .i64 g.2.1, .slice Bx g.2.2.length dx] 55)
        obtain ⟨x0, x1, x2⟩ := new_three v1 (.string ⟨g.1.toArray⟩) (.int .i64 g.2.1) (.slice Bx g.2.2.length dx) 55
        have RX := Lib.hid (hrx.below ox)
        replace RC := Lib.hid ((RC.out.below hb).below ox)
        replace RD := Lib.hid ((RD.out.below hb).below ox)
        replace HB := Lib.hid (bch (bch HB.out hb) ox)
        have X0 := Lib.hid x0
        have X1 := Lib.hid x1
        have X2 := Lib.hid x2
        have c9 := cell_below ox (cell_below hb c8)
        clear x0 x1 x2 ox hb hrx C30 c8
        go_wp2_with fail
        refine (C31.out _ RD.out).mono ?_
        rintro e v2 ⟨By, dy, rfl, hry, hb⟩
        have oy := one_below v2 (.cells #[.string ⟨g.1.toArray⟩, .int .i64 g.2.1, .slice By g.2.2.length dy] 63)
        obtain ⟨y0, y1, y2⟩ := new_three v2 (.string ⟨g.1.toArray⟩) (.int .i64 g.2.1) (.slice By g.2.2.length dy) 63
        replace RX := Lib.hid ((RX.out.below hb).below oy)
        have RY := Lib.hid (hry.below oy)
        replace RC := Lib.hid ((RC.out.below hb).below oy)
        replace RD := Lib.hid ((RD.out.below hb).below oy)
        replace HB := Lib.hid (bch (bch HB.out hb) oy)
        have x0 := cell_below oy (cell_below hb X0.out)
        have x1 := cell_below oy (cell_below hb X1.out)
        have x2 := cell_below oy (cell_below hb X2.out)
        obtain ⟨v3, hv3⟩ : ∃ v3, v2.alloc (.cells #[.string ⟨g.1.toArray⟩, .int .i64 g.2.1, .slice By g.2.2.length dy] 63) = v3 := ⟨_, rfl⟩
        rw [hv3] at RX RY RC RD HB x0 x1 x2 y0 y1 y2
        clear oy hb hry C31 c9 X0 X1 X2
        go_wp2_with fail
        clear hv3
        have RC3 := Lib.hid (RC.out.below (below_drew v3))
        have C29 := Lib.hid (fun W (h : Rd W Bx g.2.2) => ref7_any g Bx dx W h hgs)
        have hgs2 : g.2.2.length ≤ 200000 := by omega
        go_region_held3 (fun w' => w'.cell? ⟨v1.heap.size, 0, none⟩ = some (.string ⟨g.1.toArray⟩) ∧ w'.cell? ⟨v1.heap.size, 1, none⟩ = some (.int .i64 g.2.1) ∧ w'.cell? ⟨v1.heap.size, 2, none⟩ = some (.slice Bx g.2.2.length dx) ∧ w'.cell? ⟨v2.heap.size, 0, none⟩ = some (.string ⟨g.1.toArray⟩) ∧ w'.cell? ⟨v2.heap.size, 1, none⟩ = some (.int .i64 g.2.1) ∧ w'.cell? ⟨v2.heap.size, 2, none⟩ = some (.slice By g.2.2.length dy))
          (first
            | go_keep
            | exact ⟨cell_below hA7 x0, cell_below hA7 x1, cell_below hA7 x2, cell_below hA7 y0, cell_below hA7 y1, cell_below hA7 y2⟩
            | exact ⟨cell_below hA6 x0, cell_below hA6 x1, cell_below hA6 x2, cell_below hA6 y0, cell_below hA6 y1, cell_below hA6 y2⟩
            | exact ⟨cell_below hA5 x0, cell_below hA5 x1, cell_below hA5 x2, cell_below hA5 y0, cell_below hA5 y1, cell_below hA5 y2⟩
            | exact ⟨cell_below hA4 x0, cell_below hA4 x1, cell_below hA4 x2, cell_below hA4 y0, cell_below hA4 y1, cell_below hA4 y2⟩)
          (first
            | (go_at_call 33; (with_reducible refine (C33.out _ RC3.out).mono ?_); rintro e v4 ⟨A4, c4, rfl, ho4, hb4⟩; have RR4 := Lib.hid ho4.rd.plain; have hA4 : Below v3.heap.size v3 v4 := bch (below_drew v3) hb4; clear ho4)
            | (go_at_call 32; (with_reducible refine (C32.out A4 c4 v4 RR4.out (RD.out.below hA4)).mono ?_); rintro e v5 ⟨rfl, hb5⟩; have hA5 : Below v3.heap.size v3 v5 := bch hA4 hb5)
            | (go_at_call 29; (with_reducible refine (C29.out _ ?h1).mono ?_); (case h1 => (first | exact RX.out.below hA5 | exact RX.out.below (bch hA5 (one_below _ _)))); rintro e v6 ⟨B9, d9, rfl, ho6, hb6⟩; have RX6 := Lib.hid ho6.rd; clear ho6; first | (have hA6 : Below v3.heap.size v3 v6 := bch hA5 hb6) | (have hA6 : Below v3.heap.size v3 v6 := bch (bch hA5 (one_below _ _)) hb6))
            | (go_at_call 32; (with_reducible refine (xy1 v6 g B9 By d9 dy RX6.out (RY.out.below hA6) hgs2).mono ?_); rintro e v7 ⟨rfl, hb7⟩; have hA7 : Below v3.heap.size v3 v7 := bch hA6 hb7)
            | (go_at_call 32; (with_reducible refine (xy2 v6 g B9 By d9 dy RX6.out (RY.out.below hA6) hgs2).mono ?_); rintro e v7 ⟨rfl, hb7⟩; have hA7 : Below v3.heap.size v3 v7 := bch hA6 hb7)
            | (go_at_call 32; (with_reducible refine (xy3 v6 _ g B9 d9 RX6.out ?h2 hgs2).mono ?_); (case h2 => exact (lit_m v5 g By dy 63 (RY.out.below hA5)).below hb6); rintro e v7 ⟨rfl, hb7⟩; have hA7 : Below v3.heap.size v3 v7 := bch hA6 hb7))
        all_goals
          have RC7 := Lib.hid (RC.out.below hA7)
          have RD7 := Lib.hid (RD.out.below hA7)
          have HB7 := Lib.hid (bch HB.out hA7)
          clear hA4 hA5 hA6 hA7 hb4 hb5 hb6 hb7 RR4 RX6 RC3 C29 C33 C32 RX RY RC RD x0 x1 x2 y0 y1 y2
          go_wp2_with fail
          go_roundw
          case rel => exact ⟨k + 1, C2, D2, cc2, dc2, L2, by go_num, rfl, rfl, by omega, by omega, kc1, kc2, HG, HBD, HTB, RC7, RD7, HB7⟩
          case measure => simp [intOf]; omega
      · have hways : ¬ k < bs.length ∨ (k < bs.length ∧ bs[k]? = some false) := by
          rcases Nat.lt_or_ge k bs.length with h | h
          · right
            refine ⟨h, ?_⟩
            rw [List.getElem?_eq_getElem h] at hx ⊢
            cases e : bs[k]
            · rfl
            · rw [e] at hx; exact absurd rfl hx
          · left; omega
        have hpe := putE_cases L (z, p, body)
        have CP := Lib.hid (put7_any C cc L (z, p, body) B6 d6 W0 RC.out RB6.out (by omega) hcap hc63 (Lib.hid HG.out.1) HBD (by show body.length ≤ _; omega) (by show z.length ≤ _; omega))
        have CR := Lib.hid (fun W (h : Rd W B6 body) => ref7_any (z, p, body) B6 d6 W h (by show body.length ≤ _; omega))
        have CQ := Lib.hid (fun B d W (h : RdM W D L) (h2 : Rd W B body) => rput7_any D dc L (z, p, body) B d W h h2 (by omega) (by show z.length ≤ _; omega))
        have hzero := Lib.hid (show putE L (z, p, body) = 0 → putR L (z, p, body) = putL L (z, p, body) from putR_yes)
        have herr := Lib.hid (show putE L (z, p, body) ≠ 0 → (putR L (z, p, body)).length = 0 from len_put_err)
        have hgood := Lib.hid (show putE L (z, p, body) = 0 → Good (putL L (z, p, body)) from putL_good HG.out)
        have HBD2 := Lib.hid (HBD.out.put (m := (z, p, body)) (by show body.length ≤ _; omega))
        have HTB2 := Lib.hid (show Tiny (putL L (z, p, body)) from fun m hm => by
          rcases putL_mem hm with rfl | hm
          · exact hb6
          · exact HTB.out m hm)
        generalize putL L (z, p, body) = PL at *
        generalize putR L (z, p, body) = R at *
        generalize putE L (z, p, body) = pe at *
        simp only at CP CR CQ
        have r1 : (pe != pe) = false := by simp
        have r2 : (pe == pe) = true := by simp
        have HPE := Lib.hid hpe
        clear hx hpe
        rcases hways with hkb | ⟨hkb, hx2⟩
        · have j1 : ¬ (k : Int) < (bs.length : Int) := by omega
          go_wp2_with fail
          clear hW0
          refine CP.out.mono ?_
          rintro e w2 ⟨C2, cc2, rfl, ho, hb⟩
          obtain ⟨kc1, kc2⟩ := ho.cap
          have RC2 := Lib.hid ho.rd.plain
          replace RC := Lib.hid (RC.out.below hb)
          replace RD := Lib.hid (RD.out.below hb)
          replace HB := Lib.hid (bch HB.out hb)
          replace T8 := Lib.hid (blk_below hb T8.out)
          replace RB6 := Lib.hid (RB6.out.below hb)
          have t0 : w2.cell? ⟨wr.heap.size, 0, none⟩ = some (.string ⟨z.toArray⟩) := cell_of T8.out 0
          have t1 : w2.cell? ⟨wr.heap.size, 1, none⟩ = some (.int .i64 p) := cell_of T8.out 1
          have t2 : w2.cell? ⟨wr.heap.size, 2, none⟩ = some (.slice B6 body.length d6) := cell_of T8.out 2
          clear hb ho CP
          go_wp2_with fail
          refine (CR.out _ RB6.out).mono ?_
          rintro e w3 ⟨B9, d9, rfl, ho, hb⟩
          have RB9 := Lib.hid ho.rd
          replace RC2 := Lib.hid (RC2.out.below hb)
          replace RC := Lib.hid (RC.out.below hb)
          replace RD := Lib.hid (RD.out.below hb)
          replace HB := Lib.hid (bch HB.out hb)
          replace T8 := Lib.hid (blk_below hb T8.out)
          clear hb ho CR RB6 t0 t1 t2
          go_wp2_with fail
          refine (CQ.out B9 d9 _ RD.out RB9.out).mono ?_
          rintro e w4 ⟨D2, dc2, rfl, ho, hb⟩
          have RD2 := Lib.hid ho.rd.plain
          replace RC2 := Lib.hid (RC2.out.below hb)
          replace RC := Lib.hid (RC.out.below hb)
          replace RD := Lib.hid (RD.out.below hb)
          replace HB := Lib.hid (bch HB.out hb)
          replace T8 := Lib.hid (blk_below hb T8.out)
          clear hb ho CQ RB9
          by_cases h0 : pe = 0
          · have HR := Lib.hid (hzero.out h0)
            have HG2 := Lib.hid (hgood.out h0)
            have r3 : (pe != 0) = false := by simp [h0]
            have r4 : (pe == 0) = true := by simp [h0]
            have e9 := HR.out
            subst e9
            have hL2 : R.length ≤ 40 := HG2.out.2.1
            replace HG := HG2
            replace HBD := HBD2
            replace HTB := HTB2
            replace RC := RC2
            replace RD := RD2
            clear h0 hzero herr hgood HR RC2 RD2 HG2 HBD2 HTB2 HPE
            have c8 : w4.cell? ⟨wr.heap.size, 0, none⟩ = some (.string ⟨z.toArray⟩) := cell_of T8.out 0
            obtain ⟨g, hg⟩ : ∃ g, getM R z = g := ⟨_, rfl⟩
            obtain ⟨hv, hhv⟩ : ∃ hv, hasL R z = hv := ⟨_, rfl⟩
            have C30 := Lib.hid (get7_any C2 cc2 R z w4 RC.out (by omega) (Lib.hid HG.out.1) HBD)
            have C31 := Lib.hid (fun W (h : RdM W D2 R) => rget_any D2 dc2 R z W h (by omega))
            rw [hg, hhv] at C30 C31
            have hgs : g.2.2.length ≤ 190000 := by rw [← hg]; have := getM_tiny HTB.out z; omega
            have C33 := Lib.hid (fun W (h : RdM W C2 R) => refs7_any C2 cc2 R W h (by omega) (Lib.hid fun m hm => by have := HTB.out m hm; omega))
            have C32 := Lib.hid (fun F f W (h1 : RdM W F R) (h2 : RdM W D2 R) => sameM_eq F D2 f dc2 R W h1 h2 (by omega) HBD)
            have qv : (hv != hv) = false := by simp
            have qv2 : (hv == hv) = true := by simp
            clear hg hhv
            go_wp2_with fail
            refine C30.out.mono ?_
            rintro e v1 ⟨Bx, dx, rfl, hrx, hb⟩
            have ox := one_below v1 (.cells #[.string ⟨g.1.toArray⟩, .int .i64 g.2.1, .slice Bx g.2.2.length dx] 55)
            obtain ⟨x0, x1, x2⟩ := new_three v1 (.string ⟨g.1.toArray⟩) (.int .i64 g.2.1) (.slice Bx g.2.2.length dx) 55
            have RX := Lib.hid (hrx.below ox)
            replace RC := Lib.hid ((RC.out.below hb).below ox)
            replace RD := Lib.hid ((RD.out.below hb).below ox)
            replace HB := Lib.hid (bch (bch HB.out hb) ox)
            have X0 := Lib.hid x0
            have X1 := Lib.hid x1
            have X2 := Lib.hid x2
            have c9 := cell_below ox (cell_below hb c8)
            clear x0 x1 x2 ox hb hrx C30 c8
            go_wp2_with fail
            refine (C31.out _ RD.out).mono ?_
            rintro e v2 ⟨By, dy, rfl, hry, hb⟩
            have oy := one_below v2 (.cells #[.string ⟨g.1.toArray⟩, .int .i64 g.2.1, .slice By g.2.2.length dy] 63)
            obtain ⟨y0, y1, y2⟩ := new_three v2 (.string ⟨g.1.toArray⟩) (.int .i64 g.2.1) (.slice By g.2.2.length dy) 63
            replace RX := Lib.hid ((RX.out.below hb).below oy)
            have RY := Lib.hid (hry.below oy)
            replace RC := Lib.hid ((RC.out.below hb).below oy)
            replace RD := Lib.hid ((RD.out.below hb).below oy)
            replace HB := Lib.hid (bch (bch HB.out hb) oy)
            have x0 := cell_below oy (cell_below hb X0.out)
            have x1 := cell_below oy (cell_below hb X1.out)
            have x2 := cell_below oy (cell_below hb X2.out)
            obtain ⟨v3, hv3⟩ : ∃ v3, v2.alloc (.cells #[.string ⟨g.1.toArray⟩, .int .i64 g.2.1, .slice By g.2.2.length dy] 63) = v3 := ⟨_, rfl⟩
            rw [hv3] at RX RY RC RD HB x0 x1 x2 y0 y1 y2
            clear oy hb hry C31 c9 X0 X1 X2
            go_wp2_with fail
            clear hv3
            have RC3 := Lib.hid (RC.out.below (below_drew v3))
            have C29 := Lib.hid (fun W (h : Rd W Bx g.2.2) => ref7_any g Bx dx W h hgs)
            have hgs2 : g.2.2.length ≤ 200000 := by omega
            go_region_held3 (fun w' => w'.cell? ⟨v1.heap.size, 0, none⟩ = some (.string ⟨g.1.toArray⟩) ∧ w'.cell? ⟨v1.heap.size, 1, none⟩ = some (.int .i64 g.2.1) ∧ w'.cell? ⟨v1.heap.size, 2, none⟩ = some (.slice Bx g.2.2.length dx) ∧ w'.cell? ⟨v2.heap.size, 0, none⟩ = some (.string ⟨g.1.toArray⟩) ∧ w'.cell? ⟨v2.heap.size, 1, none⟩ = some (.int .i64 g.2.1) ∧ w'.cell? ⟨v2.heap.size, 2, none⟩ = some (.slice By g.2.2.length dy))
              (first
                | go_keep
                | exact ⟨cell_below hA7 x0, cell_below hA7 x1, cell_below hA7 x2, cell_below hA7 y0, cell_below hA7 y1, cell_below hA7 y2⟩
                | exact ⟨cell_below hA6 x0, cell_below hA6 x1, cell_below hA6 x2, cell_below hA6 y0, cell_below hA6 y1, cell_below hA6 y2⟩
                | exact ⟨cell_below hA5 x0, cell_below hA5 x1, cell_below hA5 x2, cell_below hA5 y0, cell_below hA5 y1, cell_below hA5 y2⟩
                | exact ⟨cell_below hA4 x0, cell_below hA4 x1, cell_below hA4 x2, cell_below hA4 y0, cell_below hA4 y1, cell_below hA4 y2⟩)
              (first
                | (go_at_call 33; (with_reducible refine (C33.out _ RC3.out).mono ?_); rintro e v4 ⟨A4, c4, rfl, ho4, hb4⟩; have RR4 := Lib.hid ho4.rd.plain; have hA4 : Below v3.heap.size v3 v4 := bch (below_drew v3) hb4; clear ho4)
                | (go_at_call 32; (with_reducible refine (C32.out A4 c4 v4 RR4.out (RD.out.below hA4)).mono ?_); rintro e v5 ⟨rfl, hb5⟩; have hA5 : Below v3.heap.size v3 v5 := bch hA4 hb5)
                | (go_at_call 29; (with_reducible refine (C29.out _ ?h1).mono ?_); (case h1 => (first | exact RX.out.below hA5 | exact RX.out.below (bch hA5 (one_below _ _)))); rintro e v6 ⟨B9, d9, rfl, ho6, hb6⟩; have RX6 := Lib.hid ho6.rd; clear ho6; first | (have hA6 : Below v3.heap.size v3 v6 := bch hA5 hb6) | (have hA6 : Below v3.heap.size v3 v6 := bch (bch hA5 (one_below _ _)) hb6))
                | (go_at_call 32; (with_reducible refine (xy1 v6 g B9 By d9 dy RX6.out (RY.out.below hA6) hgs2).mono ?_); rintro e v7 ⟨rfl, hb7⟩; have hA7 : Below v3.heap.size v3 v7 := bch hA6 hb7)
                | (go_at_call 32; (with_reducible refine (xy2 v6 g B9 By d9 dy RX6.out (RY.out.below hA6) hgs2).mono ?_); rintro e v7 ⟨rfl, hb7⟩; have hA7 : Below v3.heap.size v3 v7 := bch hA6 hb7)
                | (go_at_call 32; (with_reducible refine (xy3 v6 _ g B9 d9 RX6.out ?h2 hgs2).mono ?_); (case h2 => exact (lit_m v5 g By dy 63 (RY.out.below hA5)).below hb6); rintro e v7 ⟨rfl, hb7⟩; have hA7 : Below v3.heap.size v3 v7 := bch hA6 hb7))
            all_goals
              have RC7 := Lib.hid (RC.out.below hA7)
              have RD7 := Lib.hid (RD.out.below hA7)
              have HB7 := Lib.hid (bch HB.out hA7)
              clear hA4 hA5 hA6 hA7 hb4 hb5 hb6 hb7 RR4 RX6 RC3 C29 C33 C32 RX RY RC RD x0 x1 x2 y0 y1 y2
              go_wp2_with fail
              go_roundw
              case rel => exact ⟨k + 1, C2, D2, cc2, dc2, R, by go_num, rfl, rfl, by omega, by omega, kc1, kc2, HG, HBD, HTB, RC7, RD7, HB7⟩
              case measure => simp [intOf]; omega
          · have hr0 := herr.out h0
            have r3 : (pe != 0) = true := by simp [h0]
            have r4 : (pe == 0) = false := by rw [beq_eq_false_iff_ne]; exact h0
            have r5 : ((R.length : Int) != 0) = false := by rw [hr0]; rfl
            have r6 : ((R.length : Int) == 0) = true := by rw [hr0]; rfl
            have HR0 := Lib.hid hr0
            clear h0 hr0 hzero herr hgood RC2 RD2 HBD2 HTB2 HPE
            have c8 : w4.cell? ⟨wr.heap.size, 0, none⟩ = some (.string ⟨z.toArray⟩) := cell_of T8.out 0
            obtain ⟨g, hg⟩ : ∃ g, getM L z = g := ⟨_, rfl⟩
            obtain ⟨hv, hhv⟩ : ∃ hv, hasL L z = hv := ⟨_, rfl⟩
            have C30 := Lib.hid (get7_any C cc L z w4 RC.out (by omega) (Lib.hid HG.out.1) HBD)
            have C31 := Lib.hid (fun W (h : RdM W D L) => rget_any D dc L z W h (by omega))
            rw [hg, hhv] at C30 C31
            have hgs : g.2.2.length ≤ 190000 := by rw [← hg]; have := getM_tiny HTB.out z; omega
            have C33 := Lib.hid (fun W (h : RdM W C L) => refs7_any C cc L W h (by omega) (Lib.hid fun m hm => by have := HTB.out m hm; omega))
            have C32 := Lib.hid (fun F f W (h1 : RdM W F L) (h2 : RdM W D L) => sameM_eq F D f dc L W h1 h2 (by omega) HBD)
            have qv : (hv != hv) = false := by simp
            have qv2 : (hv == hv) = true := by simp
            clear hg hhv
            go_wp2_with fail
            refine C30.out.mono ?_
            rintro e v1 ⟨Bx, dx, rfl, hrx, hb⟩
            have ox := one_below v1 (.cells #[.string ⟨g.1.toArray⟩, .int .i64 g.2.1, .slice Bx g.2.2.length dx] 55)
            obtain ⟨x0, x1, x2⟩ := new_three v1 (.string ⟨g.1.toArray⟩) (.int .i64 g.2.1) (.slice Bx g.2.2.length dx) 55
            have RX := Lib.hid (hrx.below ox)
            replace RC := Lib.hid ((RC.out.below hb).below ox)
            replace RD := Lib.hid ((RD.out.below hb).below ox)
            replace HB := Lib.hid (bch (bch HB.out hb) ox)
            have X0 := Lib.hid x0
            have X1 := Lib.hid x1
            have X2 := Lib.hid x2
            have c9 := cell_below ox (cell_below hb c8)
            clear x0 x1 x2 ox hb hrx C30 c8
            go_wp2_with fail
            refine (C31.out _ RD.out).mono ?_
            rintro e v2 ⟨By, dy, rfl, hry, hb⟩
            have oy := one_below v2 (.cells #[.string ⟨g.1.toArray⟩, .int .i64 g.2.1, .slice By g.2.2.length dy] 63)
            obtain ⟨y0, y1, y2⟩ := new_three v2 (.string ⟨g.1.toArray⟩) (.int .i64 g.2.1) (.slice By g.2.2.length dy) 63
            replace RX := Lib.hid ((RX.out.below hb).below oy)
            have RY := Lib.hid (hry.below oy)
            replace RC := Lib.hid ((RC.out.below hb).below oy)
            replace RD := Lib.hid ((RD.out.below hb).below oy)
            replace HB := Lib.hid (bch (bch HB.out hb) oy)
            have x0 := cell_below oy (cell_below hb X0.out)
            have x1 := cell_below oy (cell_below hb X1.out)
            have x2 := cell_below oy (cell_below hb X2.out)
            obtain ⟨v3, hv3⟩ : ∃ v3, v2.alloc (.cells #[.string ⟨g.1.toArray⟩, .int .i64 g.2.1, .slice By g.2.2.length dy] 63) = v3 := ⟨_, rfl⟩
            rw [hv3] at RX RY RC RD HB x0 x1 x2 y0 y1 y2
            clear oy hb hry C31 c9 X0 X1 X2
            go_wp2_with fail
            clear hv3
            have RC3 := Lib.hid (RC.out.below (below_drew v3))
            have C29 := Lib.hid (fun W (h : Rd W Bx g.2.2) => ref7_any g Bx dx W h hgs)
            have hgs2 : g.2.2.length ≤ 200000 := by omega
            go_region_held3 (fun w' => w'.cell? ⟨v1.heap.size, 0, none⟩ = some (.string ⟨g.1.toArray⟩) ∧ w'.cell? ⟨v1.heap.size, 1, none⟩ = some (.int .i64 g.2.1) ∧ w'.cell? ⟨v1.heap.size, 2, none⟩ = some (.slice Bx g.2.2.length dx) ∧ w'.cell? ⟨v2.heap.size, 0, none⟩ = some (.string ⟨g.1.toArray⟩) ∧ w'.cell? ⟨v2.heap.size, 1, none⟩ = some (.int .i64 g.2.1) ∧ w'.cell? ⟨v2.heap.size, 2, none⟩ = some (.slice By g.2.2.length dy))
              (first
                | go_keep
                | exact ⟨cell_below hA7 x0, cell_below hA7 x1, cell_below hA7 x2, cell_below hA7 y0, cell_below hA7 y1, cell_below hA7 y2⟩
                | exact ⟨cell_below hA6 x0, cell_below hA6 x1, cell_below hA6 x2, cell_below hA6 y0, cell_below hA6 y1, cell_below hA6 y2⟩
                | exact ⟨cell_below hA5 x0, cell_below hA5 x1, cell_below hA5 x2, cell_below hA5 y0, cell_below hA5 y1, cell_below hA5 y2⟩
                | exact ⟨cell_below hA4 x0, cell_below hA4 x1, cell_below hA4 x2, cell_below hA4 y0, cell_below hA4 y1, cell_below hA4 y2⟩)
              (first
                | (go_at_call 33; (with_reducible refine (C33.out _ RC3.out).mono ?_); rintro e v4 ⟨A4, c4, rfl, ho4, hb4⟩; have RR4 := Lib.hid ho4.rd.plain; have hA4 : Below v3.heap.size v3 v4 := bch (below_drew v3) hb4; clear ho4)
                | (go_at_call 32; (with_reducible refine (C32.out A4 c4 v4 RR4.out (RD.out.below hA4)).mono ?_); rintro e v5 ⟨rfl, hb5⟩; have hA5 : Below v3.heap.size v3 v5 := bch hA4 hb5)
                | (go_at_call 29; (with_reducible refine (C29.out _ ?h1).mono ?_); (case h1 => (first | exact RX.out.below hA5 | exact RX.out.below (bch hA5 (one_below _ _)))); rintro e v6 ⟨B9, d9, rfl, ho6, hb6⟩; have RX6 := Lib.hid ho6.rd; clear ho6; first | (have hA6 : Below v3.heap.size v3 v6 := bch hA5 hb6) | (have hA6 : Below v3.heap.size v3 v6 := bch (bch hA5 (one_below _ _)) hb6))
                | (go_at_call 32; (with_reducible refine (xy1 v6 g B9 By d9 dy RX6.out (RY.out.below hA6) hgs2).mono ?_); rintro e v7 ⟨rfl, hb7⟩; have hA7 : Below v3.heap.size v3 v7 := bch hA6 hb7)
                | (go_at_call 32; (with_reducible refine (xy2 v6 g B9 By d9 dy RX6.out (RY.out.below hA6) hgs2).mono ?_); rintro e v7 ⟨rfl, hb7⟩; have hA7 : Below v3.heap.size v3 v7 := bch hA6 hb7)
                | (go_at_call 32; (with_reducible refine (xy3 v6 _ g B9 d9 RX6.out ?h2 hgs2).mono ?_); (case h2 => exact (lit_m v5 g By dy 63 (RY.out.below hA5)).below hb6); rintro e v7 ⟨rfl, hb7⟩; have hA7 : Below v3.heap.size v3 v7 := bch hA6 hb7))
            all_goals
              have RC7 := Lib.hid (RC.out.below hA7)
              have RD7 := Lib.hid (RD.out.below hA7)
              have HB7 := Lib.hid (bch HB.out hA7)
              clear hA4 hA5 hA6 hA7 hb4 hb5 hb6 hb7 RR4 RX6 RC3 C29 C33 C32 RX RY RC RD x0 x1 x2 y0 y1 y2
              go_wp2_with fail
              go_roundw
              case rel => exact ⟨k + 1, C, D, cc, dc, L, by go_num, rfl, rfl, by omega, by omega, hcap, hc63, HG, HBD, HTB, RC7, RD7, HB7⟩
              case measure => simp [intOf]; omega
        · obtain ⟨b3, o3, rfl, hbc⟩ := hq (by omega)
          have s1 := cell_below HB.out (hbc k false hx2)
          have j1 : (k : Int) < (bs.length : Int) := by omega
          clear hbc hx2
          go_wp2_with fail
          clear hW0
          refine CP.out.mono ?_
          rintro e w2 ⟨C2, cc2, rfl, ho, hb⟩
          obtain ⟨kc1, kc2⟩ := ho.cap
          have RC2 := Lib.hid ho.rd.plain
          replace RC := Lib.hid (RC.out.below hb)
          replace RD := Lib.hid (RD.out.below hb)
          replace HB := Lib.hid (bch HB.out hb)
          replace T8 := Lib.hid (blk_below hb T8.out)
          replace RB6 := Lib.hid (RB6.out.below hb)
          have t0 : w2.cell? ⟨wr.heap.size, 0, none⟩ = some (.string ⟨z.toArray⟩) := cell_of T8.out 0
          have t1 : w2.cell? ⟨wr.heap.size, 1, none⟩ = some (.int .i64 p) := cell_of T8.out 1
          have t2 : w2.cell? ⟨wr.heap.size, 2, none⟩ = some (.slice B6 body.length d6) := cell_of T8.out 2
          clear hb ho CP
          go_wp2_with fail
          refine (CR.out _ RB6.out).mono ?_
          rintro e w3 ⟨B9, d9, rfl, ho, hb⟩
          have RB9 := Lib.hid ho.rd
          replace RC2 := Lib.hid (RC2.out.below hb)
          replace RC := Lib.hid (RC.out.below hb)
          replace RD := Lib.hid (RD.out.below hb)
          replace HB := Lib.hid (bch HB.out hb)
          replace T8 := Lib.hid (blk_below hb T8.out)
          clear hb ho CR RB6 t0 t1 t2
          go_wp2_with fail
          refine (CQ.out B9 d9 _ RD.out RB9.out).mono ?_
          rintro e w4 ⟨D2, dc2, rfl, ho, hb⟩
          have RD2 := Lib.hid ho.rd.plain
          replace RC2 := Lib.hid (RC2.out.below hb)
          replace RC := Lib.hid (RC.out.below hb)
          replace RD := Lib.hid (RD.out.below hb)
          replace HB := Lib.hid (bch HB.out hb)
          replace T8 := Lib.hid (blk_below hb T8.out)
          clear hb ho CQ RB9
          by_cases h0 : pe = 0
          · have HR := Lib.hid (hzero.out h0)
            have HG2 := Lib.hid (hgood.out h0)
            have r3 : (pe != 0) = false := by simp [h0]
            have r4 : (pe == 0) = true := by simp [h0]
            have e9 := HR.out
            subst e9
            have hL2 : R.length ≤ 40 := HG2.out.2.1
            replace HG := HG2
            replace HBD := HBD2
            replace HTB := HTB2
            replace RC := RC2
            replace RD := RD2
            clear h0 hzero herr hgood HR RC2 RD2 HG2 HBD2 HTB2 HPE
            have c8 : w4.cell? ⟨wr.heap.size, 0, none⟩ = some (.string ⟨z.toArray⟩) := cell_of T8.out 0
            obtain ⟨g, hg⟩ : ∃ g, getM R z = g := ⟨_, rfl⟩
            obtain ⟨hv, hhv⟩ : ∃ hv, hasL R z = hv := ⟨_, rfl⟩
            have C30 := Lib.hid (get7_any C2 cc2 R z w4 RC.out (by omega) (Lib.hid HG.out.1) HBD)
            have C31 := Lib.hid (fun W (h : RdM W D2 R) => rget_any D2 dc2 R z W h (by omega))
            rw [hg, hhv] at C30 C31
            have hgs : g.2.2.length ≤ 190000 := by rw [← hg]; have := getM_tiny HTB.out z; omega
            have C33 := Lib.hid (fun W (h : RdM W C2 R) => refs7_any C2 cc2 R W h (by omega) (Lib.hid fun m hm => by have := HTB.out m hm; omega))
            have C32 := Lib.hid (fun F f W (h1 : RdM W F R) (h2 : RdM W D2 R) => sameM_eq F D2 f dc2 R W h1 h2 (by omega) HBD)
            have qv : (hv != hv) = false := by simp
            have qv2 : (hv == hv) = true := by simp
            clear hg hhv
            go_wp2_with fail
            refine C30.out.mono ?_
            rintro e v1 ⟨Bx, dx, rfl, hrx, hb⟩
            have ox := one_below v1 (.cells #[.string ⟨g.1.toArray⟩, .int .i64 g.2.1, .slice Bx g.2.2.length dx] 55)
            obtain ⟨x0, x1, x2⟩ := new_three v1 (.string ⟨g.1.toArray⟩) (.int .i64 g.2.1) (.slice Bx g.2.2.length dx) 55
            have RX := Lib.hid (hrx.below ox)
            replace RC := Lib.hid ((RC.out.below hb).below ox)
            replace RD := Lib.hid ((RD.out.below hb).below ox)
            replace HB := Lib.hid (bch (bch HB.out hb) ox)
            have X0 := Lib.hid x0
            have X1 := Lib.hid x1
            have X2 := Lib.hid x2
            have c9 := cell_below ox (cell_below hb c8)
            clear x0 x1 x2 ox hb hrx C30 c8
            go_wp2_with fail
            refine (C31.out _ RD.out).mono ?_
            rintro e v2 ⟨By, dy, rfl, hry, hb⟩
            have oy := one_below v2 (.cells #[.string ⟨g.1.toArray⟩, .int .i64 g.2.1, .slice By g.2.2.length dy] 63)
            obtain ⟨y0, y1, y2⟩ := new_three v2 (.string ⟨g.1.toArray⟩) (.int .i64 g.2.1) (.slice By g.2.2.length dy) 63
            replace RX := Lib.hid ((RX.out.below hb).below oy)
            have RY := Lib.hid (hry.below oy)
            replace RC := Lib.hid ((RC.out.below hb).below oy)
            replace RD := Lib.hid ((RD.out.below hb).below oy)
            replace HB := Lib.hid (bch (bch HB.out hb) oy)
            have x0 := cell_below oy (cell_below hb X0.out)
            have x1 := cell_below oy (cell_below hb X1.out)
            have x2 := cell_below oy (cell_below hb X2.out)
            obtain ⟨v3, hv3⟩ : ∃ v3, v2.alloc (.cells #[.string ⟨g.1.toArray⟩, .int .i64 g.2.1, .slice By g.2.2.length dy] 63) = v3 := ⟨_, rfl⟩
            rw [hv3] at RX RY RC RD HB x0 x1 x2 y0 y1 y2
            clear oy hb hry C31 c9 X0 X1 X2
            go_wp2_with fail
            clear hv3
            have RC3 := Lib.hid (RC.out.below (below_drew v3))
            have C29 := Lib.hid (fun W (h : Rd W Bx g.2.2) => ref7_any g Bx dx W h hgs)
            have hgs2 : g.2.2.length ≤ 200000 := by omega
            go_region_held3 (fun w' => w'.cell? ⟨v1.heap.size, 0, none⟩ = some (.string ⟨g.1.toArray⟩) ∧ w'.cell? ⟨v1.heap.size, 1, none⟩ = some (.int .i64 g.2.1) ∧ w'.cell? ⟨v1.heap.size, 2, none⟩ = some (.slice Bx g.2.2.length dx) ∧ w'.cell? ⟨v2.heap.size, 0, none⟩ = some (.string ⟨g.1.toArray⟩) ∧ w'.cell? ⟨v2.heap.size, 1, none⟩ = some (.int .i64 g.2.1) ∧ w'.cell? ⟨v2.heap.size, 2, none⟩ = some (.slice By g.2.2.length dy))
              (first
                | go_keep
                | exact ⟨cell_below hA7 x0, cell_below hA7 x1, cell_below hA7 x2, cell_below hA7 y0, cell_below hA7 y1, cell_below hA7 y2⟩
                | exact ⟨cell_below hA6 x0, cell_below hA6 x1, cell_below hA6 x2, cell_below hA6 y0, cell_below hA6 y1, cell_below hA6 y2⟩
                | exact ⟨cell_below hA5 x0, cell_below hA5 x1, cell_below hA5 x2, cell_below hA5 y0, cell_below hA5 y1, cell_below hA5 y2⟩
                | exact ⟨cell_below hA4 x0, cell_below hA4 x1, cell_below hA4 x2, cell_below hA4 y0, cell_below hA4 y1, cell_below hA4 y2⟩)
              (first
                | (go_at_call 33; (with_reducible refine (C33.out _ RC3.out).mono ?_); rintro e v4 ⟨A4, c4, rfl, ho4, hb4⟩; have RR4 := Lib.hid ho4.rd.plain; have hA4 : Below v3.heap.size v3 v4 := bch (below_drew v3) hb4; clear ho4)
                | (go_at_call 32; (with_reducible refine (C32.out A4 c4 v4 RR4.out (RD.out.below hA4)).mono ?_); rintro e v5 ⟨rfl, hb5⟩; have hA5 : Below v3.heap.size v3 v5 := bch hA4 hb5)
                | (go_at_call 29; (with_reducible refine (C29.out _ ?h1).mono ?_); (case h1 => (first | exact RX.out.below hA5 | exact RX.out.below (bch hA5 (one_below _ _)))); rintro e v6 ⟨B9, d9, rfl, ho6, hb6⟩; have RX6 := Lib.hid ho6.rd; clear ho6; first | (have hA6 : Below v3.heap.size v3 v6 := bch hA5 hb6) | (have hA6 : Below v3.heap.size v3 v6 := bch (bch hA5 (one_below _ _)) hb6))
                | (go_at_call 32; (with_reducible refine (xy1 v6 g B9 By d9 dy RX6.out (RY.out.below hA6) hgs2).mono ?_); rintro e v7 ⟨rfl, hb7⟩; have hA7 : Below v3.heap.size v3 v7 := bch hA6 hb7)
                | (go_at_call 32; (with_reducible refine (xy2 v6 g B9 By d9 dy RX6.out (RY.out.below hA6) hgs2).mono ?_); rintro e v7 ⟨rfl, hb7⟩; have hA7 : Below v3.heap.size v3 v7 := bch hA6 hb7)
                | (go_at_call 32; (with_reducible refine (xy3 v6 _ g B9 d9 RX6.out ?h2 hgs2).mono ?_); (case h2 => exact (lit_m v5 g By dy 63 (RY.out.below hA5)).below hb6); rintro e v7 ⟨rfl, hb7⟩; have hA7 : Below v3.heap.size v3 v7 := bch hA6 hb7))
            all_goals
              have RC7 := Lib.hid (RC.out.below hA7)
              have RD7 := Lib.hid (RD.out.below hA7)
              have HB7 := Lib.hid (bch HB.out hA7)
              clear hA4 hA5 hA6 hA7 hb4 hb5 hb6 hb7 RR4 RX6 RC3 C29 C33 C32 RX RY RC RD x0 x1 x2 y0 y1 y2
              go_wp2_with fail
              go_roundw
              case rel => exact ⟨k + 1, C2, D2, cc2, dc2, R, by go_num, rfl, rfl, by omega, by omega, kc1, kc2, HG, HBD, HTB, RC7, RD7, HB7⟩
              case measure => simp [intOf]; omega
          · have hr0 := herr.out h0
            have r3 : (pe != 0) = true := by simp [h0]
            have r4 : (pe == 0) = false := by rw [beq_eq_false_iff_ne]; exact h0
            have r5 : ((R.length : Int) != 0) = false := by rw [hr0]; rfl
            have r6 : ((R.length : Int) == 0) = true := by rw [hr0]; rfl
            have HR0 := Lib.hid hr0
            clear h0 hr0 hzero herr hgood RC2 RD2 HBD2 HTB2 HPE
            have c8 : w4.cell? ⟨wr.heap.size, 0, none⟩ = some (.string ⟨z.toArray⟩) := cell_of T8.out 0
            obtain ⟨g, hg⟩ : ∃ g, getM L z = g := ⟨_, rfl⟩
            obtain ⟨hv, hhv⟩ : ∃ hv, hasL L z = hv := ⟨_, rfl⟩
            have C30 := Lib.hid (get7_any C cc L z w4 RC.out (by omega) (Lib.hid HG.out.1) HBD)
            have C31 := Lib.hid (fun W (h : RdM W D L) => rget_any D dc L z W h (by omega))
            rw [hg, hhv] at C30 C31
            have hgs : g.2.2.length ≤ 190000 := by rw [← hg]; have := getM_tiny HTB.out z; omega
            have C33 := Lib.hid (fun W (h : RdM W C L) => refs7_any C cc L W h (by omega) (Lib.hid fun m hm => by have := HTB.out m hm; omega))
            have C32 := Lib.hid (fun F f W (h1 : RdM W F L) (h2 : RdM W D L) => sameM_eq F D f dc L W h1 h2 (by omega) HBD)
            have qv : (hv != hv) = false := by simp
            have qv2 : (hv == hv) = true := by simp
            clear hg hhv
            go_wp2_with fail
            refine C30.out.mono ?_
            rintro e v1 ⟨Bx, dx, rfl, hrx, hb⟩
            have ox := one_below v1 (.cells #[.string ⟨g.1.toArray⟩, .int .i64 g.2.1, .slice Bx g.2.2.length dx] 55)
            obtain ⟨x0, x1, x2⟩ := new_three v1 (.string ⟨g.1.toArray⟩) (.int .i64 g.2.1) (.slice Bx g.2.2.length dx) 55
            have RX := Lib.hid (hrx.below ox)
            replace RC := Lib.hid ((RC.out.below hb).below ox)
            replace RD := Lib.hid ((RD.out.below hb).below ox)
            replace HB := Lib.hid (bch (bch HB.out hb) ox)
            have X0 := Lib.hid x0
            have X1 := Lib.hid x1
            have X2 := Lib.hid x2
            have c9 := cell_below ox (cell_below hb c8)
            clear x0 x1 x2 ox hb hrx C30 c8
            go_wp2_with fail
            refine (C31.out _ RD.out).mono ?_
            rintro e v2 ⟨By, dy, rfl, hry, hb⟩
            have oy := one_below v2 (.cells #[.string ⟨g.1.toArray⟩, .int .i64 g.2.1, .slice By g.2.2.length dy] 63)
            obtain ⟨y0, y1, y2⟩ := new_three v2 (.string ⟨g.1.toArray⟩) (.int .i64 g.2.1) (.slice By g.2.2.length dy) 63
            replace RX := Lib.hid ((RX.out.below hb).below oy)
            have RY := Lib.hid (hry.below oy)
            replace RC := Lib.hid ((RC.out.below hb).below oy)
            replace RD := Lib.hid ((RD.out.below hb).below oy)
            replace HB := Lib.hid (bch (bch HB.out hb) oy)
            have x0 := cell_below oy (cell_below hb X0.out)
            have x1 := cell_below oy (cell_below hb X1.out)
            have x2 := cell_below oy (cell_below hb X2.out)
            obtain ⟨v3, hv3⟩ : ∃ v3, v2.alloc (.cells #[.string ⟨g.1.toArray⟩, .int .i64 g.2.1, .slice By g.2.2.length dy] 63) = v3 := ⟨_, rfl⟩
            rw [hv3] at RX RY RC RD HB x0 x1 x2 y0 y1 y2
            clear oy hb hry C31 c9 X0 X1 X2
            go_wp2_with fail
            clear hv3
            have RC3 := Lib.hid (RC.out.below (below_drew v3))
            have C29 := Lib.hid (fun W (h : Rd W Bx g.2.2) => ref7_any g Bx dx W h hgs)
            have hgs2 : g.2.2.length ≤ 200000 := by omega
            go_region_held3 (fun w' => w'.cell? ⟨v1.heap.size, 0, none⟩ = some (.string ⟨g.1.toArray⟩) ∧ w'.cell? ⟨v1.heap.size, 1, none⟩ = some (.int .i64 g.2.1) ∧ w'.cell? ⟨v1.heap.size, 2, none⟩ = some (.slice Bx g.2.2.length dx) ∧ w'.cell? ⟨v2.heap.size, 0, none⟩ = some (.string ⟨g.1.toArray⟩) ∧ w'.cell? ⟨v2.heap.size, 1, none⟩ = some (.int .i64 g.2.1) ∧ w'.cell? ⟨v2.heap.size, 2, none⟩ = some (.slice By g.2.2.length dy))
              (first
                | go_keep
                | exact ⟨cell_below hA7 x0, cell_below hA7 x1, cell_below hA7 x2, cell_below hA7 y0, cell_below hA7 y1, cell_below hA7 y2⟩
                | exact ⟨cell_below hA6 x0, cell_below hA6 x1, cell_below hA6 x2, cell_below hA6 y0, cell_below hA6 y1, cell_below hA6 y2⟩
                | exact ⟨cell_below hA5 x0, cell_below hA5 x1, cell_below hA5 x2, cell_below hA5 y0, cell_below hA5 y1, cell_below hA5 y2⟩
                | exact ⟨cell_below hA4 x0, cell_below hA4 x1, cell_below hA4 x2, cell_below hA4 y0, cell_below hA4 y1, cell_below hA4 y2⟩)
              (first
                | (go_at_call 33; (with_reducible refine (C33.out _ RC3.out).mono ?_); rintro e v4 ⟨A4, c4, rfl, ho4, hb4⟩; have RR4 := Lib.hid ho4.rd.plain; have hA4 : Below v3.heap.size v3 v4 := bch (below_drew v3) hb4; clear ho4)
                | (go_at_call 32; (with_reducible refine (C32.out A4 c4 v4 RR4.out (RD.out.below hA4)).mono ?_); rintro e v5 ⟨rfl, hb5⟩; have hA5 : Below v3.heap.size v3 v5 := bch hA4 hb5)
                | (go_at_call 29; (with_reducible refine (C29.out _ ?h1).mono ?_); (case h1 => (first | exact RX.out.below hA5 | exact RX.out.below (bch hA5 (one_below _ _)))); rintro e v6 ⟨B9, d9, rfl, ho6, hb6⟩; have RX6 := Lib.hid ho6.rd; clear ho6; first | (have hA6 : Below v3.heap.size v3 v6 := bch hA5 hb6) | (have hA6 : Below v3.heap.size v3 v6 := bch (bch hA5 (one_below _ _)) hb6))
                | (go_at_call 32; (with_reducible refine (xy1 v6 g B9 By d9 dy RX6.out (RY.out.below hA6) hgs2).mono ?_); rintro e v7 ⟨rfl, hb7⟩; have hA7 : Below v3.heap.size v3 v7 := bch hA6 hb7)
                | (go_at_call 32; (with_reducible refine (xy2 v6 g B9 By d9 dy RX6.out (RY.out.below hA6) hgs2).mono ?_); rintro e v7 ⟨rfl, hb7⟩; have hA7 : Below v3.heap.size v3 v7 := bch hA6 hb7)
                | (go_at_call 32; (with_reducible refine (xy3 v6 _ g B9 d9 RX6.out ?h2 hgs2).mono ?_); (case h2 => exact (lit_m v5 g By dy 63 (RY.out.below hA5)).below hb6); rintro e v7 ⟨rfl, hb7⟩; have hA7 : Below v3.heap.size v3 v7 := bch hA6 hb7))
            all_goals
              have RC7 := Lib.hid (RC.out.below hA7)
              have RD7 := Lib.hid (RD.out.below hA7)
              have HB7 := Lib.hid (bch HB.out hA7)
              clear hA4 hA5 hA6 hA7 hb4 hb5 hb6 hb7 RR4 RX6 RC3 C29 C33 C32 RX RY RC RD x0 x1 x2 y0 y1 y2
              go_wp2_with fail
              go_roundw
              case rel => exact ⟨k + 1, C, D, cc, dc, L, by go_num, rfl, rfl, by omega, by omega, hcap, hc63, HG, HBD, HTB, RC7, RD7, HB7⟩
              case measure => simp [intOf]; omega
    · have hcond : ((k : Int) < (ms.length : Int) ∧ ¬ (k : Int) < 60) ∨ ¬ (k : Int) < (ms.length : Int) := by omega
      clear hgo
      rcases hcond with ⟨i1, i2⟩ | i1
      all_goals
        go_wp2_with fail
        refine (fixed_any _).mono ?_
        rintro e w2 ⟨rfl, hb⟩
        replace HB := Lib.hid (bch HB.out hb)
        clear hb
        go_wp2
        go_ret
        exact ⟨rfl, HB.out⟩
end Go.Proofs.YtjneeikkakekjaaDoor

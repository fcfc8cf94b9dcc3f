/-
  Package macro: Put.
-/
import Derived.Test.YtjneeikkakekjaaDoorNM
namespace Go.Proofs.YtjneeikkakekjaaDoor
open Go.RowKit

/-- Macros and an error. -/
def ResM2 (t : TypeId) (w : World) (ms : List Ml) (v : Int) (e : Ending) (w' : World) : Prop := ∃ A c, e = .returned (.tuple #[.slice A ms.length c, .int .i64 v]) ∧ OwnM t w' w.heap.size A c ms ∧ Below w.heap.size w w'
theorem putE_wr {fs : List Ml} {f : Ml} (h : wrE f ≠ 0) : putE fs f = wrE f := by unfold putE; rw [if_pos h]
theorem putE_full {fs : List Ml} {f : Ml} (h : wrE f = 0) (k : hasL fs f.1 = false) (l : 40 ≤ fs.length) : putE fs f = 3 := by unfold putE; rw [if_neg (by simp [h]), if_pos ⟨k, l⟩]
theorem putR_no {fs : List Ml} {f : Ml} (h : putE fs f ≠ 0) : putR fs f = [] := by unfold putR; rw [if_neg h]
theorem putR_yes {fs : List Ml} {f : Ml} (h : putE fs f = 0) : putR fs f = putL fs f := by unfold putR; rw [if_pos h]
theorem wrE_name {f : Ml} (h : nameB f.1 = false) : wrE f = 2 := by unfold wrE; rw [if_pos h]
theorem wrE_par {f : Ml} (h : nameB f.1 = true) (k : f.2.1 < 0 ∨ 9 < f.2.1) : wrE f = 1 := by unfold wrE; rw [if_neg (by simp [h]), if_pos k]
theorem wrE_fine {f : Ml} (h : nameB f.1 = true) (k : ¬ (f.2.1 < 0 ∨ 9 < f.2.1)) : wrE f = 0 := by unfold wrE; rw [if_neg (by simp [h]), if_neg k]
theorem Bod.put {fs : List Ml} (h : Bod fs) {m : Ml} (hm : m.2.2.length ≤ 200000) : Bod (putL fs m) := fun g hg => by
  rcases putL_mem hg with rfl | hg
  · exact hm
  · exact h g hg
set_option maxRecDepth 100000 in
set_option maxHeartbeats 4000000 in
theorem put7_any (A : Option Addr) (c : Nat) (fs : List Ml) (m : Ml) (B : Option Addr) (d : Nat) (w : World) (hr : RdM w A fs) (hm : Rd w B m.2.2) (hc : fs.length ≤ 900) (hcap : fs.length ≤ c) (hc63 : c ≤ 9223372036854775807) (hs : Hid (Sorted fs)) (hz : Hid (Bod fs))
    (hmz : m.2.2.length ≤ 200000) (hnl : m.1.length ≤ 4611686018427387904) :
    Calls Tryd.prog 27 #[.slice A fs.length c, .agg #[.string ⟨m.1.toArray⟩, .int .i64 m.2.1, .slice B m.2.2.length d]] w (ResM2 55 w (putR fs m) (putE fs m)) := by
  obtain ⟨z, p, body⟩ := m
  simp only at hm hmz hnl
  have b0 := one_below w (.cells #[.string ⟨z.toArray⟩, .int .i64 p, .slice B body.length d] 55)
  obtain ⟨q0, q1, q2⟩ := new_three w (.string ⟨z.toArray⟩) (.int .i64 p) (.slice B body.length d) 55
  have Q0 := Lib.hid q0
  have Q1 := Lib.hid q1
  have Q2 := Lib.hid q2
  clear q0 q1 q2
  have CN := Lib.hid (named_any ⟨z.toArray⟩ (w.alloc (.cells #[.string ⟨z.toArray⟩, .int .i64 p, .slice B body.length d] 55)) hnl)
  rw [show (⟨z.toArray⟩ : ByteArray).data.toList = z from rfl] at CN
  cases hnm : nameB z
  · have hw := wrE_name (f := (z, p, body)) hnm
    have he : putE fs (z, p, body) = 2 := by rw [putE_wr (by rw [hw]; decide), hw]
    rw [putR_no (by rw [he]; decide), he]
    rw [hnm] at CN
    clear hnm hw he
    go_enter Tryd.func27, Tryd.ntmps27
    go_wp2_with fail
    refine CN.out.mono ?_
    rintro e w1 ⟨rfl, rfl⟩
    go_wp2
    go_ret2
    exact ⟨none, 0, rfl, ownM_nil _ _ _, b0⟩
  · rw [hnm] at CN
    by_cases hp : p < 0 ∨ 9 < p
    · have hw := wrE_par (f := (z, p, body)) hnm hp
      have he : putE fs (z, p, body) = 1 := by rw [putE_wr (by rw [hw]; decide), hw]
      rw [putR_no (by rw [he]; decide), he]
      clear hnm hw he
      rcases (show p < 0 ∨ (¬ p < 0 ∧ 9 < p) by omega) with h | ⟨h, h2⟩
      all_goals
        clear hp
        go_enter Tryd.func27, Tryd.ntmps27
        go_wp2_with fail
        refine CN.out.mono ?_
        rintro e w1 ⟨rfl, rfl⟩
        have k1 := Q1.out
        go_wp2
        go_ret2
        exact ⟨none, 0, rfl, ownM_nil _ _ _, b0⟩
    · have hw := wrE_fine (f := (z, p, body)) hnm hp
      have p1 : ¬ p < 0 := by omega
      have p2 : ¬ 9 < p := by omega
      have HC := Lib.hid (find_any A c fs z _ (hr.below b0) (by omega) hs)
      cases hh : hasL fs z
      · rw [hh] at HC
        by_cases h40 : 40 ≤ fs.length
        · have he := putE_full (fs := fs) hw hh h40
          rw [putR_no (by rw [he]; decide), he]
          have g40 : (40 : Int) ≤ (fs.length : Int) := by omega
          have g40' : decide ((40 : Int) ≤ (fs.length : Int)) = true := decide_eq_true g40
          clear hnm hw he hp hh
          go_enter Tryd.func27, Tryd.ntmps27
          go_wp2_with fail
          refine CN.out.mono ?_
          rintro e w1 ⟨rfl, rfl⟩
          have k1 := Q1.out
          go_wp2_with fail
          refine HC.out.mono ?_
          rintro e w1 ⟨rfl, hb⟩
          go_wp2
          go_ret2
          exact ⟨none, 0, rfl, ownM_nil _ _ _, bch b0 hb⟩
        · have he := putE_mk (fs := fs) hw (.inr (by omega))
          rw [putR_yes he, he]
          have hbod := hz.out.put (m := (z, p, body)) hmz
          rw [putL_new hh] at hbod ⊢
          have HZ := Lib.hid hbod
          clear hnm hw he hp hh hbod
          have hlt := plc_le fs z
          simp only at HZ ⊢
          obtain ⟨k, hk⟩ : ∃ k, k = plc fs z := ⟨_, rfl⟩
          rw [← hk] at HC hlt HZ ⊢
          clear hk
          have hra := fun (w' : World) (h : RdM w' A fs) => RdMF.take h k
          have hrb := fun (w' : World) (h : RdM w' A fs) => RdMF.part h (l := k) (c := c) (by omega) hcap
          have hl1 : (fs.take k).length = k := by simp; omega
          have hl2 : (fs.drop k).length = fs.length - k := by simp
          generalize fs.take k = xs at hra hl1 HZ ⊢
          generalize fs.drop k = ys at hrb hl2 HZ ⊢
          subst hl1
          have e1 := fun w => mac_to (A := A) (n := fs.length) (c := c) (h := xs.length) (by omega) w
          have e2 := fun w => mac_from (A := A) (n := fs.length) (c := c) (l := xs.length) (by omega) w
          rw [← hl2] at e2
          have hly : xs.length + ys.length ≤ 1000 := by omega
          have HL := Lib.hid hl2
          have HR := Lib.hid hr
          have HM := Lib.hid hm
          have HA := Lib.hid hra
          have HB := Lib.hid hrb
          clear hl2 hr hm hra hrb
          generalize cutS 3 A c xs.length = D at e2 HB
          have HW := Lib.hid (fun (w' : World) (h : RdM w' A fs) (h2 : Rd w' B body) => join3_world A D B c (c - xs.length) d 51 55 xs ys (z, p, body) w' (HA.out w' h) (HB.out w' h) h2 hly HZ.out)
          clear HA HB
          obtain ⟨r, hr0⟩ : ∃ r, r = xs ++ ((z, p, body) :: ys) := ⟨_, rfl⟩
          rw [← hr0] at HW ⊢
          clear hr0
          simp only at HW
          generalize c - xs.length = cd at e2 HW
          have i1 : (xs.length : Int) ≤ (c : Int) := by omega
          have i2 : (xs.length : Int) ≤ (fs.length : Int) := by omega
          have i4 : ¬ (40 : Int) ≤ (fs.length : Int) := by omega
          have i5 : decide ((40 : Int) ≤ (fs.length : Int)) = false := decide_eq_false i4
          go_enter Tryd.func27, Tryd.ntmps27
          go_wp2_with fail
          refine CN.out.mono ?_
          rintro e w1 ⟨rfl, rfl⟩
          have k1 := Q1.out
          go_wp2_with fail
          refine HC.out.mono ?_
          rintro e w2 ⟨rfl, hb⟩
          have m0 := cell_below hb Q0.out
          have m1 := cell_below hb Q1.out
          have m2 := cell_below hb Q2.out
          have hbw := bch (bch b0 hb) (below_drew w2)
          have HR2 := Lib.hid (HR.out.below hbw)
          have HM2 := Lib.hid (HM.out.below hbw)
          have D0 : Hid (w2.drew.cell? ⟨w.heap.size, 0, none⟩ = some (.string ⟨z.toArray⟩)) := Lib.hid m0
          have D1 : Hid (w2.drew.cell? ⟨w.heap.size, 1, none⟩ = some (.int .i64 p)) := Lib.hid m1
          have D2 : Hid (w2.drew.cell? ⟨w.heap.size, 2, none⟩ = some (.slice B body.length d)) := Lib.hid m2
          clear k1 hb
          go_wp2_with fail
          go_region_held3 (fun w' => w'.cell? ⟨w.heap.size, 0, none⟩ = some (.string ⟨z.toArray⟩) ∧ w'.cell? ⟨w.heap.size, 1, none⟩ = some (.int .i64 p) ∧ w'.cell? ⟨w.heap.size, 2, none⟩ = some (.slice B body.length d))
            (first
              | go_keep
              | exact ⟨cell_below hb3 D0.out, cell_below hb3 D1.out, cell_below hb3 D2.out⟩)
            (first
              | (go_at_call 47; refine (HW.out w2.drew HR2.out HM2.out).mono ?_; rintro e w3 ⟨A2, c2, rfl, ho, hb3⟩))
          go_wp2
          go_ret2
          exact ⟨A2, c2, rfl, ho.mono hbw.size, bch hbw hb3⟩
      · rw [hh] at HC
        have he := putE_mk (fs := fs) hw (.inl hh)
        rw [putR_yes he, he]
        have hlt := has_lt hh
        obtain ⟨g, hg⟩ : ∃ g, fs[plc fs z]? = some g := ⟨_, List.getElem?_eq_getElem hlt⟩
        have hy := (get_yes hs.out hh hg).1
        have hd := putL_has (f := (z, p, body)) hs.out hlt (by rw [get_of hg hlt]; exact hy)
        have hbod := hz.out.put (m := (z, p, body)) hmz
        rw [hd] at hbod ⊢
        have HZ := Lib.hid hbod
        clear hnm hw he hp hh hbod hd hg hy
        simp only at HZ ⊢
        obtain ⟨k, hk⟩ : ∃ k, k = plc fs z := ⟨_, rfl⟩
        rw [← hk] at HC hlt HZ ⊢
        clear hk
        have hra := fun (w' : World) (h : RdM w' A fs) => RdMF.take h k
        have hrb := fun (w' : World) (h : RdM w' A fs) => RdMF.part h (l := k + 1) (c := c) (by omega) hcap
        have hl1 : (fs.take k).length = k := by simp; omega
        have hl2 : (fs.drop (k + 1)).length = fs.length - (k + 1) := by simp
        generalize fs.take k = xs at hra hl1 HZ ⊢
        generalize fs.drop (k + 1) = ys at hrb hl2 HZ ⊢
        subst hl1
        have e1 := fun w => mac_to (A := A) (n := fs.length) (c := c) (h := xs.length) (by omega) w
        have e2 := fun w => mac_from (A := A) (n := fs.length) (c := c) (l := xs.length + 1) (by omega) w
        rw [← hl2] at e2
        have ec : ((xs.length + 1 : Nat) : Int) = (xs.length : Int) + 1 := by omega
        rw [ec] at e2
        have hly : xs.length + ys.length ≤ 1000 := by omega
        have HL := Lib.hid hl2
        have HR := Lib.hid hr
        have HM := Lib.hid hm
        have HA := Lib.hid hra
        have HB := Lib.hid hrb
        clear hl2 hr hm hra hrb ec
        generalize cutS 3 A c (xs.length + 1) = D at e2 HB
        have HW := Lib.hid (fun (w' : World) (h : RdM w' A fs) (h2 : Rd w' B body) => join3_world A D B c (c - (xs.length + 1)) d 51 55 xs ys (z, p, body) w' (HA.out w' h) (HB.out w' h) h2 hly HZ.out)
        clear HA HB
        obtain ⟨r, hr0⟩ : ∃ r, r = xs ++ ((z, p, body) :: ys) := ⟨_, rfl⟩
        rw [← hr0] at HW ⊢
        clear hr0
        simp only at HW
        generalize c - (xs.length + 1) = cd at e2 HW
        have i1 : (xs.length : Int) ≤ (c : Int) := by omega
        have i2 : (xs.length : Int) + 1 ≤ (fs.length : Int) := by omega
        have i3 : (0 : Int) ≤ (xs.length : Int) + 1 := by omega
        go_enter Tryd.func27, Tryd.ntmps27
        go_wp2_with fail
        refine CN.out.mono ?_
        rintro e w1 ⟨rfl, rfl⟩
        have k1 := Q1.out
        go_wp2_with fail
        refine HC.out.mono ?_
        rintro e w2 ⟨rfl, hb⟩
        have m0 := cell_below hb Q0.out
        have m1 := cell_below hb Q1.out
        have m2 := cell_below hb Q2.out
        have hbw := bch (bch b0 hb) (below_drew w2)
        have HR2 := Lib.hid (HR.out.below hbw)
        have HM2 := Lib.hid (HM.out.below hbw)
        have D0 : Hid (w2.drew.cell? ⟨w.heap.size, 0, none⟩ = some (.string ⟨z.toArray⟩)) := Lib.hid m0
        have D1 : Hid (w2.drew.cell? ⟨w.heap.size, 1, none⟩ = some (.int .i64 p)) := Lib.hid m1
        have D2 : Hid (w2.drew.cell? ⟨w.heap.size, 2, none⟩ = some (.slice B body.length d)) := Lib.hid m2
        clear k1 hb
        go_wp2_with fail
        have f0 : IntKind.i64.wrap ((xs.length : Int) + 1) = (xs.length : Int) + 1 := IntWalk.i64_in _ (by omega)
        go_region_held3 (fun w' => w'.cell? ⟨w.heap.size, 0, none⟩ = some (.string ⟨z.toArray⟩) ∧ w'.cell? ⟨w.heap.size, 1, none⟩ = some (.int .i64 p) ∧ w'.cell? ⟨w.heap.size, 2, none⟩ = some (.slice B body.length d))
          (first
            | go_keep
            | exact ⟨cell_below hb3 D0.out, cell_below hb3 D1.out, cell_below hb3 D2.out⟩)
          (first
            | (go_at_call 47; refine (HW.out w2.drew HR2.out HM2.out).mono ?_; rintro e w3 ⟨A2, c2, rfl, ho, hb3⟩))
        clear f0
        go_wp2
        go_ret2
        exact ⟨A2, c2, rfl, ho.mono hbw.size, bch hbw hb3⟩
end Go.Proofs.YtjneeikkakekjaaDoor

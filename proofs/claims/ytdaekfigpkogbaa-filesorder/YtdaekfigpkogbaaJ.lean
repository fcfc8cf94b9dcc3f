/-
  Contract of files.Put over maps: as the plain functions say; a list of the call's own; old memory stays.
-/
import Derived.Test.YtdaekfigpkogbaaI
namespace Go.Proofs.Ytdaekfigpkogbaa
open Go.RowKit

theorem putE_wr {fs : List Fl} {f : Fl} (h : wrE f ≠ 0) : putE fs f = wrE f := by unfold putE; rw [if_pos h]
theorem putE_full {fs : List Fl} {f : Fl} (h : wrE f = 0) (k : hasL fs f.1 = false) (l : 32 ≤ fs.length) : putE fs f = 3 := by unfold putE; rw [if_neg (by simp [h]), if_pos ⟨k, l⟩]
theorem putR_no {fs : List Fl} {f : Fl} (h : putE fs f ≠ 0) : putR fs f = [] := by unfold putR; rw [if_neg h]
theorem putR_yes {fs : List Fl} {f : Fl} (h : putE fs f = 0) : putR fs f = putL fs f := by unfold putR; rw [if_pos h]

set_option maxRecDepth 100000 in
set_option maxHeartbeats 2000000 in
theorem put_join (A : Option Addr) (c : Nat) (fs : List Fl) (f : Fl) (w : World) (hr : Rd w A fs) (hc : fs.length ≤ 32) (hcap : fs.length ≤ c) (hc63 : c ≤ 9223372036854775807) (hs : Hid (Sorted fs)) (l1 : f.1.length ≤ 9223372036854775807) (l2 : f.2.length ≤ 9223372036854775807)
    (hw : Hid (wrE f = 0)) (hh : Hid (hasL fs f.1 = true)) :
    Calls Try.prog 16 #[.slice A fs.length c, .agg #[.string ⟨f.1.toArray⟩, .string ⟨f.2.toArray⟩]] w (Res2 w (putL fs f) (.int .i64 0)) := by
  have HC := Lib.hid (fun (w' : World) (h : Rd w' A fs) => find_any A c fs f.1 w' h (by omega) hs)
  have hlt := has_lt hh.out
  obtain ⟨g, hg⟩ : ∃ g, fs[plc fs f.1]? = some g := ⟨_, List.getElem?_eq_getElem hlt⟩
  have hy := (get_yes hs.out hh.out hg).1
  have hd := putL_has hs.out hlt (by rw [get_of hg hlt]; exact hy)
  rw [hd]
  clear hg hy hd
  obtain ⟨k, hk⟩ : ∃ k, k = plc fs f.1 := ⟨_, rfl⟩
  rw [← hk] at HC hlt ⊢
  clear hk
  have hra := fun (w' : World) (h : Rd w' A fs) => Rd.take h k
  have hrb := fun (w' : World) (h : Rd w' A fs) => Rd.cut h (k := k + 1) (c := c) (by omega) hcap
  have hl1 : (fs.take k).length = k := by simp; omega
  have hl2 : (fs.drop (k + 1)).length = fs.length - (k + 1) := by simp
  generalize fs.take k = xs at hra hl1 ⊢
  generalize fs.drop (k + 1) = ys at hrb hl2 ⊢
  subst hl1
  have e1 := cut_to A fs.length c xs.length (by omega)
  have e2 := cut_from A fs.length c (xs.length + 1) (by omega)
  rw [← hl2] at e2
  have ec : ((xs.length + 1 : Nat) : Int) = (xs.length : Int) + 1 := by omega
  rw [ec] at e2
  have hly : xs.length + ys.length ≤ 1000 := by omega
  have HL := Lib.hid hl2
  have HR := Lib.hid hr
  have HA := Lib.hid hra
  have HB := Lib.hid hrb
  clear hl2 hr hra hrb ec
  generalize cutA A c (xs.length + 1) = B at e2 HB
  have HW := Lib.hid (fun (w' : World) (h : Rd w' A fs) => join_any A B c (c - (xs.length + 1)) xs ys f w' (HA.out w' h) (HB.out w' h) hly)
  clear HA HB
  obtain ⟨r, hr0⟩ : ∃ r, r = xs ++ (f :: ys) := ⟨_, rfl⟩
  rw [← hr0] at HW ⊢
  clear hr0
  generalize c - (xs.length + 1) = d at e2 HW
  have i1 : (xs.length : Int) ≤ (c : Int) := by omega
  have i2 : (xs.length : Int) + 1 ≤ (fs.length : Int) := by omega
  have i3 : (0 : Int) ≤ (xs.length : Int) + 1 := by omega
  have b0 := one_below w (.cells #[.string ⟨f.1.toArray⟩, .string ⟨f.2.toArray⟩] 25)
  have n1 := new_fst w (.string ⟨f.1.toArray⟩) (.string ⟨f.2.toArray⟩) 25
  have n2 := new_snd w (.string ⟨f.1.toArray⟩) (.string ⟨f.2.toArray⟩) 25
  have HE := Lib.hid (show wrE f = 0 from hw.out)
  have N1 := Lib.hid n1
  have N2 := Lib.hid n2
  clear n1 n2
  go_enter Try.func16, Try.ntmps16
  go_wp2_with fail
  refine (wrong_any f _ l1 l2).mono ?_
  rw [HE.out]
  rintro e w1 ⟨rfl, hb1⟩
  have hbw := bch b0 hb1
  have m1 := cell_below hb1 N1.out
  have m2 := cell_below hb1 N2.out
  have hr1 := HR.out.below hbw
  go_wp2_with fail
  refine (HC.out w1 hr1).mono ?_
  rw [hh.out]
  rintro e w2 ⟨rfl, hb2⟩
  replace hbw := bch hbw hb2
  replace m1 := cell_below hb2 m1
  replace m2 := cell_below hb2 m2
  go_wp2_with fail
  have f0 : IntKind.i64.wrap ((xs.length : Int) + 1) = (xs.length : Int) + 1 := IntWalk.i64_in _ (by omega)
  go_still_tail 8, (by kernel_rfl)
  change wpList _ _ _ _ _ w2.drew
  replace hbw := bch hbw (below_drew w2)
  have hr2 := HR.out.below hbw
  generalize w2.drew = w3 at hr2 hbw ⊢
  clear f0
  go_wp2_with fail
  refine (HW.out w3 hr2).mono ?_
  rintro e w4 ⟨A2, c2, rfl, ho, hb4⟩
  go_wp2
  go_ret2
  exact ⟨A2, c2, rfl, ho.mono hbw.size, bch hbw hb4⟩

set_option maxRecDepth 100000 in
set_option maxHeartbeats 2000000 in
theorem put_new (A : Option Addr) (c : Nat) (fs : List Fl) (f : Fl) (w : World) (hr : Rd w A fs) (hc : fs.length < 32) (hcap : fs.length ≤ c) (_hc63 : c ≤ 9223372036854775807) (hs : Hid (Sorted fs)) (l1 : f.1.length ≤ 9223372036854775807) (l2 : f.2.length ≤ 9223372036854775807)
    (hw : Hid (wrE f = 0)) (hh : Hid (hasL fs f.1 = false)) :
    Calls Try.prog 16 #[.slice A fs.length c, .agg #[.string ⟨f.1.toArray⟩, .string ⟨f.2.toArray⟩]] w (Res2 w (putL fs f) (.int .i64 0)) := by
  have HC := Lib.hid (fun (w' : World) (h : Rd w' A fs) => find_any A c fs f.1 w' h (by omega) hs)
  have hlt := plc_le fs f.1
  have hd := putL_new hh.out
  rw [hd]
  clear hd
  obtain ⟨k, hk⟩ : ∃ k, k = plc fs f.1 := ⟨_, rfl⟩
  rw [← hk] at HC hlt ⊢
  clear hk
  have hra := fun (w' : World) (h : Rd w' A fs) => Rd.take h k
  have hrb := fun (w' : World) (h : Rd w' A fs) => Rd.cut h (k := k) (c := c) (by omega) hcap
  have hl1 : (fs.take k).length = k := by simp; omega
  have hl2 : (fs.drop k).length = fs.length - k := by simp
  generalize fs.take k = xs at hra hl1 ⊢
  generalize fs.drop k = ys at hrb hl2 ⊢
  subst hl1
  have e1 := cut_to A fs.length c xs.length (by omega)
  have e2 := cut_from A fs.length c xs.length (by omega)
  rw [← hl2] at e2
  have hly : xs.length + ys.length ≤ 1000 := by omega
  have HL := Lib.hid hl2
  have HR := Lib.hid hr
  have HA := Lib.hid hra
  have HB := Lib.hid hrb
  clear hl2 hr hra hrb
  generalize cutA A c xs.length = B at e2 HB
  have HW := Lib.hid (fun (w' : World) (h : Rd w' A fs) => join_any A B c (c - xs.length) xs ys f w' (HA.out w' h) (HB.out w' h) hly)
  clear HA HB
  obtain ⟨r, hr0⟩ : ∃ r, r = xs ++ (f :: ys) := ⟨_, rfl⟩
  rw [← hr0] at HW ⊢
  clear hr0
  generalize c - xs.length = d at e2 HW
  have i1 : (xs.length : Int) ≤ (c : Int) := by omega
  have i2 : (xs.length : Int) ≤ (fs.length : Int) := by omega
  have b0 := one_below w (.cells #[.string ⟨f.1.toArray⟩, .string ⟨f.2.toArray⟩] 25)
  have N1 := Lib.hid (new_fst w (.string ⟨f.1.toArray⟩) (.string ⟨f.2.toArray⟩) 25)
  have N2 := Lib.hid (new_snd w (.string ⟨f.1.toArray⟩) (.string ⟨f.2.toArray⟩) 25)
  have HE := Lib.hid (show wrE f = 0 from hw.out)
  go_enter Try.func16, Try.ntmps16
  go_wp2_with fail
  refine (wrong_any f _ l1 l2).mono ?_
  rw [HE.out]
  rintro e w1 ⟨rfl, hb1⟩
  have hbw := bch b0 hb1
  have m1 := cell_below hb1 N1.out
  have m2 := cell_below hb1 N2.out
  have hr1 := HR.out.below hbw
  go_wp2_with fail
  refine (HC.out w1 hr1).mono ?_
  rw [hh.out]
  rintro e w2 ⟨rfl, hb2⟩
  replace hbw := bch hbw hb2
  replace m1 := cell_below hb2 m1
  replace m2 := cell_below hb2 m2
  go_wp2_with fail
  go_still_tail 7, (by kernel_rfl)
  change wpList _ _ _ _ _ w2.drew
  replace hbw := bch hbw (below_drew w2)
  have hr2 := HR.out.below hbw
  generalize w2.drew = w3 at hr2 hbw ⊢
  go_wp2_with fail
  refine (HW.out w3 hr2).mono ?_
  rintro e w4 ⟨A2, c2, rfl, ho, hb4⟩
  go_wp2
  go_ret2
  exact ⟨A2, c2, rfl, ho.mono hbw.size, bch hbw hb4⟩

set_option maxRecDepth 100000 in
set_option maxHeartbeats 2000000 in
theorem put_any (A : Option Addr) (c : Nat) (fs : List Fl) (f : Fl) (w : World) (hr : Rd w A fs) (hc : fs.length ≤ 32) (hcap : fs.length ≤ c) (hc63 : c ≤ 9223372036854775807) (hs : Hid (Sorted fs)) (l1 : f.1.length ≤ 9223372036854775807) (l2 : f.2.length ≤ 9223372036854775807) :
    Calls Try.prog 16 #[.slice A fs.length c, .agg #[.string ⟨f.1.toArray⟩, .string ⟨f.2.toArray⟩]] w (Res2 w (putR fs f) (.int .i64 (putE fs f))) := by
  by_cases hw : wrE f = 0
  · cases hh : hasL fs f.1
    · by_cases h32 : fs.length < 32
      · have he := putE_mk hw (.inr h32)
        rw [putR_yes he, he]
        exact put_new A c fs f w hr h32 hcap hc63 hs l1 l2 (Lib.hid hw) (Lib.hid hh)
      · have he := putE_full hw hh (by omega)
        rw [putR_no (by rw [he]; decide), he]
        have HC := Lib.hid (fun (w' : World) (h : Rd w' A fs) => find_any A c fs f.1 w' h (by omega) hs)
        have b0 := one_below w (.cells #[.string ⟨f.1.toArray⟩, .string ⟨f.2.toArray⟩] 25)
        have N1 := Lib.hid (new_fst w (.string ⟨f.1.toArray⟩) (.string ⟨f.2.toArray⟩) 25)
        have HE := Lib.hid hw
        have HH := Lib.hid hh
        have HR := Lib.hid hr
        clear hw hh hr he
        go_enter Try.func16, Try.ntmps16
        go_wp2_with fail
        refine (wrong_any f _ l1 l2).mono ?_
        rw [HE.out]
        rintro e w1 ⟨rfl, hb1⟩
        have hbw := bch b0 hb1
        have m1 := cell_below hb1 N1.out
        have hr1 := HR.out.below hbw
        go_wp2_with fail
        refine (HC.out w1 hr1).mono ?_
        rw [HH.out]
        rintro e w2 ⟨rfl, hb2⟩
        replace hbw := bch hbw hb2
        go_wp2
        go_ret2
        exact ⟨none, 0, rfl, World.ownsRow_nil _ _ _ _, hbw⟩
    · have he := putE_mk hw (.inl hh)
      rw [putR_yes he, he]
      exact put_join A c fs f w hr hc hcap hc63 hs l1 l2 (Lib.hid hw) (Lib.hid hh)
  · rw [putR_no (by rw [putE_wr hw]; exact hw), putE_wr hw]
    have q : (wrE f != 0) = true := by simpa using hw
    have b0 := one_below w (.cells #[.string ⟨f.1.toArray⟩, .string ⟨f.2.toArray⟩] 25)
    clear hw
    go_enter Try.func16, Try.ntmps16
    go_wp2_with fail
    refine (wrong_any f _ l1 l2).mono ?_
    rintro e w1 ⟨rfl, hb1⟩
    go_wp2
    go_ret2
    exact ⟨none, 0, rfl, World.ownsRow_nil _ _ _ _, bch b0 hb1⟩
end Go.Proofs.Ytdaekfigpkogbaa

/-
  Contracts of files.Merge and the document's answer's Merge over maps: as the plain functions say; old memory stays.
-/
import Derived.Test.YtdaekfigpkogbaaK
namespace Go.Proofs.Ytdaekfigpkogbaa
open Go.RowKit

theorem drop_next {fs : List Fl} {k : Nat} {f : Fl} (h : fs[k]? = some f) (hk : k < fs.length) : fs.drop k = f :: fs.drop (k + 1) := by
  rw [List.drop_eq_getElem_cons hk, get_of h hk]
theorem mrg_go {xs r : List Fl} {f : Fl} (h : putE xs f = 0) : mrgL xs (f :: r) = mrgL (putL xs f) r ∧ mrgE xs (f :: r) = mrgE (putL xs f) r := by
  rw [mrgL, mrgE, if_pos h, if_pos h]; exact ⟨rfl, rfl⟩
theorem mrg_stop {xs r : List Fl} {f : Fl} (h : putE xs f ≠ 0) : mrgL xs (f :: r) = [] ∧ mrgE xs (f :: r) = putE xs f := by
  rw [mrgL, mrgE, if_neg h, if_neg h]; exact ⟨rfl, rfl⟩
theorem ret_slint {A : Option Addr} {n m c : Nat} {a b : Int} (h : n = m) (k : a = b) : Ending.returned (.tuple #[.slice A n c, .int .i64 a]) = .returned (.tuple #[.slice A m c, .int .i64 b]) := by rw [h, k]

set_option maxRecDepth 100000 in
set_option maxHeartbeats 2000000 in
theorem merge_any (A B : Option Addr) (c d : Nat) (fs gs : List Fl) (w : World) (hr : Rd w A fs) (hq : Rd w B gs) (hgood : Hid (Good fs)) (hfit : Hid (Fit gs)) (hl : fs.length ≤ 32) (hg : gs.length ≤ 1000) :
    Calls Try.prog 23 #[.slice A fs.length c, .slice B gs.length d] w (Res2 w (mrgL fs gs) (.int .i64 (mrgE fs gs))) := by
  go_enter Try.func23, Try.ntmps23
  go_wp2_with fail
  refine (fresh_any A c fs _ hr (by omega)).mono ?_
  rintro e w0 ⟨A0, c0, rfl, ho0, hb0⟩
  go_wp2_with fail
  go_loopw [6, 15] (fun v i wr => ∃ (k : Nat) (C : Option Addr) (cc : Nat) (xs : List Fl), k ≤ gs.length ∧ i = .int .i64 k ∧ v = .slice C xs.length cc ∧ Good xs ∧ mrgL xs (gs.drop k) = mrgL fs gs ∧ mrgE xs (gs.drop k) = mrgE fs gs ∧ Own wr w.heap.size C cc xs ∧ Below w.heap.size w wr) (fun _ i _ => gs.length - (intOf i).toNat)
  case atStart => exact ⟨0, A0, c0, fs, Nat.zero_le _, rfl, rfl, hgood.out, rfl, rfl, ho0, hb0⟩
  case round =>
    clear ho0 hb0
    obtain ⟨k, C, cc, xs, hk, rfl, rfl, hgx, hm1, hm2, hown, hb⟩ := hrel
    have HG := Lib.hid hgx
    have M1 := Lib.hid hm1
    have M2 := Lib.hid hm2
    have HO := Lib.hid hown
    have hxl := hgx.2.1
    have HS := Lib.hid hgx.1
    obtain ⟨q1, q2, _⟩ := hown.cap
    clear hgx hm1 hm2 hown
    by_cases hlt : k < gs.length
    · have hqw := hq.below hb
      obtain ⟨b, o, rfl, hcell⟩ := hqw (by omega)
      obtain ⟨f, hf⟩ : ∃ f, gs[k]? = some f := ⟨_, List.getElem?_eq_getElem hlt⟩
      obtain ⟨c1, c2⟩ := hcell k f hf
      obtain ⟨l1, l2⟩ := hfit.out f (List.mem_of_getElem? hf)
      have hdn := drop_next hf hlt
      have HDN := Lib.hid hdn
      clear hf hcell hqw hdn
      have b1 := one_below wr (.cells #[.string ⟨f.1.toArray⟩, .string ⟨f.2.toArray⟩] 25)
      have hrx := HO.out.rd.below b1
      have HRX := Lib.hid hrx
      clear hrx
      by_cases he : putE xs f = 0
      · have HE := Lib.hid he
        have hpr := putR_yes he
        have hgo := mrg_go (r := gs.drop (k + 1)) he
        have hput := put_any C cc xs f _ HRX.out hxl q1 q2 HS l1 l2
        rw [he, hpr] at hput
        have hgp := putL_good HG.out he
        generalize putL xs f = ps at hput hgo hgp
        have HP := Lib.hid hput
        have HGO := Lib.hid hgo
        have HGP := Lib.hid hgp
        clear he hpr hput hgo hgp
        go_wp2_with fail
        refine HP.out.mono ?_
        rintro e w2 ⟨A2, c2, rfl, ho2, hb2⟩
        go_wp2
        go_roundw
        case rel => exact ⟨k + 1, A2, c2, ps, by omega, by go_num, rfl, HGP.out, by rw [← HGO.out.1, ← HDN.out]; exact M1.out, by rw [← HGO.out.2, ← HDN.out]; exact M2.out, ho2.mono (by have := hb.size; simp; omega), bch hb (bch b1 hb2)⟩
        case measure => simp [intOf]; omega
      · have hst := mrg_stop (r := gs.drop (k + 1)) he
        have hput := put_any C cc xs f _ HRX.out hxl q1 q2 HS l1 l2
        have q : (putE xs f != 0) = true := by simpa using he
        rw [putR_no he] at hput
        have HP := Lib.hid hput
        have HST := Lib.hid hst
        clear he hput hst
        go_wp2_with fail
        refine HP.out.mono ?_
        rintro e w2 ⟨A2, c2, rfl, ho2, hb2⟩
        go_wp2
        go_ret2
        have m1 := M1.out
        have m2 := M2.out
        rw [HDN.out, HST.out.1] at m1
        rw [HDN.out, HST.out.2] at m2
        rw [← m1, ← m2]
        exact ⟨none, 0, rfl, World.ownsRow_nil _ _ _ _, bch hb (bch b1 hb2)⟩
    · go_wp2
      go_ret2
      have m1 := M1.out
      have m2 := M2.out
      rw [List.drop_of_length_le (by omega)] at m1 m2
      rw [← m1, ← m2]
      exact ⟨C, cc, rfl, HO.out, hb⟩

/-- A list that reads so, wherever it lies. -/
def Got2 (w : World) (fs : List Fl) (v : Value) (e : Ending) (w' : World) : Prop := ∃ A c, e = .returned (.tuple #[.slice A fs.length c, v]) ∧ Rd w' A fs ∧ Below w.heap.size w w'

set_option maxRecDepth 100000 in
set_option maxHeartbeats 2000000 in
theorem rmerge_any (A B : Option Addr) (c d : Nat) (fs gs : List Fl) (w : World) (hr : Rd w A fs) (hq : Rd w B gs) (hgood : Hid (Good fs)) (hfit : Hid (Fit gs)) (_hl : fs.length ≤ 32) (hg : gs.length ≤ 1000) :
    Calls Try.prog 24 #[.slice A fs.length c, .slice B gs.length d] w (Got2 w (mrgL fs gs) (.int .i64 (mrgE fs gs))) := by
  go_enter Try.func24, Try.ntmps24
  go_wp2_with fail
  go_loopw [0, 6] (fun v i wr => ∃ (k : Nat) (C : Option Addr) (cc : Nat) (xs : List Fl), k ≤ gs.length ∧ i = .int .i64 k ∧ v = .slice C xs.length cc ∧ Good xs ∧ mrgL xs (gs.drop k) = mrgL fs gs ∧ mrgE xs (gs.drop k) = mrgE fs gs ∧ Rd wr C xs ∧ Below w.heap.size w wr) (fun _ i _ => gs.length - (intOf i).toNat)
  case atStart => exact ⟨0, A, c, fs, Nat.zero_le _, rfl, rfl, hgood.out, rfl, rfl, hr, Below.refl _ _⟩
  case round =>
    obtain ⟨k, C, cc, xs, hk, rfl, rfl, hgx, hm1, hm2, hrd, hb⟩ := hrel
    have HG := Lib.hid hgx
    have M1 := Lib.hid hm1
    have M2 := Lib.hid hm2
    have HRX := Lib.hid hrd
    have hxl := hgx.2.1
    clear hgx hm1 hm2 hrd
    by_cases hlt : k < gs.length
    · have hqw := hq.below hb
      obtain ⟨b, o, rfl, hcell⟩ := hqw (by omega)
      obtain ⟨f, hf⟩ : ∃ f, gs[k]? = some f := ⟨_, List.getElem?_eq_getElem hlt⟩
      obtain ⟨c1, c2⟩ := hcell k f hf
      obtain ⟨l1, l2⟩ := hfit.out f (List.mem_of_getElem? hf)
      have hdn := drop_next hf hlt
      have HDN := Lib.hid hdn
      clear hf hcell hqw hdn
      by_cases he : putE xs f = 0
      · have HE := Lib.hid he
        have hpr := putR_yes he
        have hgo := mrg_go (r := gs.drop (k + 1)) he
        have hput := rput_any C cc xs f _ HRX.out hxl l1 l2
        rw [he, hpr] at hput
        have hgp := putL_good HG.out he
        generalize putL xs f = ps at hput hgo hgp
        have HP := Lib.hid hput
        have HGO := Lib.hid hgo
        have HGP := Lib.hid hgp
        clear he hpr hput hgo hgp
        go_wp2_with fail
        refine HP.out.mono ?_
        rintro e w2 ⟨A2, c2, rfl, ho2, hb2⟩
        go_wp2
        go_roundw
        case rel => exact ⟨k + 1, A2, c2, ps, by omega, by go_num, rfl, HGP.out, by rw [← HGO.out.1, ← HDN.out]; exact M1.out, by rw [← HGO.out.2, ← HDN.out]; exact M2.out, ho2.rd, bch hb hb2⟩
        case measure => simp [intOf]; omega
      · have hst := mrg_stop (r := gs.drop (k + 1)) he
        have hput := rput_any C cc xs f _ HRX.out hxl l1 l2
        have q : (putE xs f != 0) = true := by simpa using he
        rw [putR_no he] at hput
        have HP := Lib.hid hput
        have HST := Lib.hid hst
        clear he hput hst
        go_wp2_with fail
        refine HP.out.mono ?_
        rintro e w2 ⟨A2, c2, rfl, ho2, hb2⟩
        go_wp2
        go_ret2
        have m1 := M1.out
        have m2 := M2.out
        rw [HDN.out, HST.out.1] at m1
        rw [HDN.out, HST.out.2] at m2
        rw [← m1, ← m2]
        exact ⟨none, 0, rfl, Rd.empty _ _, bch hb hb2⟩
    · go_wp2
      go_ret2
      have m1 := M1.out
      have m2 := M2.out
      rw [List.drop_of_length_le (by omega)] at m1 m2
      rw [← m1, ← m2]
      exact ⟨C, cc, rfl, HRX.out, hb⟩
end Go.Proofs.Ytdaekfigpkogbaa

/-
  Contracts of files.Get, files.Drop and files.Put over maps: as the plain functions say; lists of the call's own; old memory stays.
-/
import Derived.Test.YtdaekfigpkogbaaH
import Derived.StillTailTactics
namespace Go.Proofs.Ytdaekfigpkogbaa
open Go.RowKit

def Res2 (w : World) (fs : List Fl) (v : Value) (e : Ending) (w' : World) : Prop := ∃ A c, e = .returned (.tuple #[.slice A fs.length c, v]) ∧ Own w' w.heap.size A c fs ∧ Below w.heap.size w w'
theorem Res2.from {w w1 : World} {fs : List Fl} {v : Value} {e : Ending} {w' : World} (h : Res2 w1 fs v e w') (hb : Below w.heap.size w w1) : Res2 w fs v e w' := by
  obtain ⟨A, c, he, ho, hb1⟩ := h
  exact ⟨A, c, he, ho.mono hb.size, bch hb hb1⟩
theorem below_drew (w : World) : Below w.heap.size w w.drew := ⟨rfl, rfl, rfl, Nat.le_refl _, fun _ _ => rfl⟩

theorem get_yes {fs : List Fl} {n : List UInt8} {f : Fl} (hs : Sorted fs) (h : hasL fs n = true) (hf : fs[plc fs n]? = some f) : f.1 = n ∧ txtL fs n = f.2 := by
  have hk : plc fs n < fs.length := by
    rcases Nat.lt_or_ge (plc fs n) fs.length with q | q
    · exact q
    · rw [List.getElem?_eq_none q] at hf; cases hf
  have e := get_of hf hk
  have h1 := hasL_plc hs hk
  rw [h, e] at h1
  have h2 : f.1 = n := by simpa using h1.symm
  refine ⟨h2, ?_⟩
  unfold txtL
  rw [getL_plc hs hk (by rw [e]; exact h2), e]; rfl
theorem has_lt {fs : List Fl} {n : List UInt8} (h : hasL fs n = true) : plc fs n < fs.length := by
  rcases Nat.lt_or_ge (plc fs n) fs.length with q | q
  · exact q
  · rw [hasL_plc_end (Nat.le_antisymm (plc_le fs n) q)] at h; cases h
theorem txt_no {fs : List Fl} {n : List UInt8} (h : hasL fs n = false) : txtL fs n = [] := by
  rw [hasL_get] at h
  unfold txtL
  cases k : getL fs n with
  | none => rfl
  | some t => rw [k] at h; cases h

set_option maxHeartbeats 1000000 in
theorem get_any (A : Option Addr) (c : Nat) (fs : List Fl) (n : List UInt8) (w : World) (hr : Rd w A fs) (hc : fs.length ≤ 100000) (hs : Hid (Sorted fs)) :
    Calls Try.prog 10 #[.slice A fs.length c, .string ⟨n.toArray⟩] w fun e w' => e = .returned (.tuple #[.string ⟨(txtL fs n).toArray⟩, .bool (hasL fs n)]) ∧ Below w.heap.size w w' := by
  have HC := Lib.hid (find_any A c fs n w hr hc hs)
  cases hh : hasL fs n
  · have HH := Lib.hid hh
    clear hh
    go_enter Try.func10, Try.ntmps10
    go_wp2_with fail
    refine HC.out.mono ?_
    rw [HH.out]
    rintro e w1 ⟨rfl, hb⟩
    go_wp2
    go_ret2
    exact ⟨ret_two (str_eq (txt_no HH.out).symm) rfl, hb⟩
  · have hlt := has_lt hh
    obtain ⟨f, hf⟩ : ∃ f, fs[plc fs n]? = some f := ⟨_, List.getElem?_eq_getElem hlt⟩
    have HT := Lib.hid (get_yes hs.out hh hf).2
    have HH := Lib.hid hh
    have HF := Lib.hid hf
    clear hh hf
    obtain ⟨k, hk⟩ : ∃ k, k = plc fs n := ⟨_, rfl⟩
    rw [← hk] at HC HF hlt
    clear hk
    obtain ⟨b, o, rfl, hcell⟩ := hr (by omega)
    have c2 := (hcell k f HF.out).2
    clear hcell hr
    have i1 : (k : Int) < (fs.length : Int) := by omega
    go_enter Try.func10, Try.ntmps10
    go_wp2_with fail
    refine HC.out.mono ?_
    rw [HH.out]
    rintro e w1 ⟨rfl, hb⟩
    have c3 := cell_below hb c2
    go_wp2
    go_ret2
    exact ⟨ret_two (str_eq HT.out.symm) rfl, hb⟩

/-- The two cuts of a slice. -/
theorem elem22 : Try.prog.elem 22 = 25 := by kernel_rfl
theorem size25 (w : World) : (sizeOf 25).run Try.prog w = .ok 2 w := by
  obtain ⟨i0, hi, hz0, hz1, hz2⟩ := info_parts Try.info25
  simp [sizeOf, typeInfo, hi, hz1]
theorem cut_to (A : Option Addr) (n c k : Nat) (hk : k ≤ c) (w : World) : (Instr.slice 22 (.slice A n c) none (some (.int .i64 k)) none).run Try.prog w = .ok (.slice A k c) w := by
  rw [run_slice_h (P := Try.prog) w 22 A n c (by kernel_rfl) .i64 k (by omega) (by omega), elem22, size25]
  simp [sliced, Result.andThen]
  cases A <;> simp [Addr.add]
theorem cut_from (A : Option Addr) (n c k : Nat) (hk : k ≤ n) (w : World) : (Instr.slice 22 (.slice A n c) (some (.int .i64 k)) none none).run Try.prog w = .ok (.slice (cutA A c k) (n - k) (c - k)) w := by
  rw [run_slice_l (P := Try.prog) w 22 A n c (by kernel_rfl) .i64 k (by omega) (by omega), elem22, size25]
  simp [sliced, Result.andThen, cutA]

theorem drop_world (A B : Option Addr) (c d e : Nat) (fs gs : List Fl) (w : World) (hr : Rd w A fs) (hq : Rd w B gs) (hc : fs.length + gs.length ≤ 1000) :
    Calls Try.prog 33 #[.slice (some ⟨w.heap.size, 0, none⟩) 2 2] (w.alloc (.cells #[.slice A fs.length c, .slice B gs.length d] e)) (Res w (fs ++ gs)) := by
  have b1 := one_below w (.cells #[.slice A fs.length c, .slice B gs.length d] e)
  have hp := two_read (w := w.alloc (.cells #[.slice A fs.length c, .slice B gs.length d] e)) (b := w.heap.size) (c1 := c) (c2 := d) (new_fst _ _ _ _) (new_snd _ _ _ _) (hr.below b1) (hq.below b1)
  have h := concat_any w.heap.size 2 _ _ hp (by simp) (by rw [cat2]; simp; omega)
  rw [cat2] at h
  exact h.mono fun _ _ hh => hh.from b1

set_option maxRecDepth 100000 in
set_option maxHeartbeats 1000000 in
theorem drop_any (A : Option Addr) (c : Nat) (fs : List Fl) (n : List UInt8) (w : World) (hr : Rd w A fs) (hc : fs.length ≤ 32) (hcap : fs.length ≤ c) (hc63 : c ≤ 9223372036854775807) (hs : Hid (Sorted fs)) :
    Calls Try.prog 14 #[.slice A fs.length c, .string ⟨n.toArray⟩] w (Res2 w (dropL fs n) (.bool (hasL fs n))) := by
  have HC := Lib.hid (find_any A c fs n w hr (by omega) hs)
  cases hh : hasL fs n
  · have hd := dropL_none hh
    have HH := Lib.hid hh
    have HF := Lib.hid (fun w' hr' => fresh_any A c fs w' hr' (by omega))
    clear hh
    rw [hd]
    clear hd
    go_enter Try.func14, Try.ntmps14
    go_wp2_with fail
    refine HC.out.mono ?_
    rw [HH.out]
    rintro e w1 ⟨rfl, hb⟩
    have hr1 := hr.below hb
    go_wp2_with fail
    refine (HF.out _ hr1).mono ?_
    rintro e w2 ⟨A2, c2, rfl, ho, hb2⟩
    go_wp2
    go_ret2
    exact ⟨A2, c2, rfl, ho.mono hb.size, bch hb hb2⟩
  · have hlt := has_lt hh
    obtain ⟨f, hf⟩ : ∃ f, fs[plc fs n]? = some f := ⟨_, List.getElem?_eq_getElem hlt⟩
    have hy := (get_yes hs.out hh hf).1
    have hd := dropL_has hs.out hlt (by rw [get_of hf hlt]; exact hy)
    rw [hd]
    have HH := Lib.hid hh
    clear hh hf hy hd
    obtain ⟨k, hk⟩ : ∃ k, k = plc fs n := ⟨_, rfl⟩
    rw [← hk] at HC hlt ⊢
    clear hk
    have hra := fun (w' : World) (h : Rd w' A fs) => Rd.take h k
    have hrb := fun (w' : World) (h : Rd w' A fs) => Rd.cut h (k := k + 1) (c := c) (by omega) hcap
    have hl1 : (fs.take k).length = k := by simp; omega
    have hl2 : (fs.drop (k + 1)).length = fs.length - (k + 1) := by simp
    generalize fs.take k = xs at hra hl1 ⊢
    generalize fs.drop (k + 1) = ys at hrb hl2 ⊢
    subst hl1
    have e1 := cut_to A fs.length c xs.length (by omega)
    have e2 := cut_from A fs.length c (xs.length + 1) (by omega)
    rw [← hl2] at e2
    have ec : ((xs.length + 1 : Nat) : Int) = (xs.length : Int) + 1 := by omega
    rw [ec] at e2
    have hly : xs.length + ys.length ≤ 1000 := by omega
    have HL := Lib.hid hl2
    have HR := Lib.hid hr
    have HA := Lib.hid hra
    have HB := Lib.hid hrb
    clear hl2 hr hra hrb ec
    generalize cutA A c (xs.length + 1) = B at e2 HB
    have HW := Lib.hid (fun (w' : World) (h : Rd w' A fs) => drop_world A B c (c - (xs.length + 1)) 22 xs ys w' (HA.out w' h) (HB.out w' h) hly)
    clear HA HB
    obtain ⟨r, hr0⟩ : ∃ r, r = xs ++ ys := ⟨_, rfl⟩
    rw [← hr0] at HW ⊢
    clear hr0
    generalize c - (xs.length + 1) = d at e2 HW
    have i1 : (xs.length : Int) ≤ (c : Int) := by omega
    have i2 : (xs.length : Int) + 1 ≤ (fs.length : Int) := by omega
    have i3 : (0 : Int) ≤ (xs.length : Int) + 1 := by omega
    go_enter Try.func14, Try.ntmps14
    go_wp2_with fail
    refine HC.out.mono ?_
    rw [HH.out]
    rintro e w1 ⟨rfl, hb⟩
    go_wp2_with fail
    have f0 : IntKind.i64.wrap ((xs.length : Int) + 1) = (xs.length : Int) + 1 := IntWalk.i64_in _ (by omega)
    go_still_tail 7, (by kernel_rfl)
    change wpList _ _ _ _ _ w1.drew
    have hr1 := HR.out.below (bch hb (below_drew w1))
    have hb1 := bch hb (below_drew w1)
    generalize w1.drew = w2 at hr1 hb1 ⊢
    clear f0
    go_wp2_with fail
    refine (HW.out w2 hr1).mono ?_
    rintro e w3 ⟨A2, c2, rfl, ho, hb2⟩
    go_wp2
    go_ret2
    exact ⟨A2, c2, rfl, ho.mono hb1.size, bch hb1 hb2⟩
end Go.Proofs.Ytdaekfigpkogbaa

/-
  The contract of the document's answer's Diff: the names that differ, as the plain function says.
-/
import Derived.Test.YtdaekfigpkogbaaN
namespace Go.Proofs.Ytdaekfigpkogbaa
open Go.RowKit

theorem own_emptyS (w : World) : OwnS (w.alloc (.cells #[] 9)) w.heap.size (some ⟨w.heap.size, 0, none⟩) 0 [] := World.ownsRow_lit w #[] 0 (Nat.le_refl _) (by unfold maxLen; omega) (by simp)
theorem diff_anil (b : List Fl) (y : Fl) : diffL [] (y :: b) = y.1 :: diffL [] b := by simp [diffL]
theorem diff_bnil (a : List Fl) (x : Fl) : diffL (x :: a) [] = x.1 :: diffL a [] := by cases a <;> simp [diffL]

set_option maxRecDepth 100000 in
set_option maxHeartbeats 8000000 in
theorem rdiff_any (A B : Option Addr) (c d : Nat) (fs gs : List Fl) (w : World) (hr : Rd w A fs) (hq : Rd w B gs) (hl : fs.length ≤ 100) (hg : gs.length ≤ 100) :
    Calls Try.prog 27 #[.slice A fs.length c, .slice B gs.length d] w (DiffRes w (diffL fs gs)) := by
  have ho0 := own_emptyS w
  have hb0 := one_below w (.cells #[] 9)
  go_enter Try.func27, Try.ntmps27
  go_wp2_with fail
  go_loopw [5, 6, 7] (fun vn vi vk wr => ∃ (i k : Nat) (N : Option Addr) (nc : Nat) (xs : List (List UInt8)), i ≤ fs.length ∧ k ≤ gs.length ∧ vi = .int .i64 i ∧ vk = .int .i64 k ∧ vn = .slice N xs.length nc ∧ xs ++ diffL (fs.drop i) (gs.drop k) = diffL fs gs ∧ xs.length ≤ i + k ∧ OwnS wr w.heap.size N nc xs ∧ Below w.heap.size w wr)
    (fun _ vi vk _ => (fs.length - (intOf vi).toNat) + (gs.length - (intOf vk).toNat))
  case atStart => exact ⟨0, 0, _, 0, [], Nat.zero_le _, Nat.zero_le _, rfl, rfl, rfl, rfl, by simp, ho0, hb0⟩
  case round =>
    clear ho0 hb0
    obtain ⟨i, k, N, nc, xs, hi, hk, rfl, rfl, rfl, hx, hxl, hown, hb⟩ := hrel
    have HX := Lib.hid hx
    have hra := hr.below hb
    have hrb := hq.below hb
    clear hx
    by_cases hia : i < fs.length
    · by_cases hkb : k < gs.length
      · have _t : True := trivial
        obtain ⟨b1, o1, rfl, hca⟩ := hra (by omega)
        obtain ⟨f, hf⟩ : ∃ f, fs[i]? = some f := ⟨_, List.getElem?_eq_getElem hia⟩
        obtain ⟨c1, c2⟩ := hca i f hf
        have HDA := Lib.hid (drop_next hf hia)
        clear hf hca
        have i1 : (i : Int) < (fs.length : Int) := by omega
        obtain ⟨b2, o2, rfl, hcb⟩ := hrb (by omega)
        obtain ⟨g, hgk⟩ : ∃ g, gs[k]? = some g := ⟨_, List.getElem?_eq_getElem hkb⟩
        obtain ⟨d1, d2⟩ := hcb k g hgk
        have HDB := Lib.hid (drop_next hgk hkb)
        clear hgk hcb
        have i2 : (k : Int) < (gs.length : Int) := by omega
        have q0 : ((k : Int) == (gs.length : Int)) = false := by rw [beq_eq_false_iff_ne]; omega
        rcases bl_tri f.1 g.1 with k1 | k1 | k1
        · have _t : True := trivial
          have HDD := Lib.hid (show diffL (fs.drop i) (gs.drop k) = f.1 :: diffL (fs.drop (i + 1)) (gs.drop k) by rw [HDA.out, HDB.out]; exact diff_x k1)
          obtain ⟨r, hr0⟩ : ∃ r, xs ++ [f.1] = r := ⟨_, rfl⟩
          have RL := Lib.hid (show r.length = xs.length + 1 by rw [← hr0]; simp)
          have R := Lib.hid hr0
          clear hr0
          go_wp2_with fail
          go_quiet (fail)
          replace hb := bch hb (drewN_below wr nq)
          replace hown := hown.below (drewN_below wr nq)
          have c1' : (wr.drewN nq).cell? ⟨b1, o1 + i * 2, none⟩ = _ := c1
          have c2' : (wr.drewN nq).cell? ⟨b1, o1 + i * 2 + 1, none⟩ = _ := c2
          generalize wr.drewN nq = wq at hb hown c1' c2' ⊢
          clear nq c1 c2
          have c1 := c1'
          clear c1'
          have c2 := c2'
          clear c2'
          go_wp2_with (at_builtin; refine wpList_append_s _ rfl _ _ rfl w.heap.size _ xs rfl (hown.alloc _) wq.heap.size f.1 rfl (by rw [World.cell?_alloc_new]; rfl) (by omega) (by have := hb.size; simp; omega) r R.out ?_; intro N2 nc2 w2 hown2 hb2 hg2)
          go_roundw
          case rel => exact ⟨i + 1, k, N2, nc2, r, by omega, by omega, by go_num, rfl, rfl, rest_one (by rw [← HDD.out]; exact HX.out) R.out, by have := RL.out; omega, hown2, (hb.alloc hb.size _).trans hb2⟩
          case measure => simp [intOf]; omega
        · have _t : True := trivial
          have q1 : Op.bytesLess f.1 g.1 = false := by rw [k1, bl_irrefl]
          have q2 : Op.bytesLess g.1 f.1 = false := by rw [k1, bl_irrefl]
          have q3 : ((i : Int) == (fs.length : Int)) = false := by rw [beq_eq_false_iff_ne]; omega
          by_cases k2 : f.2 = g.2
          · have _t : True := trivial
            have HDD := Lib.hid (show diffL (fs.drop i) (gs.drop k) = diffL (fs.drop (i + 1)) (gs.drop (k + 1)) by rw [HDA.out, HDB.out]; exact diff_e k1 k2)
            have q4 : (f.2 == g.2) = true := by simpa using k2
            clear k1 k2
            go_wp2_with fail
            go_quiet (fail)
            replace hb := bch hb (drewN_below wr nq)
            replace hown := hown.below (drewN_below wr nq)
            have c1' : (wr.drewN nq).cell? ⟨b1, o1 + i * 2, none⟩ = _ := c1
            have c2' : (wr.drewN nq).cell? ⟨b1, o1 + i * 2 + 1, none⟩ = _ := c2
            have d1' : (wr.drewN nq).cell? ⟨b2, o2 + k * 2, none⟩ = _ := d1
            have d2' : (wr.drewN nq).cell? ⟨b2, o2 + k * 2 + 1, none⟩ = _ := d2
            generalize wr.drewN nq = wq at hb hown c1' c2' d1' d2' ⊢
            clear nq c1 c2 d1 d2
            have c1 := c1'
            clear c1'
            have c2 := c2'
            clear c2'
            have d1 := d1'
            clear d1'
            have d2 := d2'
            clear d2'
            go_wp2_with fail
            go_quiet (fail)
            replace hb := bch hb (drewN_below wq nq)
            replace hown := hown.below (drewN_below wq nq)
            have c1' : (wq.drewN nq).cell? ⟨b1, o1 + i * 2, none⟩ = _ := c1
            have c2' : (wq.drewN nq).cell? ⟨b1, o1 + i * 2 + 1, none⟩ = _ := c2
            have d1' : (wq.drewN nq).cell? ⟨b2, o2 + k * 2, none⟩ = _ := d1
            have d2' : (wq.drewN nq).cell? ⟨b2, o2 + k * 2 + 1, none⟩ = _ := d2
            generalize wq.drewN nq = wv at hb hown c1' c2' d1' d2' ⊢
            clear nq c1 c2 d1 d2
            have c1 := c1'
            clear c1'
            have c2 := c2'
            clear c2'
            have d1 := d1'
            clear d1'
            have d2 := d2'
            clear d2'
            go_wp2_with fail
            go_quiet (fail)
            replace hb := bch hb (drewN_below wv nq)
            replace hown := hown.below (drewN_below wv nq)
            have c1' : (wv.drewN nq).cell? ⟨b1, o1 + i * 2, none⟩ = _ := c1
            have c2' : (wv.drewN nq).cell? ⟨b1, o1 + i * 2 + 1, none⟩ = _ := c2
            have d1' : (wv.drewN nq).cell? ⟨b2, o2 + k * 2, none⟩ = _ := d1
            have d2' : (wv.drewN nq).cell? ⟨b2, o2 + k * 2 + 1, none⟩ = _ := d2
            generalize wv.drewN nq = wu at hb hown c1' c2' d1' d2' ⊢
            clear nq c1 c2 d1 d2
            have c1 := c1'
            clear c1'
            have c2 := c2'
            clear c2'
            have d1 := d1'
            clear d1'
            have d2 := d2'
            clear d2'
            go_wp2
            go_roundw
            case rel => exact ⟨i + 1, k + 1, N, nc, xs, by omega, by omega, by go_num, by go_num, rfl, by rw [← HDD.out]; exact HX.out, by omega, hown, hb⟩
            case measure => simp [intOf]; omega
          · have _t : True := trivial
            have HDD := Lib.hid (show diffL (fs.drop i) (gs.drop k) = f.1 :: diffL (fs.drop (i + 1)) (gs.drop (k + 1)) by rw [HDA.out, HDB.out]; exact diff_n k1 k2)
            have q4 : (f.2 == g.2) = false := by simpa using k2
            clear k1 k2
            obtain ⟨r, hr0⟩ : ∃ r, xs ++ [f.1] = r := ⟨_, rfl⟩
            have RL := Lib.hid (show r.length = xs.length + 1 by rw [← hr0]; simp)
            have R := Lib.hid hr0
            clear hr0
            go_wp2_with fail
            go_quiet (fail)
            replace hb := bch hb (drewN_below wr nq)
            replace hown := hown.below (drewN_below wr nq)
            have c1' : (wr.drewN nq).cell? ⟨b1, o1 + i * 2, none⟩ = _ := c1
            have c2' : (wr.drewN nq).cell? ⟨b1, o1 + i * 2 + 1, none⟩ = _ := c2
            have d1' : (wr.drewN nq).cell? ⟨b2, o2 + k * 2, none⟩ = _ := d1
            have d2' : (wr.drewN nq).cell? ⟨b2, o2 + k * 2 + 1, none⟩ = _ := d2
            generalize wr.drewN nq = wq at hb hown c1' c2' d1' d2' ⊢
            clear nq c1 c2 d1 d2
            have c1 := c1'
            clear c1'
            have c2 := c2'
            clear c2'
            have d1 := d1'
            clear d1'
            have d2 := d2'
            clear d2'
            go_wp2_with fail
            go_quiet (fail)
            replace hb := bch hb (drewN_below wq nq)
            replace hown := hown.below (drewN_below wq nq)
            have c1' : (wq.drewN nq).cell? ⟨b1, o1 + i * 2, none⟩ = _ := c1
            have c2' : (wq.drewN nq).cell? ⟨b1, o1 + i * 2 + 1, none⟩ = _ := c2
            have d1' : (wq.drewN nq).cell? ⟨b2, o2 + k * 2, none⟩ = _ := d1
            have d2' : (wq.drewN nq).cell? ⟨b2, o2 + k * 2 + 1, none⟩ = _ := d2
            generalize wq.drewN nq = wv at hb hown c1' c2' d1' d2' ⊢
            clear nq c1 c2 d1 d2
            have c1 := c1'
            clear c1'
            have c2 := c2'
            clear c2'
            have d1 := d1'
            clear d1'
            have d2 := d2'
            clear d2'
            go_wp2_with fail
            go_quiet (fail)
            replace hb := bch hb (drewN_below wv nq)
            replace hown := hown.below (drewN_below wv nq)
            have c1' : (wv.drewN nq).cell? ⟨b1, o1 + i * 2, none⟩ = _ := c1
            have c2' : (wv.drewN nq).cell? ⟨b1, o1 + i * 2 + 1, none⟩ = _ := c2
            have d1' : (wv.drewN nq).cell? ⟨b2, o2 + k * 2, none⟩ = _ := d1
            have d2' : (wv.drewN nq).cell? ⟨b2, o2 + k * 2 + 1, none⟩ = _ := d2
            generalize wv.drewN nq = wu at hb hown c1' c2' d1' d2' ⊢
            clear nq c1 c2 d1 d2
            have c1 := c1'
            clear c1'
            have c2 := c2'
            clear c2'
            have d1 := d1'
            clear d1'
            have d2 := d2'
            clear d2'
            go_wp2_with (at_builtin; refine wpList_append_s _ rfl _ _ rfl w.heap.size _ xs rfl (hown.alloc _) wu.heap.size f.1 rfl (by rw [World.cell?_alloc_new]; rfl) (by omega) (by have := hb.size; simp; omega) r R.out ?_; intro N2 nc2 w2 hown2 hb2 hg2)
            go_roundw
            case rel => exact ⟨i + 1, k + 1, N2, nc2, r, by omega, by omega, by go_num, by go_num, rfl, rest_one (by rw [← HDD.out]; exact HX.out) R.out, by have := RL.out; omega, hown2, (hb.alloc hb.size _).trans hb2⟩
            case measure => simp [intOf]; omega
        · have _t : True := trivial
          have HDD := Lib.hid (show diffL (fs.drop i) (gs.drop k) = g.1 :: diffL (fs.drop i) (gs.drop (k + 1)) by rw [HDA.out, HDB.out]; exact diff_y k1)
          have q2 : Op.bytesLess f.1 g.1 = false := bl_asymm k1
          have q3 : ((i : Int) == (fs.length : Int)) = false := by rw [beq_eq_false_iff_ne]; omega
          obtain ⟨r, hr0⟩ : ∃ r, xs ++ [g.1] = r := ⟨_, rfl⟩
          have RL := Lib.hid (show r.length = xs.length + 1 by rw [← hr0]; simp)
          have R := Lib.hid hr0
          clear hr0
          go_wp2_with fail
          go_quiet (fail)
          replace hb := bch hb (drewN_below wr nq)
          replace hown := hown.below (drewN_below wr nq)
          have c1' : (wr.drewN nq).cell? ⟨b1, o1 + i * 2, none⟩ = _ := c1
          have c2' : (wr.drewN nq).cell? ⟨b1, o1 + i * 2 + 1, none⟩ = _ := c2
          have d1' : (wr.drewN nq).cell? ⟨b2, o2 + k * 2, none⟩ = _ := d1
          have d2' : (wr.drewN nq).cell? ⟨b2, o2 + k * 2 + 1, none⟩ = _ := d2
          generalize wr.drewN nq = wq at hb hown c1' c2' d1' d2' ⊢
          clear nq c1 c2 d1 d2
          have c1 := c1'
          clear c1'
          have c2 := c2'
          clear c2'
          have d1 := d1'
          clear d1'
          have d2 := d2'
          clear d2'
          go_wp2_with fail
          go_quiet (fail)
          replace hb := bch hb (drewN_below wq nq)
          replace hown := hown.below (drewN_below wq nq)
          have c1' : (wq.drewN nq).cell? ⟨b1, o1 + i * 2, none⟩ = _ := c1
          have c2' : (wq.drewN nq).cell? ⟨b1, o1 + i * 2 + 1, none⟩ = _ := c2
          have d1' : (wq.drewN nq).cell? ⟨b2, o2 + k * 2, none⟩ = _ := d1
          have d2' : (wq.drewN nq).cell? ⟨b2, o2 + k * 2 + 1, none⟩ = _ := d2
          generalize wq.drewN nq = wv at hb hown c1' c2' d1' d2' ⊢
          clear nq c1 c2 d1 d2
          have c1 := c1'
          clear c1'
          have c2 := c2'
          clear c2'
          have d1 := d1'
          clear d1'
          have d2 := d2'
          clear d2'
          go_wp2_with (at_builtin; refine wpList_append_s _ rfl _ _ rfl w.heap.size _ xs rfl (hown.alloc _) wv.heap.size g.1 rfl (by rw [World.cell?_alloc_new]; rfl) (by omega) (by have := hb.size; simp; omega) r R.out ?_; intro N2 nc2 w2 hown2 hb2 hg2)
          go_roundw
          case rel => exact ⟨i, k + 1, N2, nc2, r, by omega, by omega, rfl, by go_num, rfl, rest_one (by rw [← HDD.out]; exact HX.out) R.out, by have := RL.out; omega, hown2, (hb.alloc hb.size _).trans hb2⟩
          case measure => simp [intOf]; omega
      · have _t : True := trivial
        obtain ⟨b1, o1, rfl, hca⟩ := hra (by omega)
        obtain ⟨f, hf⟩ : ∃ f, fs[i]? = some f := ⟨_, List.getElem?_eq_getElem hia⟩
        obtain ⟨c1, c2⟩ := hca i f hf
        have HDA := Lib.hid (drop_next hf hia)
        clear hf hca
        have i1 : (i : Int) < (fs.length : Int) := by omega
        have HDD := Lib.hid (show diffL (fs.drop i) (gs.drop k) = f.1 :: diffL (fs.drop (i + 1)) (gs.drop k) by rw [HDA.out, List.drop_of_length_le (show gs.length ≤ k by omega)]; exact diff_bnil _ _)
        have q0 : ((k : Int) == (gs.length : Int)) = true := by rw [beq_iff_eq]; omega
        obtain ⟨r, hr0⟩ : ∃ r, xs ++ [f.1] = r := ⟨_, rfl⟩
        have RL := Lib.hid (show r.length = xs.length + 1 by rw [← hr0]; simp)
        have R := Lib.hid hr0
        clear hr0
        go_wp2_with fail
        go_quiet (fail)
        replace hb := bch hb (drewN_below wr nq)
        replace hown := hown.below (drewN_below wr nq)
        have c1' : (wr.drewN nq).cell? ⟨b1, o1 + i * 2, none⟩ = _ := c1
        have c2' : (wr.drewN nq).cell? ⟨b1, o1 + i * 2 + 1, none⟩ = _ := c2
        generalize wr.drewN nq = wq at hb hown c1' c2' ⊢
        clear nq c1 c2
        have c1 := c1'
        clear c1'
        have c2 := c2'
        clear c2'
        go_wp2_with (at_builtin; refine wpList_append_s _ rfl _ _ rfl w.heap.size _ xs rfl (hown.alloc _) wq.heap.size f.1 rfl (by rw [World.cell?_alloc_new]; rfl) (by omega) (by have := hb.size; simp; omega) r R.out ?_; intro N2 nc2 w2 hown2 hb2 hg2)
        go_roundw
        case rel => exact ⟨i + 1, k, N2, nc2, r, by omega, by omega, by go_num, rfl, rfl, rest_one (by rw [← HDD.out]; exact HX.out) R.out, by have := RL.out; omega, hown2, (hb.alloc hb.size _).trans hb2⟩
        case measure => simp [intOf]; omega
    · by_cases hkb : k < gs.length
      · have _t : True := trivial
        obtain ⟨b2, o2, rfl, hcb⟩ := hrb (by omega)
        obtain ⟨g, hgk⟩ : ∃ g, gs[k]? = some g := ⟨_, List.getElem?_eq_getElem hkb⟩
        obtain ⟨d1, d2⟩ := hcb k g hgk
        have HDB := Lib.hid (drop_next hgk hkb)
        clear hgk hcb
        have i2 : (k : Int) < (gs.length : Int) := by omega
        have q0 : ((k : Int) == (gs.length : Int)) = false := by rw [beq_eq_false_iff_ne]; omega
        have HDD := Lib.hid (show diffL (fs.drop i) (gs.drop k) = g.1 :: diffL (fs.drop i) (gs.drop (k + 1)) by rw [HDB.out, List.drop_of_length_le (show fs.length ≤ i by omega)]; exact diff_anil _ _)
        have q3 : ((i : Int) == (fs.length : Int)) = true := by rw [beq_iff_eq]; omega
        have q5 : decide (i < fs.length) = false := decide_eq_false hia
        have q6 : decide ((i : Int) < (fs.length : Int)) = false := decide_eq_false (by omega)
        obtain ⟨r, hr0⟩ : ∃ r, xs ++ [g.1] = r := ⟨_, rfl⟩
        have RL := Lib.hid (show r.length = xs.length + 1 by rw [← hr0]; simp)
        have R := Lib.hid hr0
        clear hr0
        go_wp2_with fail
        go_quiet (fail)
        replace hb := bch hb (drewN_below wr nq)
        replace hown := hown.below (drewN_below wr nq)
        have d1' : (wr.drewN nq).cell? ⟨b2, o2 + k * 2, none⟩ = _ := d1
        have d2' : (wr.drewN nq).cell? ⟨b2, o2 + k * 2 + 1, none⟩ = _ := d2
        generalize wr.drewN nq = wq at hb hown d1' d2' ⊢
        clear nq d1 d2
        have d1 := d1'
        clear d1'
        have d2 := d2'
        clear d2'
        go_wp2_with fail
        go_quiet (fail)
        replace hb := bch hb (drewN_below wq nq)
        replace hown := hown.below (drewN_below wq nq)
        have d1' : (wq.drewN nq).cell? ⟨b2, o2 + k * 2, none⟩ = _ := d1
        have d2' : (wq.drewN nq).cell? ⟨b2, o2 + k * 2 + 1, none⟩ = _ := d2
        generalize wq.drewN nq = wv at hb hown d1' d2' ⊢
        clear nq d1 d2
        have d1 := d1'
        clear d1'
        have d2 := d2'
        clear d2'
        go_wp2_with (at_builtin; refine wpList_append_s _ rfl _ _ rfl w.heap.size _ xs rfl (hown.alloc _) wv.heap.size g.1 rfl (by rw [World.cell?_alloc_new]; rfl) (by omega) (by have := hb.size; simp; omega) r R.out ?_; intro N2 nc2 w2 hown2 hb2 hg2)
        go_roundw
        case rel => exact ⟨i, k + 1, N2, nc2, r, by omega, by omega, rfl, by go_num, rfl, rest_one (by rw [← HDD.out]; exact HX.out) R.out, by have := RL.out; omega, hown2, (hb.alloc hb.size _).trans hb2⟩
        case measure => simp [intOf]; omega
      · have _t : True := trivial
        go_wp2
        go_ret
        have e := HX.out
        rw [List.drop_of_length_le (show fs.length ≤ i by omega), List.drop_of_length_le (show gs.length ≤ k by omega), show diffL [] [] = [] by simp [diffL], List.append_nil] at e
        subst e
        exact ⟨N, nc, rfl, hown, hb⟩
end Go.Proofs.Ytdaekfigpkogbaa

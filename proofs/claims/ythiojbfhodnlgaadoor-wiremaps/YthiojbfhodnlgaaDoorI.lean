/-
  The law's fixed calls: they answer as the document fixes it; old memory stays.
-/
import Derived.Test.YthiojbfhodnlgaaDoorH
namespace Go.Proofs.YthiojbfhodnlgaaDoor
open Go.RowKit

def fbx : Fl := ([98], [120])
def fa0 : Fl := ([97], [])
def At2 (w : World) (n : Nat) (fs : List Fl) (v : Value) (e : Ending) (w' : World) : Prop := ∃ A c, e = .returned (.tuple #[.slice A n c, v]) ∧ Own w' w.heap.size A c fs ∧ Below w.heap.size w w'
theorem Res2.at {w : World} {fs gs : List Fl} {v u : Value} {n : Nat} (h : fs = gs) (hn : gs.length = n) (hv : v = u) {e : Ending} {w' : World} (k : Res2 w fs v e w') : At2 w n gs u e w' := by
  subst h; subst hn; subst hv; exact k
def AtS (w : World) (n : Nat) (fs : List (List UInt8)) (v : Value) (e : Ending) (w' : World) : Prop := ∃ A c, e = .returned (.tuple #[.slice A n c, v]) ∧ OwnS w' w.heap.size A c fs ∧ Below w.heap.size w w'
theorem AllRes.at {w : World} {fs gs : List (List UInt8)} {v u : Value} {n : Nat} (h : fs = gs) (hn : gs.length = n) (hv : v = u) {e : Ending} {w' : World} (k : AllRes w fs v e w') : AtS w n gs u e w' := by
  subst h; subst hn; subst hv; exact k
theorem gx1 (w : World) (T : Tabs w) : Calls Tryd.prog 9 #[.string ⟨#[120, 53, 58, 104, 101, 108, 108, 111, 44]⟩, .int .i64 1, .int .i64 5] w fun e w' => e = .returned (.tuple #[.string ⟨#[104, 101, 108, 108, 111]⟩, .int .i64 9, .int .i64 0]) ∧ Below w.heap.size w w' :=
  (get_any [120, 53, 58, 104, 101, 108, 108, 111, 44] 1 5 w T (by decide)).mono fun _ _ h => ⟨h.1.trans (ret_eq (by kernel_rfl)), h.2⟩
theorem gx2 (w : World) (T : Tabs w) : Calls Tryd.prog 9 #[.string ⟨#[48, 53, 58, 104, 101, 108, 108, 111, 44]⟩, .int .i64 0, .int .i64 9] w fun e w' => e = .returned (.tuple #[.string ⟨#[]⟩, .int .i64 0, .int .i64 5]) ∧ Below w.heap.size w w' :=
  (get_any [48, 53, 58, 104, 101, 108, 108, 111, 44] 0 9 w T (by decide)).mono fun _ _ h => ⟨h.1.trans (ret_eq (by kernel_rfl)), h.2⟩
theorem gx3 (w : World) (T : Tabs w) : Calls Tryd.prog 9 #[.string ⟨#[53, 58, 104, 101, 108, 108, 111, 44]⟩, .int .i64 0, .int .i64 4] w fun e w' => e = .returned (.tuple #[.string ⟨#[]⟩, .int .i64 0, .int .i64 3]) ∧ Below w.heap.size w w' :=
  (get_any [53, 58, 104, 101, 108, 108, 111, 44] 0 4 w T (by decide)).mono fun _ _ h => ⟨h.1.trans (ret_eq (by kernel_rfl)), h.2⟩
theorem gx4 (w : World) (T : Tabs w) : Calls Tryd.prog 9 #[.string ⟨#[53, 58, 104, 101, 108, 108, 111]⟩, .int .i64 0, .int .i64 9] w fun e w' => e = .returned (.tuple #[.string ⟨#[]⟩, .int .i64 0, .int .i64 6]) ∧ Below w.heap.size w w' :=
  (get_any [53, 58, 104, 101, 108, 108, 111] 0 9 w T (by decide)).mono fun _ _ h => ⟨h.1.trans (ret_eq (by kernel_rfl)), h.2⟩
theorem gx5 (w : World) (T : Tabs w) : Calls Tryd.prog 9 #[.string ⟨#[53, 58, 104, 101, 108, 108, 111, 59]⟩, .int .i64 0, .int .i64 9] w fun e w' => e = .returned (.tuple #[.string ⟨#[]⟩, .int .i64 0, .int .i64 5]) ∧ Below w.heap.size w w' :=
  (get_any [53, 58, 104, 101, 108, 108, 111, 59] 0 9 w T (by decide)).mono fun _ _ h => ⟨h.1.trans (ret_eq (by kernel_rfl)), h.2⟩
theorem gx6 (w : World) (T : Tabs w) : Calls Tryd.prog 9 #[.string ⟨#[58]⟩, .int .i64 0, .int .i64 9] w fun e w' => e = .returned (.tuple #[.string ⟨#[]⟩, .int .i64 0, .int .i64 5]) ∧ Below w.heap.size w w' :=
  (get_any [58] 0 9 w T (by decide)).mono fun _ _ h => ⟨h.1.trans (ret_eq (by kernel_rfl)), h.2⟩
theorem gx7 (w : World) (T : Tabs w) : Calls Tryd.prog 9 #[.string ⟨#[49, 48, 48, 48, 48, 48, 48, 58]⟩, .int .i64 0, .int .i64 9] w fun e w' => e = .returned (.tuple #[.string ⟨#[]⟩, .int .i64 0, .int .i64 3]) ∧ Below w.heap.size w w' :=
  (get_any [49, 48, 48, 48, 48, 48, 48, 58] 0 9 w T (by decide)).mono fun _ _ h => ⟨h.1.trans (ret_eq (by kernel_rfl)), h.2⟩
theorem gx8 (w : World) (T : Tabs w) : Calls Tryd.prog 9 #[.string ⟨#[]⟩, .int .i64 1, .int .i64 9] w fun e w' => e = .returned (.tuple #[.string ⟨#[]⟩, .int .i64 0, .int .i64 1]) ∧ Below w.heap.size w w' :=
  (get_any [] 1 9 w T (by decide)).mono fun _ _ h => ⟨h.1.trans (ret_eq (by kernel_rfl)), h.2⟩
theorem gx9 (w : World) (T : Tabs w) : Calls Tryd.prog 9 #[.string ⟨#[]⟩, .int .i64 0, .int .i64 9] w fun e w' => e = .returned (.tuple #[.string ⟨#[]⟩, .int .i64 0, .int .i64 6]) ∧ Below w.heap.size w w' :=
  (get_any [] 0 9 w T (by decide)).mono fun _ _ h => ⟨h.1.trans (ret_eq (by kernel_rfl)), h.2⟩
theorem px1 (w : World) (T : Tabs w) : Calls Tryd.prog 13 #[.string ⟨#[49, 58, 97, 44, 48, 58, 44, 49, 58, 98, 44, 49, 58, 120, 44]⟩] w (At2 w 2 [fa0, fbx] (.int .i64 0)) :=
  (parse_any [49, 58, 97, 44, 48, 58, 44, 49, 58, 98, 44, 49, 58, 120, 44] w T (by decide)).mono fun _ _ h => Res2.at (gs := [fa0, fbx]) (n := 2) (u := .int .i64 0) (by kernel_rfl) rfl (congrArg _ (by kernel_rfl)) h
theorem px2 (w : World) (T : Tabs w) : Calls Tryd.prog 13 #[.string ⟨#[49, 58, 98, 44, 48, 58, 44, 49, 58, 97, 44, 48, 58, 44]⟩] w (At2 w 0 [] (.int .i64 5)) :=
  (parse_any [49, 58, 98, 44, 48, 58, 44, 49, 58, 97, 44, 48, 58, 44] w T (by decide)).mono fun _ _ h => Res2.at (gs := []) (n := 0) (u := .int .i64 5) (by kernel_rfl) rfl (congrArg _ (by kernel_rfl)) h
theorem ax1 (w : World) (T : Tabs w) : Calls Tryd.prog 11 #[.string ⟨#[48, 58, 44, 49, 58, 44, 44]⟩] w (AtS w 2 [[], [44]] (.int .i64 0)) :=
  (all_any [48, 58, 44, 49, 58, 44, 44] w T (by decide)).mono fun _ _ h => AllRes.at (gs := [[], [44]]) (n := 2) (u := .int .i64 0) (by kernel_rfl) rfl (congrArg _ (by kernel_rfl)) h
theorem ux1 (w : World) (T : Tabs w) : Calls Tryd.prog 15 #[.string ⟨#[104, 101, 108, 108, 111]⟩] w fun e w' => e = .returned (.string ⟨#[53, 58, 104, 101, 108, 108, 111, 44]⟩) ∧ Below w.heap.size w w' :=
  (wput_any [104, 101, 108, 108, 111] w T (by decide)).mono fun _ _ h => ⟨h.1.trans (ret_eq (str_eq (by unfold wputL; rw [dec_small _ (by decide)]; rfl))), h.2⟩
theorem ux2 (w : World) (T : Tabs w) : Calls Tryd.prog 15 #[.string ⟨#[]⟩] w fun e w' => e = .returned (.string ⟨#[48, 58, 44]⟩) ∧ Below w.heap.size w w' :=
  (wput_any [] w T (by decide)).mono fun _ _ h => ⟨h.1.trans (ret_eq (str_eq (by unfold wputL; rw [dec_small _ (by decide)]; rfl))), h.2⟩
theorem wx1 (w : World) (A : Option Addr) (c b : Nat) (h : OwnS w 0 A c [[], [44]]) (h1 : w.cell? ⟨b, 0, none⟩ = some (.string ⟨#[]⟩)) (h2 : w.cell? ⟨b, 1, none⟩ = some (.string ⟨#[44]⟩)) : Calls Tryd.prog 17 #[.slice A 2 c, .slice (some ⟨b, 0, none⟩) 2 2] w fun e w' => e = .returned (.bool true) ∧ ∃ n, w' = w.drewN n :=
  (words_any A (some ⟨b, 0, none⟩) c 2 [[], [44]] [[], [44]] w h.rd (fun _ => ⟨b, 0, rfl, fun i x hi => by
    match i, hi with
    | 0, hi => simp at hi; subst hi; exact h1
    | 1, hi => simp at hi; subst hi; exact h2
    | i + 2, hi => simp at hi⟩) (by simp) (by simp)).mono fun _ _ h => ⟨h.1.trans (ret_bool (by decide)), h.2⟩
theorem dec0 : Lib.decDigits 0 = [48] := by rw [dec_small 0 (by decide)]; rfl
theorem dec1 : Lib.decDigits 1 = [49] := by rw [dec_small 1 (by decide)]; rfl
theorem vx1 (w : World) (T : Tabs w) (A : Option Addr) (c : Nat) (h : Own w 0 A c [fa0, fbx]) : Calls Tryd.prog 21 #[.slice A 2 c] w fun e w' => e = .returned (.string ⟨#[49, 58, 97, 44, 48, 58, 44, 49, 58, 98, 44, 49, 58, 120, 44]⟩) ∧ Below w.heap.size w w' :=
  (files_any A c [fa0, fbx] w T h.rd (Lib.hid (fun f hf => by simp at hf; rcases hf with rfl | rfl <;> decide)) (by decide)).mono fun _ _ h => ⟨h.1.trans (ret_eq (str_eq (by
    simp [filesL, wputL, fa0, fbx, dec0, dec1]))), h.2⟩

set_option maxRecDepth 100000 in
set_option maxHeartbeats 8000000 in
theorem fixed_any (w : World) (T : Tabs w) : Calls Tryd.prog 19 #[] w fun e w' => e = .returned (.bool true) ∧ Below w.heap.size w w' := by
  have hb := Below.refl w.heap.size w
  have T0 := T
  go_enter Tryd.func19, Tryd.ntmps19
  go_wp2_with fail
  refine (gx1 _ T0).mono ?_
  rintro e w1 ⟨rfl, hb2⟩
  replace T0 := T0.below hb2
  replace hb := bch hb hb2
  clear hb2
  go_wp2_with fail
  refine (gx2 _ T0).mono ?_
  rintro e w2 ⟨rfl, hb2⟩
  replace T0 := T0.below hb2
  replace hb := bch hb hb2
  clear hb2
  go_wp2_with fail
  refine (gx3 _ T0).mono ?_
  rintro e w3 ⟨rfl, hb2⟩
  replace T0 := T0.below hb2
  replace hb := bch hb hb2
  clear hb2
  go_wp2_with fail
  refine (gx4 _ T0).mono ?_
  rintro e w4 ⟨rfl, hb2⟩
  replace T0 := T0.below hb2
  replace hb := bch hb hb2
  clear hb2
  go_wp2_with fail
  refine (gx5 _ T0).mono ?_
  rintro e w5 ⟨rfl, hb2⟩
  replace T0 := T0.below hb2
  replace hb := bch hb hb2
  clear hb2
  go_wp2_with fail
  refine (gx6 _ T0).mono ?_
  rintro e w6 ⟨rfl, hb2⟩
  replace T0 := T0.below hb2
  replace hb := bch hb hb2
  clear hb2
  go_wp2_with fail
  refine (gx7 _ T0).mono ?_
  rintro e w7 ⟨rfl, hb2⟩
  replace T0 := T0.below hb2
  replace hb := bch hb hb2
  clear hb2
  go_wp2_with fail
  refine (gx8 _ T0).mono ?_
  rintro e w8 ⟨rfl, hb2⟩
  replace T0 := T0.below hb2
  replace hb := bch hb hb2
  clear hb2
  go_wp2_with fail
  refine (gx9 _ T0).mono ?_
  rintro e w9 ⟨rfl, hb2⟩
  replace T0 := T0.below hb2
  replace hb := bch hb hb2
  clear hb2
  go_wp2_with fail
  refine (px1 _ T0).mono ?_
  rintro e w10 ⟨A1, c1, rfl, ho, hb2⟩
  replace ho := ho.mono (Nat.zero_le _)
  replace T0 := T0.below hb2
  replace hb := bch hb hb2
  clear hb2
  go_wp2_with fail
  refine (px2 _ T0).mono ?_
  rintro e w11 ⟨A2, c2, rfl, _, hb2⟩
  replace ho := ho.below hb2
  replace T0 := T0.below hb2
  replace hb := bch hb hb2
  clear hb2
  go_wp2_with fail
  refine (ax1 _ T0).mono ?_
  rintro e w12 ⟨A3, c3, rfl, hs, hb2⟩
  replace hs := hs.mono (Nat.zero_le _)
  replace ho := ho.below hb2
  replace T0 := T0.below hb2
  replace hb := bch hb hb2
  clear hb2
  go_wp2_with fail
  refine (ux1 _ T0).mono ?_
  rintro e w13 ⟨rfl, hb2⟩
  replace hs := hs.below hb2
  replace ho := ho.below hb2
  replace T0 := T0.below hb2
  replace hb := bch hb hb2
  clear hb2
  go_wp2_with fail
  refine (ux2 _ T0).mono ?_
  rintro e w14 ⟨rfl, hb2⟩
  replace hs := hs.below hb2
  replace ho := ho.below hb2
  replace T0 := T0.below hb2
  replace hb := bch hb hb2
  clear hb2
  go_wp2_with fail
  have b1 := one_below w14 (.cells #[.string ⟨#[]⟩, .string ⟨#[44]⟩] 9)
  refine (wx1 _ A3 c3 w14.heap.size (hs.below b1) (by rw [World.cell?_alloc_new]; rfl) (by rw [World.cell?_alloc_new]; rfl)).mono ?_
  rintro e w15 ⟨rfl, n1, rfl⟩
  replace b1 := bch b1 (drewN_below _ n1)
  replace ho := ho.below b1
  replace T0 := T0.below b1
  replace hb := bch hb b1
  clear hs b1
  generalize (w14.alloc (.cells #[.string ⟨#[]⟩, .string ⟨#[44]⟩] 9)).drewN n1 = w16 at ho hb T0 ⊢
  go_wp2_with fail
  refine (vx1 _ T0 A1 c1 ho).mono ?_
  rintro e w17 ⟨rfl, hb2⟩
  go_wp2
  go_ret
  exact ⟨rfl, bch hb hb2⟩
end Go.Proofs.YthiojbfhodnlgaaDoor

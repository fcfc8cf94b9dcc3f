/-
  The contract of fixed: calls whose answers the document fixes.
-/
import Derived.Test.YtmggpockikcjjaaGreatDoorSI
namespace Go.Proofs.YtmggpockikcjjaaGreatDoor
open Go.RowKit
open Dsk (DS Tx Wt Kp DiskAt NoB Ok newS crashS limitS)

def tx50 : List UInt8 := [48, 49, 50, 51, 52, 53, 54, 55, 56, 57, 48, 49, 50, 51, 52, 53, 54, 55, 56, 57, 48, 49, 50, 51, 52, 53, 54, 55, 56, 57, 48, 49, 50, 51, 52, 53, 54, 55, 56, 57, 48, 49, 50, 51, 52, 53, 54, 55, 56, 57]
def fa50 : Fl := ([97], tx50)
def fa60 : Fl := ([97], tx50 ++ tx50.take 10)
def fA : Fl := ([65], [])
theorem fa50_good : Good [fa50] := right_good (by decide +kernel)
theorem fa60_good : Good [fa60] := right_good (by decide +kernel)
theorem fa50_len : (filesL [fa50]).length = 58 := by
  unfold filesL fa50
  simp only [List.flatMap_cons, List.flatMap_nil, List.append_nil, List.length_append, wput_len]
  rw [show ([97] : List UInt8).length = 1 from rfl, show tx50.length = 50 from rfl, dec_small 1 (by decide), dec_big 50 (by decide), dec_small (50 / 10) (by decide)]
  rfl
theorem fa60_len : (filesL [fa60]).length = 68 := by
  unfold filesL fa60
  simp only [List.flatMap_cons, List.flatMap_nil, List.append_nil, List.length_append, wput_len]
  rw [show ([97] : List UInt8).length = 1 from rfl, show (tx50.length + (tx50.take 10).length) = 60 from rfl, dec_small 1 (by decide), dec_big 60 (by decide), dec_small (60 / 10) (by decide)]
  rfl
theorem fA_form : rightB [fA] = false := by decide +kernel

set_option maxRecDepth 100000 in
set_option maxHeartbeats 8000000 in
theorem fixed_any (w : World) (T : Tabs w) : Calls Tryz.prog 12 #[] w fun e w' => e = .returned (.bool true) ∧ Below w.heap.size w w' := by
  have HT := Lib.hid T
  have hbig := T.big
  have C1 := Lib.hid (on_any 4 w T (by omega) (by omega))
  rw [show ((4 : Nat) : Int) = 4 from rfl] at C1
  have C2 := Lib.hid (fun (w : World) => on_few 3 w (by omega) (by omega))
  rw [show ((3 : Nat) : Int) = 3 from rfl] at C2
  clear T
  go_enter Tryz.func12, Tryz.ntmps12
  go_wp2_with fail
  refine C1.out.mono ?_
  rintro e w1 ⟨q, s, F, rfl, hb1, hS1, hF1, hq1⟩
  have H1 := Lib.hid (And.intro hb1 (And.intro hS1.within (And.intro hF1 hq1)))
  have hqw := hS1.qlt
  clear hb1 hS1 hF1 hq1 C1
  go_wp2_with fail
  refine (C2.out w1).mono ?_
  rintro e w2 ⟨s3, F3, rfl, hb2, hd3, hF3⟩
  have H2 := Lib.hid (And.intro hb2 (And.intro hd3 hF3))
  have hs2 := hb2.size
  clear hb2 hd3 hF3 C2
  have HB2 := Lib.hid (bch H1.out.1 H2.out.1)
  have S2 := Lib.hid ((H1.out.2.1.below H2.out.1).below (one_below w2 (.cells #[.string ⟨fa50.1.toArray⟩, .string ⟨fa50.2.toArray⟩] 37)))
  have R2 := Lib.hid (one_new w2 fa50)
  have T2 := Lib.hid (HT.out.below (bch HB2.out (one_below w2 (.cells #[.string ⟨fa50.1.toArray⟩, .string ⟨fa50.2.toArray⟩] 37))))
  have C3 := Lib.hid (commit_good q s 4 _ (newS 4) [] [fa50] _ 1 _ T2.out S2.out R2.out fa50_good (by rw [fa50_len]; decide) (by decide))
  go_wp2_with fail
  refine C3.out.mono ?_
  rw [show ({ data := #[48, 49, 50, 51, 52, 53, 54, 55, 56, 57, 48, 49, 50, 51, 52, 53, 54, 55, 56, 57, 48, 49, 50, 51, 52, 53, 54, 55, 56, 57, 48, 49, 50, 51, 52, 53, 54, 55, 56, 57, 48, 49, 50, 51, 52, 53, 54, 55, 56, 57] } : ByteArray) = ⟨tx50.toArray⟩ from rfl]
  rintro e w3 ⟨x, rfl, hk3, F4, st4, hF4, hcnt4, hway⟩
  have hS4 : x = 0 ∧ SAt w3 q s F4 4 [fa50] st4 ∧ st4.lim = none := by
    rcases hway with ⟨h1, h2, h3, _⟩ | ⟨_, _, _, hne, _⟩
    · exact ⟨h1, h2, h3 rfl⟩
    · exact absurd rfl hne
  obtain ⟨rfl, hS4, hl4⟩ := hS4
  have KB3 := Lib.hid (hk3.below (B := w.heap.size) (Nat.le_trans HB2.out.size (one_below _ _).size) (fun x hx => by rcases hx with hx | rfl; exact H1.out.2.2.1 x hx.1; exact H1.out.2.2.2))
  have HB3 := Lib.hid ((bch HB2.out (one_below w2 (.cells #[.string ⟨fa50.1.toArray⟩, .string ⟨fa50.2.toArray⟩] 37))).trans KB3.out)
  have D3 := Lib.hid ((H2.out.2.1.kp (Kp.of_below (one_below w2 (.cells #[.string ⟨fa50.1.toArray⟩, .string ⟨fa50.2.toArray⟩] 37)) NoB) (fun _ _ h => h)).kp hk3 (fun x hx hy => by have := H2.out.2.2 x hx; rcases hy with hy | hy; omega; omega))
  have FB4 := Lib.hid (show ∀ x, F4 x → w.heap.size ≤ x from fun x hx => by
    rcases hF4 x hx with p | p
    · exact H1.out.2.2.1 x p.1
    · have h1 := HB2.out.size; have h2 := (one_below w2 (.cells #[.string ⟨fa50.1.toArray⟩, .string ⟨fa50.2.toArray⟩] 37)).size; omega)
  have hqlo := H1.out.2.2.2
  have H4 := Lib.hid (And.intro hS4 (And.intro hl4 hcnt4))
  clear hk3 hF4 hcnt4 hway hS4 hl4 C3 S2 R2 T2 KB3 HB2 H2 H1
  -- a text that is too long
  obtain ⟨tx10, ht10⟩ : ∃ tx10, tx50.take 10 = tx10 := ⟨_, rfl⟩
  have e1 := cut_str tx50 tx10 10 (by decide) ht10
  rw [show ((10 : Nat) : Int) = 10 from rfl] at e1
  have hl50 : tx50.length = 50 := rfl
  have hl10 : tx10.length = 10 := by rw [← ht10]; rfl
  have hfa60 : fa60 = ([97], tx50 ++ tx10) := by rw [← ht10]; rfl
  have C5 := Lib.hid (commit_full q s 4 F4 st4 [fa50] [fa60] _ 1 _ (HT.out.below (bch HB3.out (one_below w3 (.cells #[.string ⟨fa60.1.toArray⟩, .string ⟨fa60.2.toArray⟩] 37)))) (H4.out.1.below (one_below w3 (.cells #[.string ⟨fa60.1.toArray⟩, .string ⟨fa60.2.toArray⟩] 37))) (one_new w3 fa60) fa60_good (by rw [fa60_len]; decide))
  rw [hfa60] at C5
  clear ht10 hfa60
  generalize hq50 : tx50 = t50 at *
  have HQ50 := Lib.hid hq50
  clear hq50
  go_wp2_with fail
  rw [str_app t50 tx10]
  refine C5.out.mono ?_
  rintro e w4 ⟨rfl, hb4⟩
  have hb34 := bch (one_below _ _) hb4
  have S5 := Lib.hid (H4.out.1.below hb34)
  have D5 := Lib.hid (D3.out.kp (Kp.of_below hb34 NoB) (fun _ _ h => h))
  have HB4 := Lib.hid (bch HB3.out hb34)
  clear hb4 hb34 C5 D3 HB3 e1
  have C6 := Lib.hid (commit_form q _ 1 [fA] _ (one_new w4 fA) (by decide) (fun f hf => by simp at hf; subst hf; exact ⟨by decide, by decide⟩) fA_form)
  go_wp2_with fail
  refine C6.out.mono ?_
  rintro e w5 ⟨rfl, hb5⟩
  have hb45 := bch (one_below _ _) hb5
  have S6 := Lib.hid (S5.out.below hb45)
  have D6 := Lib.hid (D5.out.kp (Kp.of_below hb45 NoB) (fun _ _ h => h))
  have HB5 := Lib.hid (bch HB4.out hb45)
  clear hb5 hb45 C6 D5 HB4 S5
  go_wp2_with fail
  refine (open_few s3 3 F3 (newS 3) w5 D6.out rfl (by omega)).mono ?_
  rintro e w5 ⟨rfl, rfl⟩
  clear D6
  go_wp2_with fail
  refine (Dsk.limit_disk s 0 F4 st4 w5 S6.out.disk (by omega) (by omega)).mono ?_
  rintro e w6 ⟨rfl, hk6, F6, hd6, hF6⟩
  have hs5 := HB5.out.size
  have S7 := Lib.hid (S6.out.dpost hk6 hd6 hF6 (by omega) rfl S6.out.pend rfl)
  have HB6 := Lib.hid (HB5.out.trans (hk6.below hs5 FB4.out))
  have FB6 := Lib.hid (show ∀ x, F6 x → w.heap.size ≤ x from fun x hx => by
    rcases hF6 x hx with p | p
    · exact FB4.out x p
    · omega)
  have hcn : st4.cnt ≤ 2 := H4.out.2.2
  clear hk6 hd6 hF6 S6 FB4
  have C7 := Lib.hid (commit_good q s 4 F6 (limitS st4 0) [fa50] [] none 0 w6 (HT.out.below HB6.out) S7.out (Rd.empty _ _) Good.nil (Nat.zero_le _) (by show st4.cnt + 1 + 1 < 1000; omega))
  go_wp2_with fail
  refine C7.out.mono ?_
  rintro e w7 ⟨x, rfl, hk7, F7, st7, hF7, hcnt7, hway⟩
  have h8 : x = 8 ∧ DiskAt w7 s F7 (limitS st4 0) := by
    rcases hway with ⟨_, _, _, hne⟩ | ⟨h1, h2, _, _, _, hz⟩
    · exact absurd rfl hne
    · rw [hz rfl] at h2; exact ⟨h1, h2⟩
  obtain ⟨rfl, hd7⟩ := h8
  have hs6 := HB6.out.size
  have HB7 := Lib.hid (HB6.out.trans (hk7.below hs6 (fun x hx => by rcases hx with hx | rfl; exact FB6.out x hx; exact hqlo)))
  have FB7 := Lib.hid (show ∀ x, F7 x → w.heap.size ≤ x from fun x hx => by
    rcases hF7 x hx with p | p
    · exact FB6.out x p
    · omega)
  have CL := Lib.hid (S7.out.clean.crash [])
  have D7 := Lib.hid hd7
  clear hk7 hF7 hcnt7 hway hd7 C7 S7 FB6
  go_wp2_with fail
  refine (Dsk.crash_disk none 0 s [] F7 (limitS st4 0) w7 D7.out (fun h => absurd h (by simp [Dsk.bcells])) (by decide)).mono ?_
  rintro e w8 ⟨rfl, hk8, F8, hd8, hF8⟩
  have hs7 := HB7.out.size
  have HB8 := Lib.hid (HB7.out.trans (hk8.below hs7 FB7.out))
  have FB8 := Lib.hid (show ∀ x, F8 x → w.heap.size ≤ x from fun x hx => by
    rcases hF8 x hx with p | p
    · exact FB7.out x p
    · omega)
  have D8 := Lib.hid (show DAt w8 s F8 4 [fa50] _ from ⟨hd8, fun x hx => by have := FB8.out x hx; omega, by omega, by omega, CL.out⟩)
  clear hk8 hd8 hF8 CL D7 FB7
  go_wp2_with fail
  refine (open_any s 4 F8 _ [fa50] w8 (HT.out.below HB8.out) D8.out).mono ?_
  rintro e w9 ⟨q9, rfl, hq9, hb9, hS9⟩
  have HB9 := Lib.hid (bch HB8.out hb9)
  have S9 := Lib.hid hS9
  clear hb9 hS9 D8
  go_wp2_with fail
  refine (load_any q9 s 4 _ _ [fa50] w9 S9.out).mono ?_
  rintro e w10 ⟨A, c, rfl, ho, hb10⟩
  have HB10 := Lib.hid (bch HB9.out (bch hb10 (one_below w10 (.cells #[.string ⟨fa50.1.toArray⟩, .string ⟨fa50.2.toArray⟩] 37))))
  have R10 := Lib.hid (ho.rd.alloc (.cells #[.string ⟨fa50.1.toArray⟩, .string ⟨fa50.2.toArray⟩] 37))
  have C10 := Lib.hid (same_eq A _ c 1 [fa50] _ R10.out (one_new w10 fa50) (by decide))
  clear ho hb10
  go_wp2_with fail
  rw [← HQ50.out]
  refine C10.out.mono ?_
  rintro e w11 ⟨rfl, m, rfl⟩
  have HB11 := Lib.hid (bch HB10.out (drewN_below _ m))
  have e4 := room_any 4
  rw [show roomZ 4 = 64 by decide] at e4
  have e7 := room_any 7
  rw [show roomZ 7 = 128 by decide] at e7
  have e3 := room_any 3
  rw [show roomZ 3 = 0 by decide] at e3
  have E4 := Lib.hid e4
  have E7 := Lib.hid e7
  have E3 := Lib.hid e3
  clear e4 e7 e3 C10
  generalize ((w10.alloc (.cells #[.string ⟨fa50.1.toArray⟩, .string ⟨fa50.2.toArray⟩] 37)).drewN m) = w11 at *
  go_wp2_with fail
  refine (E4.out _).mono ?_
  rintro e w12 ⟨rfl, rfl⟩
  go_wp2_with fail
  refine (E7.out _).mono ?_
  rintro e w12 ⟨rfl, rfl⟩
  go_wp2_with fail
  refine (E3.out _).mono ?_
  rintro e w12 ⟨rfl, rfl⟩
  go_wp2
  go_ret
  exact ⟨rfl, HB11.out⟩
end Go.Proofs.YtmggpockikcjjaaGreatDoor

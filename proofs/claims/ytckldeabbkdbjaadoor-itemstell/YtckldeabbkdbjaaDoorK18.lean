/-
  What ItemsTell asks: its walk.
-/
import Derived.Test.YtckldeabbkdbjaaDoorK17
namespace Go.Proofs.YtckldeabbkdbjaaDoor
open Go.RowKit

set_option maxRecDepth 100000 in
set_option maxHeartbeats 4000000 in
theorem itemsTell_walk (L : Landed) (A B : Option Addr) (c d : Nat) (ts is : List Tok) (w : World) (h0 : M0 w) (kb : ∀ t ∈ is, W64 t.1) (ra : Rd w A ts) (rb : Rd w B is) (la : ts.length ≤ 9223372036854775807) (lb : is.length ≤ 9223372036854775807) (fa : Hid (∀ t ∈ ts, t.2.length ≤ 9223372036854775807)) (fb : Hid (∀ t ∈ is, t.2.length ≤ 9223372036854775807)) :
    Calls Tryd.prog 3 #[.slice A ts.length c, .slice B is.length d] w fun e w' => e = .returned (.bool true) ∧ Below w.heap.size w w' := by
  have CA := Lib.hid (fun w h => lcut_any A c 60 ts w h la fa (by omega))
  have CB := Lib.hid (fun w h => icut_any B d 40 is w h lb fb (by omega))
  have F := Lib.hid (fun w hm => fixed_any L w hm)
  have ky : Hid (∀ t ∈ cutI 40 is, W64 t.1) := Lib.hid (cutI_kind 40 kb)
  have hx := cut_len 60 ts
  have hy := cutI_len 40 is
  have fx := Lib.hid (cut_fit 60 ts)
  have fy := Lib.hid (cutI_fit 40 is)
  generalize cutL 60 ts = x at *
  generalize cutI 40 is = y at *
  have fx4 : Hid (∀ t ∈ x, t.2.length ≤ 4000) := Lib.hid fun t ht => by have := fx.out t ht; omega
  have fx2 : Hid (∀ t ∈ x, t.2.length ≤ 400) := Lib.hid fun t ht => by have := fx.out t ht; omega
  have fy4 : Hid (∀ t ∈ y, t.2.length ≤ 4000) := Lib.hid fun t ht => by have := fy.out t ht; omega
  obtain ⟨g1, g2, _⟩ := parse_size x [] [] 64 (by omega) (fun f hf => by cases hf)
  have PA := Lib.hid (fun S sc w h1 h2 h3 => L.parse S sc x w h1 (by omega) h2 h3 fx4)
  have PB := Lib.hid (fun S sc w h1 h2 h3 => rparse_it S sc x w h1 (by omega) h2 h3 fx2)
  have RA := Lib.hid (fun S sc w h1 h2 h3 hm => L.right S sc y w h1 (by omega) h2 h3 fy4 ky hm)
  have RB := Lib.hid (fun S sc w h1 => rright_bel S sc y w h1 (by omega) fy4)
  have SA := Lib.hid (fun S sc w h1 h2 h3 => L.shown S sc y w h1 (by omega) h2 h3 fy4 ky)
  have SB := Lib.hid (fun S sc w h1 => rshow_any S sc y w h1 (by omega))
  have hs := show_len y
  obtain ⟨G, N, hG⟩ : ∃ G N, parseI x [] [] = (G, N) := ⟨_, _, rfl⟩
  rw [hG] at g1 g2 PA PB
  simp only [List.length_nil, Nat.zero_add] at g1 g2
  generalize rightI false y = b at *
  generalize showI y = z at *
  have hbb : (b == b) = true := by cases b <;> rfl
  clear hG fa fb L fx fy fx4 fx2 fy4 ky kb
  go_enter Tryd.func3, Tryd.ntmps3
  
  go_wp2_with fail
  refine (CA.out _ ra).mono ?_
  rintro e w1 ⟨A1, c1, rfl, ho, hb1⟩
  replace rb := rb.below hb1
  have HB := Lib.hid hb1
  clear hb1
  obtain ⟨u1, u2, _⟩ := ho.cap
  replace ho := ho.rd
  clear CA ra
  go_wp2_with fail
  refine (CB.out _ rb).mono ?_
  rintro e w2 ⟨B1, d1, rfl, hp, hb2⟩
  replace ho := ho.below hb2
  replace HB := Lib.hid (bch HB.out hb2)
  clear hb2 rb
  obtain ⟨v1, v2, _⟩ := hp.cap
  replace hp := hp.rd
  clear CB
  go_wp2_with fail
  refine (PA.out A1 c1 w2 ho u1 u2).mono ?_
  rintro e w3 ⟨Ai, ci, Bi, di, rfl, hri, hni, _, _, hb3⟩
  replace ho := ho.below hb3
  replace hp := hp.below hb3
  replace HB := Lib.hid (bch HB.out hb3)
  clear hb3
  clear PA
  go_wp2_with fail
  refine (refs_any A1 c1 x w3 ho (by omega)).mono ?_
  rintro e w4 ⟨A2, c2, rfl, ho2, hb4⟩
  replace hp := hp.below hb4
  replace hri := hri.below hb4
  replace hni := hni.below hb4
  replace HB := Lib.hid (bch HB.out hb4)
  clear hb4 ho
  obtain ⟨s1, s2, _⟩ := ho2.cap
  replace ho2 := ho2.rd
  go_wp2_with fail
  refine (PB.out A2 c2 w4 ho2 s1 s2).mono ?_
  rintro e w5 ⟨Aj, cj, Bj, dj, rfl, hrj, hnj, _, _, hb5⟩
  replace hp := hp.below hb5
  replace hri := hri.below hb5
  replace hni := hni.below hb5
  replace HB := Lib.hid (bch HB.out hb5)
  clear hb5 ho2
  clear PB s1 s2
  go_wp2_with fail
  refine (irefs_any Ai ci G w5 hri (by omega)).mono ?_
  rintro e w6 ⟨Ra, ra, rfl, hra, hb6⟩
  replace hp := hp.below hb6
  replace hni := hni.below hb6
  replace hrj := hrj.below hb6
  replace hnj := hnj.below hb6
  replace HB := Lib.hid (bch HB.out hb6)
  clear hb6 hri
  replace hra := hra.rd
  go_wp2_with fail
  refine (items_same Ra Aj ra cj G w6 hra hrj (by omega)).mono ?_
  rintro e w7 ⟨rfl, hb7⟩
  replace hp := hp.below hb7
  replace hni := hni.below hb7
  replace hnj := hnj.below hb7
  replace HB := Lib.hid (bch HB.out hb7)
  clear hb7 hra hrj
  go_wp2_with fail
  refine (notes_same Bi Bj di dj N w7 hni hnj (by omega)).mono ?_
  rintro e w8 ⟨rfl, hb8⟩
  replace hp := hp.below hb8
  replace HB := Lib.hid (bch HB.out hb8)
  clear hb8 hni hnj
  go_wp2_with fail
  refine (RA.out B1 d1 w8 hp v1 v2 (h0.below HB.out)).mono ?_
  rintro e w9 ⟨rfl, hb9⟩
  replace hp := hp.below hb9
  replace HB := Lib.hid (bch HB.out hb9)
  clear hb9
  clear RA
  go_wp2_with fail
  refine (irefs_any B1 d1 y w9 hp (by omega)).mono ?_
  rintro e w10 ⟨Rc, rc, rfl, hrc, hb10⟩
  replace hp := hp.below hb10
  replace HB := Lib.hid (bch HB.out hb10)
  clear hb10
  replace hrc := hrc.rd
  go_wp2_with fail
  refine (RB.out Rc rc w10 hrc).mono ?_
  rintro e w11 ⟨rfl, hb11⟩
  replace hp := hp.below hb11
  replace HB := Lib.hid (bch HB.out hb11)
  clear hb11 hrc
  clear RB
  go_wp2_with fail
  refine (SA.out B1 d1 w11 hp v1 v2).mono ?_
  rintro e w12 ⟨Rd1, rd1, rfl, hrd, hb12⟩
  replace hp := hp.below hb12
  replace HB := Lib.hid (bch HB.out hb12)
  clear hb12
  replace hrd := hrd.rd
  clear SA v1 v2
  go_wp2_with fail
  refine (refs_any Rd1 rd1 z w12 hrd (by omega)).mono ?_
  rintro e w13 ⟨Re, re, rfl, hre, hb13⟩
  replace hp := hp.below hb13
  replace HB := Lib.hid (bch HB.out hb13)
  clear hb13 hrd
  replace hre := hre.rd
  go_wp2_with fail
  refine (irefs_any B1 d1 y w13 hp (by omega)).mono ?_
  rintro e w14 ⟨Rf, rf, rfl, hrf, hb14⟩
  replace hre := hre.below hb14
  replace HB := Lib.hid (bch HB.out hb14)
  clear hb14 hp
  replace hrf := hrf.rd
  go_wp2_with fail
  refine (SB.out Rf rf w14 hrf).mono ?_
  rintro e w15 ⟨Rg, rg, rfl, hrg, hb15⟩
  replace hre := hre.below hb15
  replace HB := Lib.hid (bch HB.out hb15)
  clear hb15 hrf
  replace hrg := hrg.rd
  clear SB
  go_wp2_with fail
  refine (toks_same Re Rg re rg z w15 hre hrg (by omega)).mono ?_
  rintro e w16 ⟨rfl, hb16⟩
  replace HB := Lib.hid (bch HB.out hb16)
  clear hb16 hre hrg
  go_wp2_with fail
  refine (F.out w16 (h0.below HB.out)).mono ?_
  rintro e w17 ⟨rfl, hb17⟩
  replace HB := Lib.hid (bch HB.out hb17)
  clear hb17
  clear F
  go_wp2
  go_ret
  exact ⟨rfl, HB.out⟩
end Go.Proofs.YtckldeabbkdbjaaDoor

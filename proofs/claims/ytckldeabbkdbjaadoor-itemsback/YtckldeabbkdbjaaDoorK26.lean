/-
  What ItemsBack asks: its walk.
-/
import Derived.Test.YtckldeabbkdbjaaDoorK17
namespace Go.Proofs.YtckldeabbkdbjaaDoor
open Go.RowKit

theorem name_len (k : Nat) : (nameI k).length ≤ 20 := by
  unfold nameI
  rw [List.getD_eq_getElem?_getD]
  cases h : namesL[k - 4]? with
  | none => simp
  | some x =>
    have : ∀ y ∈ namesL, y.length ≤ 20 := by decide +kernel
    exact this x (List.mem_of_getElem? h)
theorem show_fit {l : List Tok} {m : Nat} (hm : 20 ≤ m) (h : ∀ f ∈ l, f.2.length ≤ m) : ∀ t ∈ showI l, t.2.length ≤ m := by
  intro t ht
  obtain ⟨f, hf, hft⟩ := List.mem_flatMap.1 ht
  have h1 := h f hf
  have h2 := name_len f.1.toNat
  unfold showT at hft
  split at hft
  · simp at hft; subst hft; exact h1
  · split at hft
    · simp at hft; subst hft; exact Nat.zero_le _
    · split at hft
      · simp at hft
        rcases hft with rfl | rfl | rfl | rfl
        · show (nameI f.1.toNat).length ≤ m; omega
        · exact Nat.zero_le _
        · exact h1
        · exact Nat.zero_le _
      · split at hft
        · simp at hft; subst hft; show (nameI f.1.toNat).length ≤ m; omega
        · cases hft
theorem items_diff (A B : Option Addr) (c d : Nat) (fs gs : List Tok) (w : World) (hr : Rd w A fs) (hq : Rd w B gs) (hl : fs.length ≤ 1000) (hl2 : gs.length ≤ 1000) (hne : fs ≠ gs) :
    Calls Tryd.prog 13 #[.slice A fs.length c, .slice B gs.length d] w fun e w' => e = .returned (.bool false) ∧ Below w.heap.size w w' := by
  refine (ritems_any A B c d fs gs w hr hq (by omega) (by omega)).mono ?_
  rintro e w' ⟨rfl, n, rfl⟩
  exact ⟨ret_bool (decide_eq_false hne), rfl, rfl, rfl, Nat.le_refl _, fun _ _ => rfl⟩
set_option maxRecDepth 100000 in
set_option maxHeartbeats 4000000 in
theorem itemsBack_walk (L : Landed) (A B : Option Addr) (c d : Nat) (ts is : List Tok) (w : World) (h0 : M0 w) (kb : ∀ t ∈ is, W64 t.1) (ra : Rd w A ts) (rb : Rd w B is) (la : ts.length ≤ 9223372036854775807) (lb : is.length ≤ 9223372036854775807) (fa : Hid (∀ t ∈ ts, t.2.length ≤ 9223372036854775807)) (fb : Hid (∀ t ∈ is, t.2.length ≤ 9223372036854775807)) :
    Calls Tryd.prog 5 #[.slice A ts.length c, .slice B is.length d] w fun e w' => e = .returned (.bool true) ∧ Below w.heap.size w w' := by
  have CA := Lib.hid (fun w h => lcut_any A c 60 ts w h la fa (by omega))
  have CB := Lib.hid (fun w h => icut_any B d 40 is w h lb fb (by omega))
  have F := Lib.hid (fun w hm => fixed_any L w hm)
  have ky : Hid (∀ t ∈ cutI 40 is, W64 t.1) := Lib.hid (cutI_kind 40 kb)
  have hx := cut_len 60 ts
  have hy := cutI_len 40 is
  have fx := Lib.hid (cut_fit 60 ts)
  have fy := Lib.hid (cutI_fit 40 is)
  generalize cutL 60 ts = x at *
  generalize cutI 40 is = y at *
  have fx4 : Hid (∀ t ∈ x, t.2.length ≤ 4000) := Lib.hid fun t ht => by have := fx.out t ht; omega
  have fy4 : Hid (∀ t ∈ y, t.2.length ≤ 4000) := Lib.hid fun t ht => by have := fy.out t ht; omega
  obtain ⟨g1, _, g3⟩ := parse_size x [] [] 64 (by omega) (fun f hf => by cases hf)
  have gs := sum_le (l := x) (m := 40) fx.out
  have gr := right_parse x [] [] rfl
  have PA := Lib.hid (fun S sc w h1 h2 h3 => L.parse S sc x w h1 (by omega) h2 h3 fx4)
  obtain ⟨G, N, hG⟩ : ∃ G N, parseI x [] [] = (G, N) := ⟨_, _, rfl⟩
  rw [hG] at g1 g3 gr PA
  simp only [List.length_nil, Nat.zero_add] at g1 g3 gr
  have fG4 : Hid (∀ t ∈ G, t.2.length ≤ 4000) := Lib.hid fun t ht => by have := g3 t ht; omega
  have kG : Hid (∀ t ∈ G, W64 t.1) := Lib.hid (right_kind G false gr)
  have fS4 : Hid (∀ t ∈ showI G, t.2.length ≤ 4000) := Lib.hid (show_fit (by omega) fG4.out)
  have lS := show_len G
  have SG := Lib.hid (fun S sc w h1 h2 h3 => L.shown S sc G w h1 (by omega) h2 h3 fG4 kG)
  have PG := Lib.hid (fun S sc w h1 h2 h3 => L.parse S sc (showI G) w h1 (by omega) h2 h3 fS4)
  have RG := Lib.hid (fun S sc w h1 h2 h3 hm => L.right S sc G w h1 (by omega) h2 h3 fG4 kG hm)
  have eS := parse_shown G [] [] gr
  rw [List.nil_append] at eS
  rw [eS] at PG
  rw [gr] at RG
  generalize showI G = sg at *
  have fZ4 : Hid (∀ t ∈ showI y, t.2.length ≤ 4000) := Lib.hid (show_fit (by omega) fy4.out)
  have lZ := show_len y
  have SY := Lib.hid (fun S sc w h1 h2 h3 => L.shown S sc y w h1 (by omega) h2 h3 fy4 ky)
  have PY := Lib.hid (fun S sc w h1 h2 h3 => L.parse S sc (showI y) w h1 (by omega) h2 h3 fZ4)
  have RY := Lib.hid (fun S sc w h1 h2 h3 hm => L.right S sc y w h1 (by omega) h2 h3 fy4 ky hm)
  obtain ⟨k1, k2, _⟩ := parse_size (showI y) [] [] 64 (by omega) (fun f hf => by cases hf)
  have hb := back_iff y
  obtain ⟨K, M, hK⟩ : ∃ K M, parseI (showI y) [] [] = (K, M) := ⟨_, _, rfl⟩
  rw [hK] at k1 k2 hb PY
  simp only [List.length_nil, Nat.zero_add] at k1 k2 hb
  generalize showI y = z at *
  generalize rightI false y = b at *
  clear hK eS gr g3 gs hG fa fb fx fy fx4 fy4 fG4 fS4 fZ4 L ky kb kG
  by_cases hky : K = y
  · obtain rfl := hky
    by_cases hm : M.length = 0
    · have hb : true = b := by rw [← hb, hm]; simp
      subst hb
      have hm0 : ((M.length : Int) == 0) = true := by rw [hm]; rfl
      clear hm
      go_enter Tryd.func5, Tryd.ntmps5
      go_wp2_with fail
      refine (CA.out _ ra).mono ?_
      rintro e w1 ⟨A1, c1, rfl, ho, hb1⟩
      replace rb := rb.below hb1
      have HB := Lib.hid hb1
      clear hb1
      obtain ⟨u1, u2, _⟩ := ho.cap
      replace ho := ho.rd
      clear CA ra
      go_wp2_with fail
      refine (CB.out _ rb).mono ?_
      rintro e w2 ⟨B1, d1, rfl, hp, hb2⟩
      replace ho := ho.below hb2
      replace HB := Lib.hid (bch HB.out hb2)
      clear hb2 rb
      obtain ⟨v1, v2, _⟩ := hp.cap
      replace hp := hp.rd
      clear CB
      go_wp2_with fail
      refine (PA.out A1 c1 w2 ho u1 u2).mono ?_
      rintro e w3 ⟨Ai, ci, Bi, di, rfl, hri, hni, i1, i2, hb3⟩
      replace hp := hp.below hb3
      replace HB := Lib.hid (bch HB.out hb3)
      clear hb3 ho
      clear PA u1 u2 hni
      go_wp2_with fail
      refine (SG.out Ai ci w3 hri i1 i2).mono ?_
      rintro e w4 ⟨As, cs, rfl, hos, hb4⟩
      replace hp := hp.below hb4
      replace hri := hri.below hb4
      replace HB := Lib.hid (bch HB.out hb4)
      clear hb4
      obtain ⟨s1, s2, _⟩ := hos.cap
      replace hos := hos.rd
      clear SG
      go_wp2_with fail
      refine (PG.out As cs w4 hos s1 s2).mono ?_
      rintro e w5 ⟨Aj, cj, Bj, dj, rfl, hrj, hnj, _, _, hb5⟩
      replace hp := hp.below hb5
      replace hri := hri.below hb5
      replace HB := Lib.hid (bch HB.out hb5)
      clear hb5 hos
      clear PG s1 s2 hnj
      go_wp2_with fail
      refine (SY.out B1 d1 w5 hp v1 v2).mono ?_
      rintro e w6 ⟨At, ct, rfl, hot, hb6⟩
      replace hp := hp.below hb6
      replace hri := hri.below hb6
      replace hrj := hrj.below hb6
      replace HB := Lib.hid (bch HB.out hb6)
      clear hb6
      obtain ⟨s1, s2, _⟩ := hot.cap
      replace hot := hot.rd
      clear SY
      go_wp2_with fail
      refine (PY.out At ct w6 hot s1 s2).mono ?_
      rintro e w7 ⟨Ak, ck, Bk, dk, rfl, hrk, hnk, _, _, hb7⟩
      replace hp := hp.below hb7
      replace hri := hri.below hb7
      replace hrj := hrj.below hb7
      replace HB := Lib.hid (bch HB.out hb7)
      clear hb7 hot
      clear PY s1 s2 hnk
      go_wp2_with fail
      refine (RG.out Ai ci w7 hri i1 i2 (h0.below HB.out)).mono ?_
      rintro e w8 ⟨rfl, hb8⟩
      replace hp := hp.below hb8
      replace hri := hri.below hb8
      replace hrj := hrj.below hb8
      replace hrk := hrk.below hb8
      replace HB := Lib.hid (bch HB.out hb8)
      clear hb8
      clear RG i1 i2
      go_wp2_with fail
      refine (irefs_any Ai ci G w8 hri (by omega)).mono ?_
      rintro e w9 ⟨Ra, ra, rfl, hra, hb9⟩
      replace hp := hp.below hb9
      replace hrj := hrj.below hb9
      replace hrk := hrk.below hb9
      replace HB := Lib.hid (bch HB.out hb9)
      clear hb9 hri
      replace hra := hra.rd
      go_wp2_with fail
      refine (irefs_any Aj cj G w9 hrj (by omega)).mono ?_
      rintro e w10 ⟨Rb, rb, rfl, hrb, hb10⟩
      replace hp := hp.below hb10
      replace hrk := hrk.below hb10
      replace hra := hra.below hb10
      replace HB := Lib.hid (bch HB.out hb10)
      clear hb10 hrj
      replace hrb := hrb.rd
      go_wp2_with fail
      refine (items_same Ra Rb ra rb G w10 hra hrb (by omega)).mono ?_
      rintro e w11 ⟨rfl, hb11⟩
      replace hp := hp.below hb11
      replace hrk := hrk.below hb11
      replace HB := Lib.hid (bch HB.out hb11)
      clear hb11 hra hrb
      go_wp2_with fail
      refine (RY.out B1 d1 w11 hp v1 v2 (h0.below HB.out)).mono ?_
      rintro e w12 ⟨rfl, hb12⟩
      replace hp := hp.below hb12
      replace hrk := hrk.below hb12
      replace HB := Lib.hid (bch HB.out hb12)
      clear hb12
      clear RY v1 v2
      go_wp2_with fail
      refine (irefs_any Ak ck K w12 hrk (by omega)).mono ?_
      rintro e w13 ⟨Rc, rc, rfl, hrc, hb13⟩
      replace hp := hp.below hb13
      replace HB := Lib.hid (bch HB.out hb13)
      clear hb13 hrk
      replace hrc := hrc.rd
      go_wp2_with fail
      refine (irefs_any B1 d1 K w13 hp (by omega)).mono ?_
      rintro e w14 ⟨Re, re, rfl, hre, hb14⟩
      replace hrc := hrc.below hb14
      replace HB := Lib.hid (bch HB.out hb14)
      clear hb14 hp
      replace hre := hre.rd
      go_wp2_with fail
      refine (items_same Rc Re rc re K w14 hrc hre (by omega)).mono ?_
      rintro e w15 ⟨rfl, hb15⟩
      replace HB := Lib.hid (bch HB.out hb15)
      clear hb15 hrc hre
      go_wp2_with fail
      refine (F.out w15 (h0.below HB.out)).mono ?_
      rintro e w16 ⟨rfl, hb16⟩
      replace HB := Lib.hid (bch HB.out hb16)
      clear hb16
      clear F
      go_wp2
      go_ret
      exact ⟨rfl, HB.out⟩
    · have hb : false = b := by rw [← hb]; simp [hm]
      subst hb
      have hm0 : ((M.length : Int) == 0) = false := by simp; intro h; exact hm (by rw [h]; rfl)
      clear hm
      go_enter Tryd.func5, Tryd.ntmps5
      go_wp2_with fail
      refine (CA.out _ ra).mono ?_
      rintro e w1 ⟨A1, c1, rfl, ho, hb1⟩
      replace rb := rb.below hb1
      have HB := Lib.hid hb1
      clear hb1
      obtain ⟨u1, u2, _⟩ := ho.cap
      replace ho := ho.rd
      clear CA ra
      go_wp2_with fail
      refine (CB.out _ rb).mono ?_
      rintro e w2 ⟨B1, d1, rfl, hp, hb2⟩
      replace ho := ho.below hb2
      replace HB := Lib.hid (bch HB.out hb2)
      clear hb2 rb
      obtain ⟨v1, v2, _⟩ := hp.cap
      replace hp := hp.rd
      clear CB
      go_wp2_with fail
      refine (PA.out A1 c1 w2 ho u1 u2).mono ?_
      rintro e w3 ⟨Ai, ci, Bi, di, rfl, hri, hni, i1, i2, hb3⟩
      replace hp := hp.below hb3
      replace HB := Lib.hid (bch HB.out hb3)
      clear hb3 ho
      clear PA u1 u2 hni
      go_wp2_with fail
      refine (SG.out Ai ci w3 hri i1 i2).mono ?_
      rintro e w4 ⟨As, cs, rfl, hos, hb4⟩
      replace hp := hp.below hb4
      replace hri := hri.below hb4
      replace HB := Lib.hid (bch HB.out hb4)
      clear hb4
      obtain ⟨s1, s2, _⟩ := hos.cap
      replace hos := hos.rd
      clear SG
      go_wp2_with fail
      refine (PG.out As cs w4 hos s1 s2).mono ?_
      rintro e w5 ⟨Aj, cj, Bj, dj, rfl, hrj, hnj, _, _, hb5⟩
      replace hp := hp.below hb5
      replace hri := hri.below hb5
      replace HB := Lib.hid (bch HB.out hb5)
      clear hb5 hos
      clear PG s1 s2 hnj
      go_wp2_with fail
      refine (SY.out B1 d1 w5 hp v1 v2).mono ?_
      rintro e w6 ⟨At, ct, rfl, hot, hb6⟩
      replace hp := hp.below hb6
      replace hri := hri.below hb6
      replace hrj := hrj.below hb6
      replace HB := Lib.hid (bch HB.out hb6)
      clear hb6
      obtain ⟨s1, s2, _⟩ := hot.cap
      replace hot := hot.rd
      clear SY
      go_wp2_with fail
      refine (PY.out At ct w6 hot s1 s2).mono ?_
      rintro e w7 ⟨Ak, ck, Bk, dk, rfl, hrk, hnk, _, _, hb7⟩
      replace hp := hp.below hb7
      replace hri := hri.below hb7
      replace hrj := hrj.below hb7
      replace HB := Lib.hid (bch HB.out hb7)
      clear hb7 hot
      clear PY s1 s2 hnk
      go_wp2_with fail
      refine (RG.out Ai ci w7 hri i1 i2 (h0.below HB.out)).mono ?_
      rintro e w8 ⟨rfl, hb8⟩
      replace hp := hp.below hb8
      replace hri := hri.below hb8
      replace hrj := hrj.below hb8
      replace hrk := hrk.below hb8
      replace HB := Lib.hid (bch HB.out hb8)
      clear hb8
      clear RG i1 i2
      go_wp2_with fail
      refine (irefs_any Ai ci G w8 hri (by omega)).mono ?_
      rintro e w9 ⟨Ra, ra, rfl, hra, hb9⟩
      replace hp := hp.below hb9
      replace hrj := hrj.below hb9
      replace hrk := hrk.below hb9
      replace HB := Lib.hid (bch HB.out hb9)
      clear hb9 hri
      replace hra := hra.rd
      go_wp2_with fail
      refine (irefs_any Aj cj G w9 hrj (by omega)).mono ?_
      rintro e w10 ⟨Rb, rb, rfl, hrb, hb10⟩
      replace hp := hp.below hb10
      replace hrk := hrk.below hb10
      replace hra := hra.below hb10
      replace HB := Lib.hid (bch HB.out hb10)
      clear hb10 hrj
      replace hrb := hrb.rd
      go_wp2_with fail
      refine (items_same Ra Rb ra rb G w10 hra hrb (by omega)).mono ?_
      rintro e w11 ⟨rfl, hb11⟩
      replace hp := hp.below hb11
      replace hrk := hrk.below hb11
      replace HB := Lib.hid (bch HB.out hb11)
      clear hb11 hra hrb
      go_wp2_with fail
      refine (RY.out B1 d1 w11 hp v1 v2 (h0.below HB.out)).mono ?_
      rintro e w12 ⟨rfl, hb12⟩
      replace hp := hp.below hb12
      replace hrk := hrk.below hb12
      replace HB := Lib.hid (bch HB.out hb12)
      clear hb12
      clear RY v1 v2
      go_wp2_with fail
      refine (irefs_any Ak ck K w12 hrk (by omega)).mono ?_
      rintro e w13 ⟨Rc, rc, rfl, hrc, hb13⟩
      replace hp := hp.below hb13
      replace HB := Lib.hid (bch HB.out hb13)
      clear hb13 hrk
      replace hrc := hrc.rd
      go_wp2_with fail
      refine (irefs_any B1 d1 K w13 hp (by omega)).mono ?_
      rintro e w14 ⟨Re, re, rfl, hre, hb14⟩
      replace hrc := hrc.below hb14
      replace HB := Lib.hid (bch HB.out hb14)
      clear hb14 hp
      replace hre := hre.rd
      go_wp2_with fail
      refine (items_same Rc Re rc re K w14 hrc hre (by omega)).mono ?_
      rintro e w15 ⟨rfl, hb15⟩
      replace HB := Lib.hid (bch HB.out hb15)
      clear hb15 hrc hre
      go_wp2_with fail
      refine (F.out w15 (h0.below HB.out)).mono ?_
      rintro e w16 ⟨rfl, hb16⟩
      replace HB := Lib.hid (bch HB.out hb16)
      clear hb16
      clear F
      go_wp2
      go_ret
      exact ⟨rfl, HB.out⟩
  · have hb : false = b := by rw [← hb]; simp [hky]
    subst hb
    go_enter Tryd.func5, Tryd.ntmps5
    go_wp2_with fail
    refine (CA.out _ ra).mono ?_
    rintro e w1 ⟨A1, c1, rfl, ho, hb1⟩
    replace rb := rb.below hb1
    have HB := Lib.hid hb1
    clear hb1
    obtain ⟨u1, u2, _⟩ := ho.cap
    replace ho := ho.rd
    clear CA ra
    go_wp2_with fail
    refine (CB.out _ rb).mono ?_
    rintro e w2 ⟨B1, d1, rfl, hp, hb2⟩
    replace ho := ho.below hb2
    replace HB := Lib.hid (bch HB.out hb2)
    clear hb2 rb
    obtain ⟨v1, v2, _⟩ := hp.cap
    replace hp := hp.rd
    clear CB
    go_wp2_with fail
    refine (PA.out A1 c1 w2 ho u1 u2).mono ?_
    rintro e w3 ⟨Ai, ci, Bi, di, rfl, hri, hni, i1, i2, hb3⟩
    replace hp := hp.below hb3
    replace HB := Lib.hid (bch HB.out hb3)
    clear hb3 ho
    clear PA u1 u2 hni
    go_wp2_with fail
    refine (SG.out Ai ci w3 hri i1 i2).mono ?_
    rintro e w4 ⟨As, cs, rfl, hos, hb4⟩
    replace hp := hp.below hb4
    replace hri := hri.below hb4
    replace HB := Lib.hid (bch HB.out hb4)
    clear hb4
    obtain ⟨s1, s2, _⟩ := hos.cap
    replace hos := hos.rd
    clear SG
    go_wp2_with fail
    refine (PG.out As cs w4 hos s1 s2).mono ?_
    rintro e w5 ⟨Aj, cj, Bj, dj, rfl, hrj, hnj, _, _, hb5⟩
    replace hp := hp.below hb5
    replace hri := hri.below hb5
    replace HB := Lib.hid (bch HB.out hb5)
    clear hb5 hos
    clear PG s1 s2 hnj
    go_wp2_with fail
    refine (SY.out B1 d1 w5 hp v1 v2).mono ?_
    rintro e w6 ⟨At, ct, rfl, hot, hb6⟩
    replace hp := hp.below hb6
    replace hri := hri.below hb6
    replace hrj := hrj.below hb6
    replace HB := Lib.hid (bch HB.out hb6)
    clear hb6
    obtain ⟨s1, s2, _⟩ := hot.cap
    replace hot := hot.rd
    clear SY
    go_wp2_with fail
    refine (PY.out At ct w6 hot s1 s2).mono ?_
    rintro e w7 ⟨Ak, ck, Bk, dk, rfl, hrk, hnk, _, _, hb7⟩
    replace hp := hp.below hb7
    replace hri := hri.below hb7
    replace hrj := hrj.below hb7
    replace HB := Lib.hid (bch HB.out hb7)
    clear hb7 hot
    clear PY s1 s2 hnk
    go_wp2_with fail
    refine (RG.out Ai ci w7 hri i1 i2 (h0.below HB.out)).mono ?_
    rintro e w8 ⟨rfl, hb8⟩
    replace hp := hp.below hb8
    replace hri := hri.below hb8
    replace hrj := hrj.below hb8
    replace hrk := hrk.below hb8
    replace HB := Lib.hid (bch HB.out hb8)
    clear hb8
    clear RG i1 i2
    go_wp2_with fail
    refine (irefs_any Ai ci G w8 hri (by omega)).mono ?_
    rintro e w9 ⟨Ra, ra, rfl, hra, hb9⟩
    replace hp := hp.below hb9
    replace hrj := hrj.below hb9
    replace hrk := hrk.below hb9
    replace HB := Lib.hid (bch HB.out hb9)
    clear hb9 hri
    replace hra := hra.rd
    go_wp2_with fail
    refine (irefs_any Aj cj G w9 hrj (by omega)).mono ?_
    rintro e w10 ⟨Rb, rb, rfl, hrb, hb10⟩
    replace hp := hp.below hb10
    replace hrk := hrk.below hb10
    replace hra := hra.below hb10
    replace HB := Lib.hid (bch HB.out hb10)
    clear hb10 hrj
    replace hrb := hrb.rd
    go_wp2_with fail
    refine (items_same Ra Rb ra rb G w10 hra hrb (by omega)).mono ?_
    rintro e w11 ⟨rfl, hb11⟩
    replace hp := hp.below hb11
    replace hrk := hrk.below hb11
    replace HB := Lib.hid (bch HB.out hb11)
    clear hb11 hra hrb
    go_wp2_with fail
    refine (RY.out B1 d1 w11 hp v1 v2 (h0.below HB.out)).mono ?_
    rintro e w12 ⟨rfl, hb12⟩
    replace hp := hp.below hb12
    replace hrk := hrk.below hb12
    replace HB := Lib.hid (bch HB.out hb12)
    clear hb12
    clear RY v1 v2
    go_wp2_with fail
    refine (irefs_any Ak ck K w12 hrk (by omega)).mono ?_
    rintro e w13 ⟨Rc, rc, rfl, hrc, hb13⟩
    replace hp := hp.below hb13
    replace HB := Lib.hid (bch HB.out hb13)
    clear hb13 hrk
    replace hrc := hrc.rd
    go_wp2_with fail
    refine (irefs_any B1 d1 y w13 hp (by omega)).mono ?_
    rintro e w14 ⟨Re, re, rfl, hre, hb14⟩
    replace hrc := hrc.below hb14
    replace HB := Lib.hid (bch HB.out hb14)
    clear hb14 hp
    replace hre := hre.rd
    go_wp2_with fail
    refine (items_diff Rc Re rc re K y w14 hrc hre (by omega) (by omega) hky).mono ?_
    rintro e w15 ⟨rfl, hb15⟩
    replace HB := Lib.hid (bch HB.out hb15)
    clear hb15 hrc hre
    go_wp2_with fail
    refine (F.out w15 (h0.below HB.out)).mono ?_
    rintro e w16 ⟨rfl, hb16⟩
    replace HB := Lib.hid (bch HB.out hb16)
    clear hb16
    clear F
    go_wp2
    go_ret
    exact ⟨rfl, HB.out⟩
end Go.Proofs.YtckldeabbkdbjaaDoor

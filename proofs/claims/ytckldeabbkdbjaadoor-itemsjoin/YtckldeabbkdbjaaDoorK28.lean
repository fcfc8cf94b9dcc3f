/-
  What ItemsJoin asks: its walk.
-/
import Derived.Test.YtckldeabbkdbjaaDoorK17
namespace Go.Proofs.YtckldeabbkdbjaaDoor
open Go.RowKit

theorem cl_le : ∀ l : List Tok, clI l ≤ (l.length : Int)
  | [] => by simp [clI]
  | t :: r => by
    have := cl_le r
    rw [clI, List.length_cons]
    split
    · omega
    · split <;> omega
theorem cl_at {x : List Tok} {j : Nat} {f : Tok} (h : x[j]? = some f) : clI (x.drop j) = (if f.1 = 6 then 1 else if f.1 = 5 then -1 else 0) + clI (x.drop (j + 1)) := by
  rw [drop_one h, clI]
set_option maxRecDepth 100000 in
set_option maxHeartbeats 16000000 in
theorem itemsJoin_walk (L : Landed) (A B : Option Addr) (c d : Nat) (ts us : List Tok) (w : World) (h0 : M0 w) (ra : Rd w A ts) (rb : Rd w B us) (la : ts.length ≤ 9223372036854775807) (lb : us.length ≤ 9223372036854775807) (fa : Hid (∀ t ∈ ts, t.2.length ≤ 9223372036854775807)) (fb : Hid (∀ t ∈ us, t.2.length ≤ 9223372036854775807)) :
    Calls Tryd.prog 6 #[.slice A ts.length c, .slice B us.length d] w fun e w' => e = .returned (.bool true) ∧ Below w.heap.size w w' := by
  have CA := Lib.hid (fun w h => lcut_any A c 30 ts w h la fa (by omega))
  have CB := Lib.hid (fun w h => lcut_any B d 30 us w h lb fb (by omega))
  have F := Lib.hid (fun w hm => fixed_any L w hm)
  have hx := cut_len 30 ts
  have hy := cut_len 30 us
  have fx := Lib.hid (cut_fit 30 ts)
  have fy := Lib.hid (cut_fit 30 us)
  generalize cutL 30 ts = x at *
  generalize cutL 30 us = y at *
  have fx4 : Hid (∀ t ∈ x, t.2.length ≤ 4000) := Lib.hid fun t ht => by have := fx.out t ht; omega
  have fy4 : Hid (∀ t ∈ y, t.2.length ≤ 4000) := Lib.hid fun t ht => by have := fy.out t ht; omega
  obtain ⟨t2, ht2⟩ : ∃ t, x ++ [((3 : Int), ([] : By))] = t := ⟨_, rfl⟩
  obtain ⟨t3, ht3⟩ : ∃ t, t2 ++ y = t := ⟨_, rfl⟩
  have h3 : t3 = x ++ (3, []) :: y := by rw [← ht3, ← ht2]; simp
  have l2 : t2.length ≤ 31 := by rw [← ht2]; simp; omega
  have l3 : t3.length ≤ 61 := by rw [← ht3, List.length_append]; omega
  have f34 : Hid (∀ t ∈ t3, t.2.length ≤ 4000) := Lib.hid fun t ht => by
    rw [h3] at ht
    rcases List.mem_append.1 ht with q | q
    · exact fx4.out t q
    · rcases List.mem_cons.1 q with rfl | q
      · exact Nat.zero_le _
      · exact fy4.out t q
  obtain ⟨g1, g2, _⟩ := parse_size x [] [] 64 (by omega) (fun f hf => by cases hf)
  obtain ⟨k1, k2, _⟩ := parse_size y [] [] 64 (by omega) (fun f hf => by cases hf)
  have PA := Lib.hid (fun S sc w h1 h2 h3 => L.parse S sc x w h1 (by omega) h2 h3 fx4)
  have PB := Lib.hid (fun S sc w h1 h2 h3 => L.parse S sc y w h1 (by omega) h2 h3 fy4)
  have PC := Lib.hid (fun S sc w h1 h2 h3 => L.parse S sc t3 w h1 (by omega) h2 h3 f34)
  have HJ := Lib.hid (fun h => items_join (l := x) (k := y) h)
  rw [← h3] at HJ
  obtain ⟨G1, N1, hG1⟩ : ∃ G N, parseI x [] [] = (G, N) := ⟨_, _, rfl⟩
  obtain ⟨G2, N2, hG2⟩ : ∃ G N, parseI y [] [] = (G, N) := ⟨_, _, rfl⟩
  rw [hG1] at g1 g2 PA HJ
  rw [hG2] at k1 k2 PB HJ
  simp only [List.length_nil, Nat.zero_add] at g1 g2 k1 k2 HJ
  have HT2 := Lib.hid ht2
  have HT3 := Lib.hid ht3
  clear hG1 hG2 fx fy fx4 fy4 f34 fa fb ht2 ht3 h3 L
  go_enter Tryd.func6, Tryd.ntmps6
  go_wp2_with fail
  refine (CA.out _ ra).mono ?_
  rintro e w1 ⟨A1, c1, rfl, ho, hb1⟩
  replace rb := rb.below hb1
  have HB := Lib.hid hb1
  clear hb1
  obtain ⟨u1, u2, _⟩ := ho.cap
  replace ho := ho.rd
  clear CA ra
  go_wp2_with fail
  refine (CB.out _ rb).mono ?_
  rintro e w2 ⟨B1, d1, rfl, hp, hb2⟩
  replace ho := ho.below hb2
  replace HB := Lib.hid (bch HB.out hb2)
  clear hb2 rb
  obtain ⟨v1, v2, _⟩ := hp.cap
  replace hp := hp.rd
  clear CB
  go_wp2_with fail
  have HL0 := Lib.hid (show ∀ m, x.length ≤ m → 0 ≤ clI (x.drop m) from fun m hm => by rw [List.drop_of_length_le hm]; exact Int.le_refl 0)
  have HC0 : clI (x.drop x.length) = 0 := by rw [List.drop_of_length_le (Nat.le_refl _)]; rfl
  go_loopw [5, 6] (fun dv i wr => ∃ (j : Nat) (z δ : Int), i = .int .i64 z ∧ z = (j : Int) - 1 ∧ j ≤ x.length ∧ dv = .int .i64 δ ∧ Hid (clI (x.drop j) = δ) ∧ 0 ≤ δ ∧ δ ≤ 30 ∧ Hid (∀ m, j ≤ m → 0 ≤ clI (x.drop m)) ∧ wr = w2) (fun _ i _ => (intOf i + 1).toNat)
  case atStart => exact ⟨x.length, _, 0, rfl, rfl, Nat.le_refl _, rfl, Lib.hid HC0, by omega, by omega, HL0, rfl⟩
  case round =>
    clear HL0 HC0
    obtain ⟨j, z, δ, rfl, hz, hj, rfl, HC, d0, d30, HM, rfl⟩ := hrel
    rcases Nat.eq_zero_or_pos j with hj0 | hjp
    · have hz0 : z < 0 := by omega
      have HS := Lib.hid (show sufI x from fun i => HM.out i (by omega))
      have PD := Lib.hid (HJ.out HS.out)
      clear HC HM HS HJ hz hj hj0
      obtain ⟨G3, HG3⟩ : ∃ G, Hid (G1 ++ (3, []) :: G2 = G) := ⟨_, Lib.hid rfl⟩
      obtain ⟨N3, HN3⟩ : ∃ N, Hid (N1 ++ N2 = N) := ⟨_, Lib.hid rfl⟩
      obtain ⟨G4, HG4⟩ : ∃ G, Hid (G1 ++ [((3 : Int), ([] : By))] = G) := ⟨_, Lib.hid rfl⟩
      have HG5 := Lib.hid (show G4 ++ G2 = G3 by rw [← HG4.out, ← HG3.out]; simp)
      have hl4 : G4.length ≤ 31 := by rw [← HG4.out]; simp; omega
      have hl3 : G3.length ≤ 61 := by rw [← HG5.out, List.length_append]; omega
      have hn3 : N3.length ≤ 60 := by rw [← HN3.out, List.length_append]; omega
      rw [HG3.out, HN3.out] at PD
      rw [PD.out] at PC
      clear PD HG3
      go_wp2_with fail
      refine (PA.out A1 c1 wr ho u1 u2).mono ?_
      rintro e w3 ⟨Ai, ci, Bi, di, rfl, hri, hni, _, _, hb3⟩
      replace ho := ho.below hb3
      replace hp := hp.below hb3
      replace HB := Lib.hid (bch HB.out hb3)
      clear hb3
      clear PA u1 u2
      go_wp2_with fail
      refine (PB.out B1 d1 w3 hp v1 v2).mono ?_
      rintro e w4 ⟨Aj, cj, Bj, dj, rfl, hrj, hnj, _, _, hb4⟩
      replace ho := ho.below hb4
      replace hp := hp.below hb4
      replace hri := hri.below hb4
      replace hni := hni.below hb4
      replace HB := Lib.hid (bch HB.out hb4)
      clear hb4
      clear PB v1 v2
      go_wp2_with (at_builtin; first
        | (refine wpList_append_rdn37 _ rfl _ _ rfl w4.heap.size _ [] rfl (own_empty 48 w4) A1 x.length c1 x rfl rfl (ho.alloc _) (by show 0 + x.length ≤ _; omega) (one_below w4 _).size x rfl ?_
           intro aM1 am1 z1 ow1 hz1
           have D1 := (one_below w4 (.cells #[] 48)).trans hz1
           have aO1 := Lib.hid (ow1.below (one_below z1 (.cells #[.int .i64 3, .string ⟨#[]⟩] 48)))
           have aE1 := Lib.hid (D1.trans ((one_below z1 (.cells #[.int .i64 3, .string ⟨#[]⟩] 48)).mono D1.size))
           clear ow1 hz1 D1)
        | (refine wpList_append_rdn37 _ rfl _ _ rfl w4.heap.size _ x rfl aO1.out (some ⟨z1.heap.size, 0, none⟩) 1 1 [(3, [])] rfl rfl (one_read (new_fst _ _ _ _) (new_snd _ _ _ _)) (by show x.length + 1 ≤ _; omega) aE1.out.size t2 HT2.out ?_
           intro aM2 am2 z2 ow2 hz2
           have aE2 := Lib.hid (aE1.out.trans hz2)
           have aO2 := Lib.hid ow2
           clear ow2 hz2 aO1 aE1)
        | (refine wpList_append_rdn37 _ rfl _ _ rfl w4.heap.size _ t2 rfl aO2.out B1 y.length d1 y rfl rfl (hp.below aE2.out) (by omega) aE2.out.size t3 HT3.out ?_
           intro aM3 am3 z3 ow3 hz3
           have aE3 := Lib.hid (aE2.out.trans hz3)
           have aO3 := Lib.hid ow3
           clear ow3 hz3 aO2 aE2))
      obtain ⟨s1, s2, _⟩ := aO3.out.cap
      have hat := aO3.out.rd
      replace hri := hri.below aE3.out
      replace hni := hni.below aE3.out
      replace hrj := hrj.below aE3.out
      replace hnj := hnj.below aE3.out
      replace HB := Lib.hid (bch HB.out aE3.out)
      clear ho hp aO3 aE3 HT2 HT3
      refine (PC.out aM3 am3 z3 hat s1 s2).mono ?_
      rintro e w5 ⟨Ak, ck, Bk, dk, rfl, hrk, hnk, _, _, hb5⟩
      replace hri := hri.below hb5
      replace hni := hni.below hb5
      replace hrj := hrj.below hb5
      replace hnj := hnj.below hb5
      replace HB := Lib.hid (bch HB.out hb5)
      clear hb5 hat s1 s2 PC
      go_wp2_with (at_builtin; first
        | (refine wpList_append_rdni _ rfl _ _ rfl w5.heap.size _ [] rfl (own_empty 49 w5) Ai G1.length ci G1 rfl rfl (hri.alloc _) (by show 0 + G1.length ≤ _; omega) (one_below w5 _).size G1 rfl ?_
           intro bM1 bm1 q1 ow1 hz1
           have D1 := (one_below w5 (.cells #[] 49)).trans hz1
           have bO1 := Lib.hid (ow1.below (one_below q1 (.cells #[.int .i64 3, .string ⟨#[]⟩] 49)))
           have bE1 := Lib.hid (D1.trans ((one_below q1 (.cells #[.int .i64 3, .string ⟨#[]⟩] 49)).mono D1.size))
           clear ow1 hz1 D1)
        | (refine wpList_append_rdni _ rfl _ _ rfl w5.heap.size _ G1 rfl bO1.out (some ⟨q1.heap.size, 0, none⟩) 1 1 [(3, [])] rfl rfl (one_read (new_fst _ _ _ _) (new_snd _ _ _ _)) (by show G1.length + 1 ≤ _; omega) bE1.out.size G4 HG4.out ?_
           intro bM2 bm2 q2 ow2 hz2
           have bE2 := Lib.hid (bE1.out.trans hz2)
           have bO2 := Lib.hid ow2
           clear ow2 hz2 bO1 bE1)
        | (refine wpList_append_rdni _ rfl _ _ rfl w5.heap.size _ G4 rfl bO2.out Aj G2.length cj G2 rfl rfl (hrj.below bE2.out) (by omega) bE2.out.size G3 HG5.out ?_
           intro bM3 bm3 q3 ow3 hz3
           have bE3 := Lib.hid (bE2.out.trans hz3)
           have bO3 := Lib.hid ow3
           clear ow3 hz3 bO2 bE2)
        | (refine wpList_append_rdnn _ rfl _ _ rfl q3.heap.size _ [] rfl (own_empty 64 q3) Bi N1.length di N1 rfl rfl ((hni.below bE3.out).alloc _) (by show 0 + N1.length ≤ _; omega) (one_below q3 _).size N1 rfl ?_
           intro cM1 cm1 r1 ow1 hz1
           have cE1 := Lib.hid ((one_below q3 (.cells #[] 64)).trans hz1)
           have cO1 := Lib.hid ow1
           clear ow1 hz1)
        | (refine wpList_append_rdnn _ rfl _ _ rfl q3.heap.size _ N1 rfl cO1.out Bj N2.length dj N2 rfl rfl ((hnj.below bE3.out).below cE1.out) (by omega) cE1.out.size N3 HN3.out ?_
           intro cM2 cm2 r2 ow2 hz2
           have cE2 := Lib.hid (cE1.out.trans hz2)
           have cO2 := Lib.hid ow2
           clear ow2 hz2 cO1 cE1))
      have hwt := (bO3.out.below cE2.out).rd
      have hnt := cO2.out.rd
      have hrk := (hrk.below bE3.out).below cE2.out
      have hnk := (hnk.below bE3.out).below cE2.out
      replace HB := Lib.hid (bch (bch HB.out bE3.out) cE2.out)
      clear hri hni hrj hnj bO3 bE3 cO2 cE2 HG4 HG5 HN3
      refine (irefs_any Ak ck G3 r2 hrk (by omega)).mono ?_
      rintro e w6 ⟨Ra, ra, rfl, hra, hb6⟩
      replace hra := hra.rd
      replace hwt := hwt.below hb6
      replace hnt := hnt.below hb6
      replace hnk := hnk.below hb6
      replace HB := Lib.hid (bch HB.out hb6)
      clear hb6 hrk
      go_wp2_with fail
      refine (irefs_any bM3 bm3 G3 w6 hwt (by omega)).mono ?_
      rintro e w7 ⟨Rb, rb, rfl, hrb, hb7⟩
      replace hra := hra.below hb7
      replace hnt := hnt.below hb7
      replace hnk := hnk.below hb7
      replace HB := Lib.hid (bch HB.out hb7)
      clear hb7 hwt
      replace hrb := hrb.rd
      go_wp2_with fail
      refine (items_same Ra Rb ra rb G3 w7 hra hrb (by omega)).mono ?_
      rintro e w8 ⟨rfl, hb8⟩
      replace hnt := hnt.below hb8
      replace hnk := hnk.below hb8
      replace HB := Lib.hid (bch HB.out hb8)
      clear hb8 hra hrb
      go_wp2_with fail
      refine (notes_same Bk cM2 dk cm2 N3 w8 hnk hnt (by omega)).mono ?_
      rintro e w9 ⟨rfl, hb9⟩
      replace HB := Lib.hid (bch HB.out hb9)
      clear hb9 hnk hnt
      go_wp2_with fail
      refine (F.out w9 (h0.below HB.out)).mono ?_
      rintro e w10 ⟨rfl, hb10⟩
      replace HB := Lib.hid (bch HB.out hb10)
      clear hb10
      clear F
      go_wp2
      go_ret
      exact ⟨rfl, HB.out⟩
    · obtain ⟨p, rfl⟩ : ∃ p, j = p + 1 := ⟨j - 1, by omega⟩
      have hzp : z = (p : Int) := by omega
      subst hzp
      have i0 : (0 : Int) ≤ (p : Int) := by omega
      have ipx : (p : Int) < (x.length : Int) := by omega
      obtain ⟨b1, o1, hS, hcell⟩ := ho (by omega)
      subst hS
      obtain ⟨f, hf⟩ : ∃ f, x[p]? = some f := ⟨_, List.getElem?_eq_getElem (by omega)⟩
      obtain ⟨c1f, c2f⟩ := hcell p f hf
      have HCC := Lib.hid (cl_at hf)
      rw [HC.out] at HCC
      have HB30 := Lib.hid (show clI (x.drop p) ≤ 30 by have := cl_le (x.drop p); rw [List.length_drop] at this; omega)
      clear hz hjp hcell hf HC HJ PA PB PC
      obtain ⟨κ, zz⟩ := f
      simp only at c1f HCC
      by_cases k6 : κ = 6
      · subst k6
        have HC2 := Lib.hid (show clI (x.drop p) = δ + 1 by rw [HCC.out, if_pos rfl]; omega)
        have HM2 := Lib.hid (show ∀ m, p ≤ m → 0 ≤ clI (x.drop m) from fun m hm => by
          rcases Nat.lt_or_ge m (p + 1) with q | q
          · rw [show m = p by omega, HC2.out]; omega
          · exact HM.out m q)
        go_wp2_with fail
        go_roundw
        case rel => exact ⟨p, _, _, rfl, rfl, by omega, rfl, HC2, by omega, by have := HB30.out; rw [HC2.out] at this; omega, HM2, by first | rfl | trivial⟩
        case measure => simp [intOf] <;> omega
      · have n6 : (κ == 6) = false := by simpa using k6
        by_cases k5 : κ = 5
        · subst k5
          by_cases hd : δ = 0
          · subst hd
            go_wp2_with fail
            refine (F.out wr (h0.below HB.out)).mono ?_
            rintro e w9 ⟨rfl, hb9⟩
            go_wp2
            go_ret
            exact ⟨rfl, bch HB.out hb9⟩
          · have hd1 : 1 ≤ δ := by omega
            have HC2 := Lib.hid (show clI (x.drop p) = δ - 1 by rw [HCC.out, if_neg (by decide), if_pos rfl]; omega)
            have HM2 := Lib.hid (show ∀ m, p ≤ m → 0 ≤ clI (x.drop m) from fun m hm => by
              rcases Nat.lt_or_ge m (p + 1) with q | q
              · rw [show m = p by omega, HC2.out]; omega
              · exact HM.out m q)
            go_wp2_with fail
            go_roundw
            case rel => exact ⟨p, _, _, rfl, rfl, by omega, rfl, HC2, by omega, by have := HB30.out; rw [HC2.out] at this; omega, HM2, by first | rfl | trivial⟩
            case measure => simp [intOf] <;> omega
        · have n5 : (κ == 5) = false := by simpa using k5
          have HC2 := Lib.hid (show clI (x.drop p) = δ by rw [HCC.out, if_neg k6, if_neg k5]; omega)
          have HM2 := Lib.hid (show ∀ m, p ≤ m → 0 ≤ clI (x.drop m) from fun m hm => by
            rcases Nat.lt_or_ge m (p + 1) with q | q
            · rw [show m = p by omega, HC2.out]; omega
            · exact HM.out m q)
          go_wp2_with fail
          go_roundw
          case rel => exact ⟨p, _, _, rfl, rfl, by omega, rfl, HC2, by omega, by have := HB30.out; rw [HC2.out] at this; omega, HM2, by first | rfl | trivial⟩
          case measure => simp [intOf] <;> omega
end Go.Proofs.YtckldeabbkdbjaaDoor

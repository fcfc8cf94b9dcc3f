/-
  The document's Args.
-/
import Derived.Test.YtjneeikkakekjaaDoorNC
namespace Go.Proofs.YtjneeikkakekjaaDoor
open Go.RowKit

set_option maxRecDepth 100000 in
set_option maxHeartbeats 8000000 in
theorem rargs_any (A : Option Addr) (c : Nat) (ts : List Tok) (x y : Int) (w : World) (hr : Rd w A ts) (hl : ts.length ≤ 100000) (hcap : ts.length ≤ c) (hc63 : c ≤ 9223372036854775807) :
    Calls Tryd.prog 14 #[.slice A ts.length c, .int .i64 x, .int .i64 y] w (ArgsPost 28 w (argsE ts x y)) := by
  have HO0 := Lib.hid (ownL_nil 28 w w.heap.size)
  have HBR := Lib.hid (Below.refl w.heap.size w)
  by_cases hx0 : x < 0
  · rw [argsE_out (.inl (by omega))]
    go_enter Tryd.func14, Tryd.ntmps14
    go_wp2
    go_ret3
    exact ⟨none, 0, rfl, HO0.out, HBR.out⟩
  · by_cases hx1 : (ts.length : Int) < x
    · rw [argsE_out (.inl (by omega))]
      go_enter Tryd.func14, Tryd.ntmps14
      go_wp2
      go_ret3
      exact ⟨none, 0, rfl, HO0.out, HBR.out⟩
    · by_cases hy1 : y < 0
      · rw [argsE_out (.inr (.inl hy1))]
        go_enter Tryd.func14, Tryd.ntmps14
        go_wp2
        go_ret3
        exact ⟨none, 0, rfl, HO0.out, HBR.out⟩
      · by_cases hy2 : 9 < y
        · rw [argsE_out (.inr (.inr hy2))]
          go_enter Tryd.func14, Tryd.ntmps14
          go_wp2
          go_ret3
          exact ⟨none, 0, rfl, HO0.out, HBR.out⟩
        · obtain ⟨a, rfl⟩ : ∃ a : Nat, x = a := ⟨x.toNat, by omega⟩
          obtain ⟨n, rfl⟩ : ∃ n : Nat, y = n := ⟨y.toNat, by omega⟩
          have ha : a ≤ ts.length := by omega
          have hn : n ≤ 9 := by omega
          rw [argsE_in ha hn]
          obtain ⟨G, hG⟩ : ∃ G, argsG ts n a = G := ⟨_, rfl⟩
          rw [hG]
          have HG := Lib.hid (show (argsG ts (n - 0) a).map (fun x => ([] ++ x.1, x.2)) = G by rw [← hG]; simp)
          have HO1 := Lib.hid (ownL_empty 28 w)
          have HB1 := Lib.hid (one_below w (.cells #[] 28))
          clear hG HO0 HBR
          go_enter Tryd.func14, Tryd.ntmps14
          go_wp2_with fail
          go_loopw [10, 9, 1] (fun v10 v9 v1 wr => ∃ (j p : Nat) (C : Option Addr) (cc : Nat) (out : List (List Tok)), v10 = .int .i64 j ∧ v9 = .slice C out.length cc ∧ v1 = .int .i64 p ∧ j ≤ n ∧ p ≤ ts.length ∧ out.length ≤ j ∧ Hid ((argsG ts (n - j) p).map (fun x => (out ++ x.1, x.2)) = G) ∧ Hid (OwnL 28 wr w.heap.size C cc out) ∧ Hid (Below w.heap.size w wr)) (fun v10 _ _ _ => n - (intOf v10).toNat)
          case atStart => exact ⟨0, a, _, 0, [], rfl, rfl, rfl, Nat.zero_le _, ha, Nat.le_refl _, HG, HO1, HB1⟩
          case round =>
            clear HG HO1 HB1 ha hx0 hx1
            obtain ⟨j, p, C, cc, out, rfl, rfl, rfl, hj, hp, hout, HE, HO, HB⟩ := hrel
            by_cases hlt : j < n
            · have i1 : (j : Int) < (n : Int) := by omega
              have hrw := hr.below HB.out
              obtain ⟨hs1, hs2⟩ := skip_le hp
              obtain ⟨s, hs⟩ : ∃ s, skipN ts p = s := ⟨_, rfl⟩
              rw [hs] at hs1 hs2
              have HS := Lib.hid hs
              have HRW := Lib.hid hrw
              clear hrw
              go_wp2_with fail
              go_loop [1] (fun v => ∃ k : Nat, v = .int .i64 k ∧ k ≤ ts.length ∧ Hid (skipN ts k = s)) (fun v => ts.length - (intOf v).toNat)
              case atStart => exact ⟨p, rfl, hp, HS⟩
              case round =>
                obtain ⟨k, rfl, hk, HK⟩ := hrel
                by_cases hkl : k < ts.length
                · obtain ⟨b, o, rfl, hcell⟩ := HRW.out (by omega)
                  obtain ⟨f, hf⟩ : ∃ f, ts[k]? = some f := ⟨_, List.getElem?_eq_getElem hkl⟩
                  obtain ⟨c1, c2⟩ := hcell k f hf
                  have i2 : (k : Int) < (ts.length : Int) := by omega
                  by_cases h2 : f.1 = 2
                  · have HN := Lib.hid ((skip_step hf h2).symm.trans HK.out)
                    rw [h2] at c1
                    clear hf hcell h2 HK hs c2
                    go_wp2
                    go_round
                    case rel => exact ⟨k + 1, by go_num, by omega, HN⟩
                    case measure => simp [intOf]; omega
                  · have e := (skip_stop hf h2).symm.trans HK.out
                    subst e
                    have q2 : (f.1 == 2) = false := by simpa using h2
                    clear hf hcell h2 HK c2
                    have hE := HE.out
                    rw [show n - j = (n - (j + 1)) + 1 by omega] at hE
                    have HE2 := Lib.hid hE
                    have HC := Lib.hid c1
                    clear hE HE hs c1
                    cases hgr : grpN ts k with
                    | none =>
                      have HGN := Lib.hid hgr
                      have HGR := Lib.hid (show grpE ts k = (0, 10) by rw [grpE_in hk, hgr]; rfl)
                      have c1 := HC.out
                      clear hgr HC
                      have HN := Lib.hid (args_stop (by rw [HS.out]; exact HGN.out) HE2.out)
                      have C2 := Lib.hid (rgroup_any (some ⟨b, o, none⟩) c ts k wr HRW.out (by omega))
                      rw [HGR.out] at C2
                      clear HGN HE2 HO
                      go_wp2_with fail
                      refine C2.out.mono ?_
                      rintro e w2 ⟨rfl, rfl⟩
                      go_wp2
                      go_ret3
                      rw [HN.out]
                      exact ⟨none, 0, rfl, ownL_nil _ _ _, HB.out⟩
                    | some q =>
                      obtain ⟨hq1, hq2, hq3, _⟩ := grp_some hgr
                      have hst := args_step (by rw [HS.out]; exact hgr) HE2.out
                      rw [HS.out] at hst
                      have hwl := within_len hq3 hq2
                      have hpart := fun w => rtok_part (A := some ⟨b, o, none⟩) (n := ts.length) (c := c) (l := k + 1) (h := q - 1) (by omega) (by omega) w
                      rw [show ((k + 1 : Nat) : Int) = (k : Int) + 1 by omega, show ((q - 1 : Nat) : Int) = (q : Int) - 1 by omega] at hpart
                      have hrp : Rd wr (cutS 2 (some ⟨b, o, none⟩) c (k + 1)) (within ts k q) := HRW.out.part (by omega) hcap
                      obtain ⟨i, hi⟩ : ∃ i, within ts k q = i := ⟨_, rfl⟩
                      have hil : i.length ≤ 100000 := by rw [← hi]; have := within_le (l := ts) (a := k) (p := q); omega
                      rw [hi] at hst hwl hrp
                      rw [← hwl] at hpart
                      generalize cutS 2 (some ⟨b, o, none⟩) c (k + 1) = B at *
                      generalize c - (k + 1) = d at *
                      obtain ⟨o2, ho2⟩ : ∃ o2, out ++ [i] = o2 := ⟨_, rfl⟩
                      rw [ho2] at hst
                      have HN := Lib.hid hst
                      have HYL := Lib.hid (show o2.length = out.length + 1 by rw [← ho2]; simp)
                      have HY := Lib.hid ho2
                      have HGR := Lib.hid (show grpE ts k = ((q : Int), 0) by rw [grpE_in hk, hgr]; rfl)
                      have HRP := Lib.hid hrp
                      have HQ := Lib.hid hq3
                      have C2 := Lib.hid (rgroup_any (some ⟨b, o, none⟩) c ts k wr HRW.out (by omega))
                      rw [HGR.out] at C2
                      have HIL := Lib.hid hil
                      have c1 := HC.out
                      clear hgr HE2 hst hrp hi ho2 hwl hil HC
                      go_wp2_with fail
                      refine C2.out.mono ?_
                      rintro e w2 ⟨rfl, rfl⟩
                      have SB := one_below wr (.cells #[] 81)
                      have HSB := Lib.hid SB
                      have HR2 := Lib.hid (HRP.out.below SB)
                      have HE0 := Lib.hid (own_empty 81 wr)
                      have hil : i.length ≤ 100000 := HIL.out
                      clear SB HRP C2 c1
                      go_wp2_with (at_builtin; first
                        | (refine wpList_append_rdn40 _ rfl _ _ rfl wr.heap.size _ [] rfl HE0.out B i.length d i rfl rfl HR2.out (by show 0 + i.length ≤ _; omega) HSB.out.size i rfl ?_
                           intro B2 d2 w3 ho3 hb3
                           have S3 := HSB.out.trans hb3
                           have SB3 := S3.trans ((one_below w3 (.cells #[.slice B2 i.length d2] 28)).mono S3.size)
                           have HO3 := Lib.hid (HO.out.below SB3)
                           have HB3 := Lib.hid (bch HB.out SB3)
                           have HR3 := Lib.hid (ho3.rd.below (one_below w3 (.cells #[.slice B2 i.length d2] 28)))
                           have HF3 := Lib.hid (own_far ho3 HO.out.lt)
                           clear HO ho3 hb3 S3 SB3 HE0 HR2 HSB HB)
                        | (refine wpList_append_l 33 28 Tryd.underlying33 Tryd.infoL28 _ rfl _ _ rfl w.heap.size C cc out rfl HO3.out w3.heap.size B2 d2 i rfl (new_one _ _ _) HR3.out HF3.out (by omega) HB3.out.size o2 HY.out ?_
                           intro N2 nc2 w4 hown4 hb4
                           have HB4 := Lib.hid (HB3.out.trans hb4)
                           have HO4 := Lib.hid hown4
                           clear HO3 HB3 hb4 hown4))
                      go_roundw
                      case rel => exact ⟨j + 1, q, N2, nc2, o2, by go_num, rfl, rfl, by omega, HQ.out, by have := HYL.out; omega, HN, HO4, HB4⟩
                      case measure => simp [intOf]; omega
                · have e := (skip_end (by omega)).symm.trans HK.out
                  subst e
                  have i2 : ¬ (k : Int) < (ts.length : Int) := by omega
                  clear HK
                  have hE := HE.out
                  rw [show n - j = (n - (j + 1)) + 1 by omega] at hE
                  have HE2 := Lib.hid hE
                  have HGN := Lib.hid (grp_out (l := ts) (a := k) (by omega))
                  have HGR := Lib.hid (show grpE ts k = (0, 10) by rw [grpE_in hk, HGN.out]; rfl)
                  clear hE HE hs
                  have HN := Lib.hid (args_stop (by rw [HS.out]; exact HGN.out) HE2.out)
                  have C2 := Lib.hid (rgroup_any A c ts k wr HRW.out (by omega))
                  rw [HGR.out] at C2
                  clear HGN HE2 HO
                  go_wp2_with fail
                  refine C2.out.mono ?_
                  rintro e w2 ⟨rfl, rfl⟩
                  go_wp2
                  go_ret3
                  rw [HN.out]
                  exact ⟨none, 0, rfl, ownL_nil _ _ _, HB.out⟩
            · have hE := HE.out
              rw [show n - j = 0 by omega] at hE
              have HN := Lib.hid (args_end hE)
              have i1 : ¬ (j : Int) < (n : Int) := by omega
              clear hE HE
              go_wp2
              go_ret3
              rw [HN.out]
              exact ⟨C, cc, rfl, HO.out, HB.out⟩
end Go.Proofs.YtjneeikkakekjaaDoor

/-
  The walk of FilesDo: for every list of files and every list of bools it returns true; old memory stays.
-/
import Derived.Test.YtdaekfigpkogbaaR4
namespace Go.Proofs.Ytdaekfigpkogbaa
open Go.RowKit

/-- A slice that reads as these bools. -/
def RdB (w : World) (A : Option Addr) (xs : List Bool) : Prop :=
  0 < xs.length → ∃ b o, A = some ⟨b, o, none⟩ ∧ ∀ i x, xs[i]? = some x → w.cell? ⟨b, o + i, none⟩ = some (.bool x)
theorem RdB.below {w w' : World} {A : Option Addr} {xs : List Bool} (h : RdB w A xs) (hb : Below w.heap.size w w') : RdB w' A xs := fun h0 => by
  obtain ⟨b, o, e, hc⟩ := h h0
  exact ⟨b, o, e, fun i f hi => cell_below hb (hc i f hi)⟩
theorem quiet_left' {P : Program} {f : FuncId} {args : Array Value} {w : World} {n : Nat} {v : Value}
    (h : Calls P f args (w.drewN n) fun e w' => e = .returned v ∧ w.drewN n = w') : Calls P f args (w.drewN n) fun e w'' => e = .returned v ∧ ∃ m, w'' = w.drewN m :=
  h.mono fun _ _ ⟨he, hm⟩ => ⟨he, n, hm.symm⟩

set_option maxRecDepth 100000 in
set_option maxHeartbeats 8000000 in
theorem filesDo_walk (A D : Option Addr) (c dc : Nat) (fs : List Fl) (ds : List Bool) (w : World) (hr : Rd w A fs) (hd : RdB w D ds) (hf : Hid (Fit fs)) (hl : fs.length ≤ 9223372036854775807) (hdl : ds.length ≤ 9223372036854775807) :
    Calls Try.prog 3 #[.slice A fs.length c, .slice D ds.length dc] w fun e w' => e = .returned (.bool true) ∧ Below w.heap.size w w' := by
  have b1 := one_below w (.cells #[] 25)
  have b2 := one_below (w.alloc (.cells #[] 25)) (.cells #[] 25)
  have oc : Own ((w.alloc (.cells #[] 25)).alloc (.cells #[] 25)) 0 (some ⟨w.heap.size, 0, none⟩) 0 [] := ((own_empty w).mono (Nat.zero_le _)).below b2
  have bw := bch b1 b2
  clear b1 b2
  go_enter Try.func3, Try.ntmps3
  go_wp2_with fail
  go_loopw [5, 6, 7] (fun va vb i wr => ∃ (k : Nat) (C B : Option Addr) (cc bc : Nat) (xs : List Fl), k ≤ fs.length ∧ k ≤ 60 ∧ i = .int .i64 k ∧ va = .slice C xs.length cc ∧ vb = .slice B xs.length bc ∧ Good xs ∧ Own wr 0 C cc xs ∧ Rd wr B xs ∧ Below w.heap.size w wr) (fun _ _ i _ => fs.length - (intOf i).toNat)
  case atStart => exact ⟨0, _, _, 0, 0, [], Nat.zero_le _, Nat.zero_le _, rfl, rfl, rfl, Good.nil, oc, Rd.empty _ _, bw⟩
  case round =>
    clear oc bw
    obtain ⟨k, C, B, cc, bc, xs, hk, hk2, rfl, rfl, rfl, hgx, hoc, hrb, hb⟩ := hrel
    have lx := hgx.2.1
    have GX := Lib.hid hgx
    have SX := Lib.hid hgx.1
    clear hgx
    by_cases hgo : k < fs.length ∧ k < 60
    · obtain ⟨h1, h2⟩ := hgo
      have hrw := hr.below hb
      obtain ⟨b, o, rfl, hcell⟩ := hrw (by omega)
      obtain ⟨f, hf1⟩ : ∃ f, fs[k]? = some f := ⟨_, List.getElem?_eq_getElem h1⟩
      obtain ⟨c1, c2⟩ := hcell k f hf1
      obtain ⟨l1, l2⟩ := hf.out f (List.mem_of_getElem? hf1)
      clear hf1 hcell hrw
      obtain ⟨g, hg⟩ : ∃ g, g = cutF f := ⟨_, rfl⟩
      have hcut := cut_any f wr l1 l2
      have e1 : f.1.take 40 = g.1 := by rw [hg]; rfl
      have e2 : f.2.take 4100 = g.2 := by rw [hg]; rfl
      have g1 : g.1.length ≤ 40 := by rw [← e1]; simp; omega
      have g2 : g.2.length ≤ 4100 := by rw [← e2]; simp; omega
      rw [e1, e2] at hcut
      have HC := Lib.hid hcut
      clear hcut hg e1 e2
      obtain ⟨cp1, cp2, _⟩ := hoc.cap
      have G1 := Lib.hid (fun (w' : World) (h : Rd w' C xs) => get_any C cc xs g.1 w' h (by omega) SX)
      have G2 := Lib.hid (fun (w' : World) (h : Rd w' B xs) => rget_any B bc xs g.1 w' h (by omega))
      have D1 := Lib.hid (fun (w' : World) (h : Rd w' C xs) => drop_any C cc xs g.1 w' h (by omega) cp1 cp2 SX)
      have D2 := Lib.hid (fun (w' : World) (h : Rd w' B xs) => rdrop_any B bc xs g.1 w' h (by omega))
      have P1 := Lib.hid (fun (w' : World) (h : Rd w' C xs) => put_any C cc xs g w' h (by omega) cp1 cp2 SX (by omega) (by omega))
      have P2 := Lib.hid (fun (w' : World) (h : Rd w' B xs) => rput_any B bc xs g w' h (by omega) (by omega) (by omega))
      have hdg := dropL_good GX.out g.1
      have hpg : putE xs g = 0 → Good (putL xs g) := fun h => putL_good GX.out h
      have hry := fun (h : putE xs g = 0) => putR_yes h
      have hrn := fun (h : putE xs g ≠ 0) => putR_no h
      generalize dropL xs g.1 = xd at D1 D2 hdg
      generalize putL xs g = xp at hpg hry
      generalize putR xs g = xq at P1 P2 hry hrn
      generalize putE xs g = pe at P1 P2 hpg hry hrn
      generalize txtL xs g.1 = s at G1 G2
      generalize hasL xs g.1 = si at G1 G2 D1 D2
      have N1 := Lib.hid (fun (w' : World) => name_any g.1 w' (by omega))
      have N2 := Lib.hid (fun (w' : World) => rname_any g.1 w' (by omega))
      generalize nmOk g.1 = nb at N1 N2
      have HDG := Lib.hid hdg
      have HPG := Lib.hid hpg
      have HRY := Lib.hid hry
      have HRN := Lib.hid hrn
      clear hdg hpg hry hrn
      have HOC := Lib.hid hoc
      have HRB := Lib.hid hrb
      clear hoc hrb
      have qs : (s == s) = true := by simp
      have qi : (si == si) = true := by simp
      have qn : (nb == nb) = true := by simp
      have qs' : (s != s) = false := by simp
      have qi' : (si != si) = false := by simp
      have qn' : (nb != nb) = false := by simp
      go_wp2_with fail
      refine HC.out.mono ?_
      rintro e w1 ⟨rfl, hb1⟩
      have bb := one_below w1 (.cells #[.string ⟨g.1.toArray⟩, .string ⟨g.2.toArray⟩] 25)
      have k1 := new_fst w1 (.string ⟨g.1.toArray⟩) (.string ⟨g.2.toArray⟩) 25
      have k2 := new_snd w1 (.string ⟨g.1.toArray⟩) (.string ⟨g.2.toArray⟩) 25
      have hbw := bch hb1 bb
      have roc := HOC.out.below hbw
      have rrc := roc.rd
      have rrb := HRB.out.below hbw
      replace hb := bch hb hbw
      clear hb1 bb hbw
      go_wp2_with fail
      generalize w1.alloc (.cells #[.string ⟨g.1.toArray⟩, .string ⟨g.2.toArray⟩] 25) = w2 at k1 k2 roc rrc rrb hb ⊢
      refine (G1.out _ rrc).mono ?_
      rintro e w3 ⟨rfl, hb3⟩
      replace k1 := cell_below hb3 k1
      replace k2 := cell_below hb3 k2
      replace roc := roc.below hb3
      replace rrc := rrc.below hb3
      replace rrb := rrb.below hb3
      replace hb := bch hb hb3
      clear hb3
      go_wp2_with fail
      refine (G2.out _ rrb).mono ?_
      rintro e w4 ⟨rfl, rfl⟩
      go_wp2_with fail
      go_quiet ((first | (go_at_call 12; exact quiet_left' (N1.out _)) | (go_at_call 13; exact quiet_left' (N2.out _))))
      replace hb := bch hb (drewN_below w3 nq)
      replace roc := roc.below (drewN_below w3 nq)
      replace rrc := rrc.below (drewN_below w3 nq)
      replace rrb := rrb.below (drewN_below w3 nq)
      replace k1 := cell_below (drewN_below w3 nq) k1
      replace k2 := cell_below (drewN_below w3 nq) k2
      generalize w3.drewN nq = w5 at hb roc rrc rrb k1 k2 ⊢
      clear c1 c2 G1 G2 N1 N2 HC HOC HRB qs qs' qn qn'
      have hdw := hd.below hb
      have hway : (∃ b2 o2, D = some ⟨b2, o2, none⟩ ∧ k < ds.length ∧ w5.cell? ⟨b2, o2 + k, none⟩ = some (.bool true)) ∨ (∃ b2 o2, D = some ⟨b2, o2, none⟩ ∧ k < ds.length ∧ w5.cell? ⟨b2, o2 + k, none⟩ = some (.bool false)) ∨ ¬ k < ds.length := by
        rcases Nat.lt_or_ge k ds.length with q | q
        · obtain ⟨b2, o2, e, hc⟩ := hdw (by omega)
          have := hc k ds[k] (List.getElem?_eq_getElem q)
          cases hx : ds[k]
          · rw [hx] at this; exact .inr (.inl ⟨b2, o2, e, q, this⟩)
          · rw [hx] at this; exact .inl ⟨b2, o2, e, q, this⟩
        · exact .inr (.inr (by omega))
      clear hdw
      rcases hway with ⟨b2, o2, rfl, hk3, dcell⟩ | ⟨b2, o2, rfl, hk3, dcell⟩ | hk3
      · have i3 : (k : Int) < (ds.length : Int) := by omega
        have ly := HDG.out.2.1
        have FY := Lib.hid HDG.out.fit
        have RY := Lib.hid (rightB_good HDG.out)
        go_wp2_with fail
        refine (D1.out _ rrc).mono ?_
        rintro e w6 ⟨C6, c6, rfl, o6, hb6⟩
        replace hb := bch hb hb6
        replace k1 := cell_below hb6 k1
        replace k2 := cell_below hb6 k2
        replace rrb := rrb.below hb6
        clear hb6
        go_wp2_with fail
        refine (D2.out _ rrb).mono ?_
        rintro e w7 ⟨C7, c7, rfl, o7, hb7⟩
        replace hb := bch hb hb7
        have oN := (o6.mono (Nat.zero_le _)).below hb7
        have rN := o7.rd
        clear hb7 k1 k2 rrb rrc roc o6 o7
        go_wp2_with fail
        refine (equal_any C6 C7 c6 c7 xd xd _ oN.rd rN (by omega) (by omega)).mono ?_
        rw [decide_eq_true rfl]
        rintro e wE ⟨rfl, nE, rfl⟩
        replace hb := bch hb (drewN_below w7 nE)
        have oE := oN.below (drewN_below w7 nE)
        have rE := rN.below (drewN_below w7 nE)
        generalize w7.drewN nE = wF at hb oE rE ⊢
        go_wp2_with fail
        refine (right_any C6 c6 xd _ oE.rd (by omega) FY.out).mono ?_
        rw [RY.out]
        rintro e wG ⟨rfl, hbG⟩
        go_wp2
        go_roundw
        case rel => exact ⟨k + 1, C6, C7, c6, c7, xd, by omega, by omega, by go_num, rfl, rfl, HDG.out, oE.below hbG, rE.below hbG, bch hb hbG⟩
        case measure => simp [intOf]; omega
      · have i3 : (k : Int) < (ds.length : Int) := by omega
        by_cases hpe : pe = 0
        · subst hpe
          have hq := (HRY.out rfl).symm
          subst hq
          have hgp := HPG.out rfl
          have ly := hgp.2.1
          have HGP := Lib.hid hgp
          have FY := Lib.hid hgp.fit
          have RY := Lib.hid (rightB_good hgp)
          clear hgp
          go_wp2_with fail
          refine (P1.out _ rrc).mono ?_
          rintro e w6 ⟨C6, c6, rfl, o6, hb6⟩
          replace hb := bch hb hb6
          replace k1 := cell_below hb6 k1
          replace k2 := cell_below hb6 k2
          replace rrb := rrb.below hb6
          replace roc := roc.below hb6
          clear hb6
          go_wp2_with fail
          refine (P2.out _ rrb).mono ?_
          rintro e w7 ⟨C7, c7, rfl, o7, hb7⟩
          replace hb := bch hb hb7
          replace rrb := rrb.below hb7
          replace roc := roc.below hb7
          have oN := (o6.mono (Nat.zero_le _)).below hb7
          have rN := o7.rd
          clear hb7 k1 k2 rrc o6 o7
          go_wp2_with fail
          refine (equal_any C6 C7 c6 c7 xp xp _ oN.rd rN (by omega) (by omega)).mono ?_
          rw [decide_eq_true rfl]
          rintro e wE ⟨rfl, nE, rfl⟩
          replace hb := bch hb (drewN_below w7 nE)
          have oE := oN.below (drewN_below w7 nE)
          have rE := rN.below (drewN_below w7 nE)
          generalize w7.drewN nE = wF at hb oE rE ⊢
          go_wp2_with fail
          refine (right_any C6 c6 xp _ oE.rd (by omega) FY.out).mono ?_
          rw [RY.out]
          rintro e wG ⟨rfl, hbG⟩
          go_wp2
          go_roundw
          case rel => exact ⟨k + 1, C6, C7, c6, c7, xp, by omega, by omega, by go_num, rfl, rfl, HGP.out, oE.below hbG, rE.below hbG, bch hb hbG⟩
          case measure => simp [intOf]; omega
        · have hq := HRN.out hpe
          subst hq
          have qe : (pe == 0) = false := by simpa using hpe
          have qe2 : (pe != 0) = true := by simpa using hpe
          have qe3 : (pe == pe) = true := by simp
          have qe4 : (pe != pe) = false := by simp
          have FY := Lib.hid GX.out.fit
          have RY := Lib.hid (rightB_good GX.out)
          clear hpe
          go_wp2_with fail
          refine (P1.out _ rrc).mono ?_
          rintro e w6 ⟨C6, c6, rfl, o6, hb6⟩
          replace hb := bch hb hb6
          replace k1 := cell_below hb6 k1
          replace k2 := cell_below hb6 k2
          replace rrb := rrb.below hb6
          replace roc := roc.below hb6
          clear hb6
          go_wp2_with fail
          refine (P2.out _ rrb).mono ?_
          rintro e w7 ⟨C7, c7, rfl, o7, hb7⟩
          replace hb := bch hb hb7
          replace rrb := rrb.below hb7
          replace roc := roc.below hb7
          have oN := (o6.mono (Nat.zero_le _)).below hb7
          have rN := o7.rd
          clear hb7 k1 k2 rrc o6 o7
          go_wp2_with fail
          refine (equal_any C B cc bc xs xs _ roc.rd rrb (by omega) (by omega)).mono ?_
          rw [decide_eq_true rfl]
          rintro e wE ⟨rfl, nE, rfl⟩
          replace hb := bch hb (drewN_below w7 nE)
          have oE := roc.below (drewN_below w7 nE)
          have rE := rrb.below (drewN_below w7 nE)
          generalize w7.drewN nE = wF at hb oE rE ⊢
          go_wp2_with fail
          refine (right_any C cc xs _ oE.rd (by omega) FY.out).mono ?_
          rw [RY.out]
          rintro e wG ⟨rfl, hbG⟩
          go_wp2
          go_roundw
          case rel => exact ⟨k + 1, C, B, cc, bc, xs, by omega, by omega, by go_num, rfl, rfl, GX.out, oE.below hbG, rE.below hbG, bch hb hbG⟩
          case measure => simp [intOf]; omega
      · have i3 : decide (k < ds.length) = false := decide_eq_false hk3
        by_cases hpe : pe = 0
        · subst hpe
          have hq := (HRY.out rfl).symm
          subst hq
          have hgp := HPG.out rfl
          have ly := hgp.2.1
          have HGP := Lib.hid hgp
          have FY := Lib.hid hgp.fit
          have RY := Lib.hid (rightB_good hgp)
          clear hgp
          go_wp2_with fail
          refine (P1.out _ rrc).mono ?_
          rintro e w6 ⟨C6, c6, rfl, o6, hb6⟩
          replace hb := bch hb hb6
          replace k1 := cell_below hb6 k1
          replace k2 := cell_below hb6 k2
          replace rrb := rrb.below hb6
          replace roc := roc.below hb6
          clear hb6
          go_wp2_with fail
          refine (P2.out _ rrb).mono ?_
          rintro e w7 ⟨C7, c7, rfl, o7, hb7⟩
          replace hb := bch hb hb7
          replace rrb := rrb.below hb7
          replace roc := roc.below hb7
          have oN := (o6.mono (Nat.zero_le _)).below hb7
          have rN := o7.rd
          clear hb7 k1 k2 rrc o6 o7
          go_wp2_with fail
          refine (equal_any C6 C7 c6 c7 xp xp _ oN.rd rN (by omega) (by omega)).mono ?_
          rw [decide_eq_true rfl]
          rintro e wE ⟨rfl, nE, rfl⟩
          replace hb := bch hb (drewN_below w7 nE)
          have oE := oN.below (drewN_below w7 nE)
          have rE := rN.below (drewN_below w7 nE)
          generalize w7.drewN nE = wF at hb oE rE ⊢
          go_wp2_with fail
          refine (right_any C6 c6 xp _ oE.rd (by omega) FY.out).mono ?_
          rw [RY.out]
          rintro e wG ⟨rfl, hbG⟩
          go_wp2
          go_roundw
          case rel => exact ⟨k + 1, C6, C7, c6, c7, xp, by omega, by omega, by go_num, rfl, rfl, HGP.out, oE.below hbG, rE.below hbG, bch hb hbG⟩
          case measure => simp [intOf]; omega
        · have hq := HRN.out hpe
          subst hq
          have qe : (pe == 0) = false := by simpa using hpe
          have qe2 : (pe != 0) = true := by simpa using hpe
          have qe3 : (pe == pe) = true := by simp
          have qe4 : (pe != pe) = false := by simp
          have FY := Lib.hid GX.out.fit
          have RY := Lib.hid (rightB_good GX.out)
          clear hpe
          go_wp2_with fail
          refine (P1.out _ rrc).mono ?_
          rintro e w6 ⟨C6, c6, rfl, o6, hb6⟩
          replace hb := bch hb hb6
          replace k1 := cell_below hb6 k1
          replace k2 := cell_below hb6 k2
          replace rrb := rrb.below hb6
          replace roc := roc.below hb6
          clear hb6
          go_wp2_with fail
          refine (P2.out _ rrb).mono ?_
          rintro e w7 ⟨C7, c7, rfl, o7, hb7⟩
          replace hb := bch hb hb7
          replace rrb := rrb.below hb7
          replace roc := roc.below hb7
          have oN := (o6.mono (Nat.zero_le _)).below hb7
          have rN := o7.rd
          clear hb7 k1 k2 rrc o6 o7
          go_wp2_with fail
          refine (equal_any C B cc bc xs xs _ roc.rd rrb (by omega) (by omega)).mono ?_
          rw [decide_eq_true rfl]
          rintro e wE ⟨rfl, nE, rfl⟩
          replace hb := bch hb (drewN_below w7 nE)
          have oE := roc.below (drewN_below w7 nE)
          have rE := rrb.below (drewN_below w7 nE)
          generalize w7.drewN nE = wF at hb oE rE ⊢
          go_wp2_with fail
          refine (right_any C cc xs _ oE.rd (by omega) FY.out).mono ?_
          rw [RY.out]
          rintro e wG ⟨rfl, hbG⟩
          go_wp2
          go_roundw
          case rel => exact ⟨k + 1, C, B, cc, bc, xs, by omega, by omega, by go_num, rfl, rfl, GX.out, oE.below hbG, rE.below hbG, bch hb hbG⟩
          case measure => simp [intOf]; omega
    · have hsplit : ¬ k < fs.length ∨ (k < fs.length ∧ ¬ k < 60) := by omega
      clear hgo
      rcases hsplit with hs | ⟨hs, hs2⟩
      all_goals
        go_wp2_with fail
        refine (fixed_any _).mono ?_
        rintro e w1 ⟨rfl, hb1⟩
        go_wp2
        go_ret
        exact ⟨rfl, bch hb hb1⟩
end Go.Proofs.Ytdaekfigpkogbaa

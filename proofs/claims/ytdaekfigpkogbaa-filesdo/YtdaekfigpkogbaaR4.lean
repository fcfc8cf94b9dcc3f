/-
  The walk of FilesPut: for every list of files, every file and every name it returns true; old memory stays.
-/
import Derived.Test.YtdaekfigpkogbaaR3
namespace Go.Proofs.Ytdaekfigpkogbaa
open Go.RowKit

theorem drop_big {fs : List Fl} (hs : Sorted fs) (n : List UInt8) : fs.length ≤ (dropL fs n).length + 1 := by
  cases h : hasL fs n
  · rw [dropL_none h]; omega
  · have hlt := has_lt h
    obtain ⟨g, hg⟩ : ∃ g, fs[plc fs n]? = some g := ⟨_, List.getElem?_eq_getElem hlt⟩
    rw [dropL_has hs hlt (by rw [get_of hg hlt]; exact (get_yes hs h hg).1)]
    simp; omega
theorem put_same (fs : List Fl) (f : Fl) : txtL (putL fs f) f.1 = f.2 ∧ hasL (putL fs f) f.1 = true := by
  rw [hasL_get]; unfold txtL; rw [getL_putL, if_pos rfl]; exact ⟨rfl, rfl⟩
theorem put_other (fs : List Fl) (f : Fl) {n : List UInt8} (h : n ≠ f.1) : txtL (putL fs f) n = txtL fs n ∧ hasL (putL fs f) n = hasL fs n := by
  rw [hasL_get, hasL_get]; unfold txtL; rw [getL_putL, if_neg h]; exact ⟨rfl, rfl⟩
theorem drop_same (fs : List Fl) (n : List UInt8) : hasL (dropL fs n) n = false := by rw [hasL_get, getL_dropL, if_pos rfl]; rfl
theorem drop_other (fs : List Fl) (m : List UInt8) {n : List UInt8} (h : n ≠ m) : txtL (dropL fs m) n = txtL fs n ∧ hasL (dropL fs m) n = hasL fs n := by
  rw [hasL_get, hasL_get]; unfold txtL; rw [getL_dropL, if_neg h]; exact ⟨rfl, rfl⟩
theorem two_set {w : World} {base : Nat} {P : Nat} {A : Option Addr} {c : Nat} {fs : List Fl} (h : Own w base A c fs) (hp : P < base) (u v : Value) : Own ((w.setCell ⟨P, 0, none⟩ u).setCell ⟨P, 1, none⟩ v) base A c fs :=
  ownsRow_setCell_below (ownsRow_setCell_below h hp u) hp v

theorem two_cells_set {w : World} {P : Nat} {a b : Value} (h1 : w.cell? ⟨P, 0, none⟩ = some a) (h2 : w.cell? ⟨P, 1, none⟩ = some b) (u v : Value) :
    ((w.setCell ⟨P, 0, none⟩ u).setCell ⟨P, 1, none⟩ v).cell? ⟨P, 0, none⟩ = some u ∧ ((w.setCell ⟨P, 0, none⟩ u).setCell ⟨P, 1, none⟩ v).cell? ⟨P, 1, none⟩ = some v := by
  refine ⟨?_, ?_⟩
  · rw [World.cell?_setCell_other _ _ _ _ (by simp)]
    exact World.cell?_setCell_same _ _ _ h1
  · exact World.cell?_setCell_same _ _ _ (by rw [World.cell?_setCell_other _ _ _ _ (by simp)]; exact h2)
theorem own_loop {w : World} {base : Nat} {g n cap : Nat} {xs : List Value} (h : w.ownsRow base 25 2 (.slice (some ⟨g, 0, none⟩) n cap) n xs) (j : Nat) (u : Value) : ∃ ys, (w.setCell ⟨g, j, none⟩ u).ownsRow base 25 2 (.slice (some ⟨g, 0, none⟩) n cap) n ys := ⟨_, (World.ownsRow.stored h j u).1⟩

set_option maxRecDepth 100000 in
set_option maxHeartbeats 4000000 in
theorem filesPut_walk (A : Option Addr) (c : Nat) (fs : List Fl) (f : Fl) (nm : List UInt8) (w : World) (hr : Rd w A fs) (hf : Hid (Fit fs)) (hl : fs.length ≤ 9223372036854775807) (l1 : f.1.length ≤ 9223372036854775807) (l2 : f.2.length ≤ 9223372036854775807) :
    Calls Try.prog 6 #[.slice A fs.length c, .agg #[.string ⟨f.1.toArray⟩, .string ⟨f.2.toArray⟩], .string ⟨nm.toArray⟩] w fun e w' => e = .returned (.bool true) ∧ Below w.heap.size w w' := by
  have hga := mapL_good fs 20 200
  have HMa := Lib.hid (fun (w' : World) (h : Rd w' A fs) => map_any A c fs 20 200 w' h hf hl (by omega) (by omega))
  have la := mapL_len fs 20 200
  generalize mapL fs 20 200 = ma at hga HMa la
  have GA := Lib.hid hga
  obtain ⟨g, hg⟩ : ∃ g, g = cutF f := ⟨_, rfl⟩
  have hcut := fun (w' : World) => cut_any f w' l1 l2
  have e1 : f.1.take 40 = g.1 := by rw [hg]; rfl
  have e2 : f.2.take 4100 = g.2 := by rw [hg]; rfl
  have g1 : g.1.length ≤ 40 := by rw [← e1]; simp; omega
  have g2 : g.2.length ≤ 4100 := by rw [← e2]; simp; omega
  rw [e1, e2] at hcut
  have HC := Lib.hid hcut
  clear hcut hg e1 e2 hga
  have P0 := Lib.hid (fun (w' : World) (A : Option Addr) (c : Nat) (h : Rd w' A ma) (h1 : ma.length ≤ c) (h2 : c ≤ 9223372036854775807) => put_any A c ma g w' h (by omega) h1 h2 (Lib.hid GA.out.1) (by omega) (by omega))
  have D0 := Lib.hid (fun (w' : World) (A : Option Addr) (c : Nat) (h : Rd w' A ma) (h1 : ma.length ≤ c) (h2 : c ≤ 9223372036854775807) => drop_any A c ma g.1 w' h (by omega) h1 h2 (Lib.hid GA.out.1))
  have GA1 := Lib.hid (fun (w' : World) (A : Option Addr) (c : Nat) (h : Rd w' A ma) => get_any A c ma nm w' h (by omega) (Lib.hid GA.out.1))
  have GA2 := Lib.hid (fun (w' : World) (A : Option Addr) (c : Nat) (h : Rd w' A ma) => get_any A c ma g.1 w' h (by omega) (Lib.hid GA.out.1))
  have hdg := dropL_good GA.out g.1
  have GC1 := Lib.hid (fun (w' : World) (A : Option Addr) (c : Nat) (h : Rd w' A (dropL ma g.1)) => get_any A c (dropL ma g.1) g.1 w' h (by have := hdg.2.1; omega) (Lib.hid hdg.1))
  have GC2 := Lib.hid (fun (w' : World) (A : Option Addr) (c : Nat) (h : Rd w' A (dropL ma g.1)) => get_any A c (dropL ma g.1) nm w' h (by have := hdg.2.1; omega) (Lib.hid hdg.1))
  rw [drop_same] at GC1
  generalize txtL (dropL ma g.1) g.1 = tz at GC1
  have hdo := fun (h : nm ≠ g.1) => drop_other ma g.1 h
  have hgb : putE ma g = 0 → Good (putL ma g) := fun h => putL_good GA.out h
  have hbig := drop_big GA.out.1 g.1
  have hpl := putL_len ma g
  have hps := put_same ma g
  have hpo := fun (h : nm ≠ g.1) => put_other ma g h
  have hry := fun (h : putE ma g = 0) => putR_yes h
  have hrn := fun (h : putE ma g ≠ 0) => putR_no h
  generalize dropL ma g.1 = md at D0 GC1 GC2 hdo hbig hpl hdg
  generalize putL ma g = mp at hgb hpl hps hpo hry
  generalize putR ma g = mq at P0 hry hrn
  generalize putE ma g = pe at P0 hgb hry hrn
  obtain ⟨s, hs⟩ : ∃ s, s = txtL ma nm := ⟨_, rfl⟩
  obtain ⟨si, hsi⟩ : ∃ s, s = hasL ma nm := ⟨_, rfl⟩
  obtain ⟨v, hv⟩ : ∃ s, s = txtL md nm := ⟨_, rfl⟩
  obtain ⟨vi, hvi⟩ : ∃ s, s = hasL md nm := ⟨_, rfl⟩
  obtain ⟨th, hth⟩ : ∃ s, s = txtL ma g.1 := ⟨_, rfl⟩
  obtain ⟨ti, hti⟩ : ∃ s, s = hasL ma g.1 := ⟨_, rfl⟩
  rw [← hti] at D0
  rw [← hs, ← hsi] at GA1 hdo hpo
  rw [← hv, ← hvi] at GC2 hdo
  rw [← hth, ← hti] at GA2
  clear hs hsi hv hvi hth hti
  have HDO := Lib.hid hdo
  have HGB := Lib.hid hgb
  have HPS := Lib.hid hps
  have HPO := Lib.hid hpo
  have HRY := Lib.hid hry
  have HRN := Lib.hid hrn
  have HPL := Lib.hid hpl
  clear hdo hgb hps hpo hry hrn hpl hdg
  have b0 := one_below w (.cells #[.string ⟨f.1.toArray⟩, .string ⟨f.2.toArray⟩] 25)
  have n1 := new_fst w (.string ⟨f.1.toArray⟩) (.string ⟨f.2.toArray⟩) 25
  have n2 := new_snd w (.string ⟨f.1.toArray⟩) (.string ⟨f.2.toArray⟩) 25
  have z1 : (w.alloc (.cells #[.string ⟨f.1.toArray⟩, .string ⟨f.2.toArray⟩] 25)).frozen? ⟨w.heap.size, 0, none⟩ = false := World.frozen?_alloc_at _ _ _ _ rfl
  have z2 : (w.alloc (.cells #[.string ⟨f.1.toArray⟩, .string ⟨f.2.toArray⟩] 25)).frozen? ⟨w.heap.size, 1, none⟩ = false := World.frozen?_alloc_at _ _ _ _ rfl
  have hsz : (w.alloc (.cells #[.string ⟨f.1.toArray⟩, .string ⟨f.2.toArray⟩] 25)).heap.size = w.heap.size + 1 := by simp
  have HR := Lib.hid (hr.below b0)
  go_enter Try.func6, Try.ntmps6
  go_wp2_with fail
  generalize w.alloc (.cells #[.string ⟨f.1.toArray⟩, .string ⟨f.2.toArray⟩] 25) = w0 at b0 n1 n2 z1 z2 hsz HR ⊢
  refine (HMa.out _ HR.out).mono ?_
  rintro e w1 ⟨A1, c1, rfl, ho1, hb1⟩
  replace n1 := cell_below hb1 n1
  replace n2 := cell_below hb1 n2
  replace z1 := (hb1.frozen (p := ⟨w.heap.size, 0, none⟩) (by show w.heap.size < _; omega)).trans z1
  replace z2 := (hb1.frozen (p := ⟨w.heap.size, 1, none⟩) (by show w.heap.size < _; omega)).trans z2
  replace b0 := bch b0 hb1
  rw [hsz] at ho1
  have hs1 : w.heap.size + 1 ≤ w1.heap.size := by have := hb1.size; omega
  have hrd1 := ho1.rd.below (one_below w1 (.cells #[] 25))
  clear hb1 HR hsz
  go_wp2_with (at_builtin; refine wpList_append_rdn _ rfl _ _ rfl (w1.heap.size) _ [] rfl (own_empty w1) A1 ma.length c1 ma rfl rfl hrd1 (by simp; omega) (by simp) ma (List.nil_append _) ?_; intro A2 c2 w2 ho2 hb2; have hbw := (one_below w1 (.cells #[] 25)).trans hb2; have m1 := cell_below hbw n1; have m2 := cell_below hbw n2)
  replace z1 := (hbw.frozen (p := ⟨w.heap.size, 0, none⟩) (by show w.heap.size < _; omega)).trans z1
  replace z2 := (hbw.frozen (p := ⟨w.heap.size, 1, none⟩) (by show w.heap.size < _; omega)).trans z2
  replace ho1 := ho1.below hbw
  replace ho2 := ho2.mono hs1
  replace b0 := bch b0 hbw
  clear n1 n2 hb2 hbw hrd1
  refine (HC.out _).mono ?_
  rintro e w3 ⟨rfl, hb3⟩
  have hs2 : w.heap.size < w2.heap.size := World.block_lt_of_cell? _ _ m1
  replace m1 := cell_below hb3 m1
  replace m2 := cell_below hb3 m2
  replace z1 := (hb3.frozen (p := ⟨w.heap.size, 0, none⟩) (by show w.heap.size < _; omega)).trans z1
  replace z2 := (hb3.frozen (p := ⟨w.heap.size, 1, none⟩) (by show w.heap.size < _; omega)).trans z2
  replace ho1 := ho1.below hb3
  replace ho2 := ho2.below hb3
  replace b0 := bch b0 hb3
  clear hb3 hs2
  go_wp2_with fail
  have hW := two_cells_set m1 m2 (.string ⟨g.1.toArray⟩) (.string ⟨g.2.toArray⟩)
  replace ho1 := two_set ho1 (Nat.lt_succ_self _) (.string ⟨g.1.toArray⟩) (.string ⟨g.2.toArray⟩)
  replace ho2 := two_set ho2 (Nat.lt_succ_self _) (.string ⟨g.1.toArray⟩) (.string ⟨g.2.toArray⟩)
  replace b0 := (b0.setCell (p := ⟨w.heap.size, 0, none⟩) (Nat.le_refl _) (.string ⟨g.1.toArray⟩)).setCell (p := ⟨w.heap.size, 1, none⟩) (Nat.le_refl _) (.string ⟨g.2.toArray⟩)
  generalize (w3.setCell ⟨w.heap.size, 0, none⟩ (.string ⟨g.1.toArray⟩)).setCell ⟨w.heap.size, 1, none⟩ (.string ⟨g.2.toArray⟩) = w4 at hW ho1 ho2 b0 ⊢
  obtain ⟨k1, k2⟩ := hW
  clear m1 m2 z1 z2
  have r1 := ho1.rd
  have r2 := ho2.rd
  obtain ⟨q1, q2, _⟩ := ho1.cap
  clear ho1 ho2
  have RZ1 := Lib.hid r1
  have RZ2 := Lib.hid r2
  have K1 := Lib.hid k1
  have hP4 : w.heap.size ≤ w4.heap.size := b0.size
  refine (P0.out _ A1 c1 r1 q1 q2).mono ?_
  rintro e w5 ⟨B, cb, rfl, hob, hb⟩
  have hbz := hb
  replace k1 := cell_below hb k1
  replace k2 := cell_below hb k2
  replace r1 := r1.below hb
  replace r2 := r2.below hb
  have rb := hob.rd
  replace b0 := bch b0 hb
  clear hb
  go_wp2_with fail
  refine (D0.out _ A1 c1 r1 q1 q2).mono ?_
  rintro e w6 ⟨D, cd, rfl, hod, hb⟩
  replace hbz := bch hbz hb
  replace k1 := cell_below hb k1
  replace k2 := cell_below hb k2
  replace r1 := r1.below hb
  replace r2 := r2.below hb
  replace rb := rb.below hb
  replace hob := hob.below hb
  have rd := hod.rd
  replace b0 := bch b0 hb
  clear hb hod
  go_wp2_with fail
  refine (GA1.out _ A1 c1 r1).mono ?_
  rintro e w7 ⟨rfl, hb⟩
  replace hbz := bch hbz hb
  replace k1 := cell_below hb k1
  replace k2 := cell_below hb k2
  replace r1 := r1.below hb
  replace r2 := r2.below hb
  replace rb := rb.below hb
  replace hob := hob.below hb
  replace rd := rd.below hb
  replace b0 := bch b0 hb
  clear hb
  clear r2
  by_cases hpe : pe = 0
  · subst hpe
    by_cases hnm : nm = g.1
    · have _t : True := trivial
      have hmq := (HRY.out rfl).symm
      subst hmq
      have hgp := HGB.out rfl
      have lp := hgp.2.1
      have hps := HPS.out
      have S0 := Lib.hid hgp.1
      have GB1 := Lib.hid (fun (w' : World) (A : Option Addr) (h : Rd w' A mp) => get_any A cb mp g.1 w' h (by omega) S0)
      have GB2 := Lib.hid (fun (w' : World) (A : Option Addr) (h : Rd w' A mp) => get_any A cb mp nm w' h (by omega) S0)
      rw [hps.1, hps.2] at GB1
      generalize txtL mp nm = u at GB2
      generalize hasL mp nm = ui at GB2
      have q : (nm == g.1) = true := by simpa using hnm
      have lmp : 0 < mp.length := by have := HPL.out; omega
      have d1 : decide (mp.length < ma.length) = false := decide_eq_false (by have := HPL.out; omega)
      have d2 : decide ((mp.length : Int) < (ma.length : Int)) = false := decide_eq_false (by have := HPL.out; omega)
      obtain ⟨gb, cap0, hv0, hgb0, _⟩ := World.ownsRow.form hob lmp
      simp only [Value.slice.injEq, true_and] at hv0
      obtain ⟨rfl, rfl⟩ := hv0
      clear hgp hps hnm
      go_wp2_with fail
      refine (GB1.out _ _ rb).mono ?_
      rintro e w8 ⟨rfl, hb⟩
      replace hbz := bch hbz hb
      replace k1 := cell_below hb k1
      replace k2 := cell_below hb k2
      replace r1 := r1.below hb
      replace rb := rb.below hb
      replace hob := hob.below hb
      replace rd := rd.below hb
      replace b0 := bch b0 hb
      clear hb
      go_wp2_with fail
      refine (GB2.out _ _ rb).mono ?_
      rintro e w9 ⟨rfl, hb⟩
      replace hbz := bch hbz hb
      replace k1 := cell_below hb k1
      replace k2 := cell_below hb k2
      replace r1 := r1.below hb
      replace rb := rb.below hb
      replace hob := hob.below hb
      replace rd := rd.below hb
      replace b0 := bch b0 hb
      clear hb
      go_wp2_with fail
      refine (GC1.out _ D cd rd).mono ?_
      rintro e w10 ⟨rfl, hb⟩
      replace hbz := bch hbz hb
      replace k1 := cell_below hb k1
      replace k2 := cell_below hb k2
      replace r1 := r1.below hb
      replace hob := hob.below hb
      replace rd := rd.below hb
      replace b0 := bch b0 hb
      clear hb
      go_wp2_with fail
      refine (GC2.out _ D cd rd).mono ?_
      rintro e w11 ⟨rfl, hb⟩
      replace hbz := bch hbz hb
      replace k1 := cell_below hb k1
      replace k2 := cell_below hb k2
      replace r1 := r1.below hb
      replace hob := hob.below hb
      replace rd := rd.below hb
      replace b0 := bch b0 hb
      clear hb
      go_wp2_with fail
      refine (GA2.out _ A1 c1 r1).mono ?_
      rintro e w12 ⟨rfl, hb⟩
      replace hbz := bch hbz hb
      replace k1 := cell_below hb k1
      replace k2 := cell_below hb k2
      replace r1 := r1.below hb
      replace hob := hob.below hb
      replace rd := rd.below hb
      replace b0 := bch b0 hb
      clear hb
      clear r1 k1 k2 rd
      go_wp2_with fail
      go_loopw [25] (fun i wr => ∃ (k : Nat) (ys : List Value), k ≤ mp.length ∧ i = .int .i64 k ∧ wr.ownsRow w4.heap.size 25 2 (.slice (some ⟨gb, 0, none⟩) mp.length cb) mp.length ys ∧ Below w4.heap.size w4 wr ∧ Below w.heap.size w wr) (fun i _ => mp.length - (intOf i).toNat)
      case atStart => exact ⟨0, _, Nat.zero_le _, rfl, hob, hbz, b0⟩
      case round =>
        clear hob hbz b0
        obtain ⟨k, ys, hk, rfl, hob, hbz, b0⟩ := hrel
        by_cases hlt : k < mp.length
        · obtain ⟨y, hy⟩ : ∃ y, wr.cell? ⟨gb, k * 2 + 1, none⟩ = some y := by
            have e := World.ownsRow.cellAt hob (k * 2 + 1) (by omega)
            have hl := hob.1
            exact ⟨_, e.trans (List.getElem?_eq_getElem (by omega))⟩
          have hfz := World.ownsRow.frozenAt hob (k * 2 + 1)
          have hnext := own_loop hob (k * 2 + 1) (.string ⟨#[99, 104, 97, 110, 103, 101, 100]⟩)
          have h1 := hbz.setCell (p := ⟨gb, k * 2 + 1, none⟩) hgb0 (.string ⟨#[99, 104, 97, 110, 103, 101, 100]⟩)
          have h2 := b0.setCell (p := ⟨gb, k * 2 + 1, none⟩) (Nat.le_trans hP4 hgb0) (.string ⟨#[99, 104, 97, 110, 103, 101, 100]⟩)
          obtain ⟨zs, hnext⟩ := hnext
          go_wp2
          go_roundw
          case rel => exact ⟨k + 1, zs, by omega, by go_num, hnext, h1, h2⟩
          case measure => simp [intOf]; omega
        · have z1 := RZ1.out.below hbz
          have z2 := RZ2.out.below hbz
          have k1 := cell_below hbz K1.out
          go_wp2_with fail
          refine (equal_any A1 A2 c1 c2 ma ma _ z1 z2 (by omega) (by omega)).mono ?_
          rw [decide_eq_true rfl]
          rintro e wE ⟨rfl, nE, rfl⟩
          replace b0 := bch b0 (drewN_below _ nE)
          generalize wr.drewN nE = wF at b0 ⊢
          go_wp2_with fail
          refine (fixed_any _).mono ?_
          rintro e wG ⟨rfl, hb2⟩
          go_wp2
          go_ret
          exact ⟨rfl, bch b0 hb2⟩
    · have _t : True := trivial
      have hmq := (HRY.out rfl).symm
      subst hmq
      have hgp := HGB.out rfl
      have lp := hgp.2.1
      have hps := HPS.out
      have S0 := Lib.hid hgp.1
      have GB1 := Lib.hid (fun (w' : World) (A : Option Addr) (h : Rd w' A mp) => get_any A cb mp g.1 w' h (by omega) S0)
      have GB2 := Lib.hid (fun (w' : World) (A : Option Addr) (h : Rd w' A mp) => get_any A cb mp nm w' h (by omega) S0)
      rw [hps.1, hps.2] at GB1
      rw [(HPO.out hnm).1, (HPO.out hnm).2] at GB2
      obtain ⟨e1, e2⟩ := HDO.out hnm
      subst e1
      subst e2
      have q : (nm == g.1) = false := by simpa using hnm
      have lmp : 0 < mp.length := by have := HPL.out; omega
      have d1 : decide (mp.length < ma.length) = false := decide_eq_false (by have := HPL.out; omega)
      have d2 : decide ((mp.length : Int) < (ma.length : Int)) = false := decide_eq_false (by have := HPL.out; omega)
      obtain ⟨gb, cap0, hv0, hgb0, _⟩ := World.ownsRow.form hob lmp
      simp only [Value.slice.injEq, true_and] at hv0
      obtain ⟨rfl, rfl⟩ := hv0
      clear hgp hps hnm
      go_wp2_with fail
      refine (GB1.out _ _ rb).mono ?_
      rintro e w8 ⟨rfl, hb⟩
      replace hbz := bch hbz hb
      replace k1 := cell_below hb k1
      replace k2 := cell_below hb k2
      replace r1 := r1.below hb
      replace rb := rb.below hb
      replace hob := hob.below hb
      replace rd := rd.below hb
      replace b0 := bch b0 hb
      clear hb
      go_wp2_with fail
      refine (GB2.out _ _ rb).mono ?_
      rintro e w9 ⟨rfl, hb⟩
      replace hbz := bch hbz hb
      replace k1 := cell_below hb k1
      replace k2 := cell_below hb k2
      replace r1 := r1.below hb
      replace rb := rb.below hb
      replace hob := hob.below hb
      replace rd := rd.below hb
      replace b0 := bch b0 hb
      clear hb
      go_wp2_with fail
      refine (GC1.out _ D cd rd).mono ?_
      rintro e w10 ⟨rfl, hb⟩
      replace hbz := bch hbz hb
      replace k1 := cell_below hb k1
      replace k2 := cell_below hb k2
      replace r1 := r1.below hb
      replace hob := hob.below hb
      replace rd := rd.below hb
      replace b0 := bch b0 hb
      clear hb
      go_wp2_with fail
      refine (GC2.out _ D cd rd).mono ?_
      rintro e w11 ⟨rfl, hb⟩
      replace hbz := bch hbz hb
      replace k1 := cell_below hb k1
      replace k2 := cell_below hb k2
      replace r1 := r1.below hb
      replace hob := hob.below hb
      replace rd := rd.below hb
      replace b0 := bch b0 hb
      clear hb
      go_wp2_with fail
      refine (GA2.out _ A1 c1 r1).mono ?_
      rintro e w12 ⟨rfl, hb⟩
      replace hbz := bch hbz hb
      replace k1 := cell_below hb k1
      replace k2 := cell_below hb k2
      replace r1 := r1.below hb
      replace hob := hob.below hb
      replace rd := rd.below hb
      replace b0 := bch b0 hb
      clear hb
      clear r1 k1 k2 rd
      go_wp2_with fail
      go_loopw [25] (fun i wr => ∃ (k : Nat) (ys : List Value), k ≤ mp.length ∧ i = .int .i64 k ∧ wr.ownsRow w4.heap.size 25 2 (.slice (some ⟨gb, 0, none⟩) mp.length cb) mp.length ys ∧ Below w4.heap.size w4 wr ∧ Below w.heap.size w wr) (fun i _ => mp.length - (intOf i).toNat)
      case atStart => exact ⟨0, _, Nat.zero_le _, rfl, hob, hbz, b0⟩
      case round =>
        clear hob hbz b0
        obtain ⟨k, ys, hk, rfl, hob, hbz, b0⟩ := hrel
        by_cases hlt : k < mp.length
        · obtain ⟨y, hy⟩ : ∃ y, wr.cell? ⟨gb, k * 2 + 1, none⟩ = some y := by
            have e := World.ownsRow.cellAt hob (k * 2 + 1) (by omega)
            have hl := hob.1
            exact ⟨_, e.trans (List.getElem?_eq_getElem (by omega))⟩
          have hfz := World.ownsRow.frozenAt hob (k * 2 + 1)
          have hnext := own_loop hob (k * 2 + 1) (.string ⟨#[99, 104, 97, 110, 103, 101, 100]⟩)
          have h1 := hbz.setCell (p := ⟨gb, k * 2 + 1, none⟩) hgb0 (.string ⟨#[99, 104, 97, 110, 103, 101, 100]⟩)
          have h2 := b0.setCell (p := ⟨gb, k * 2 + 1, none⟩) (Nat.le_trans hP4 hgb0) (.string ⟨#[99, 104, 97, 110, 103, 101, 100]⟩)
          obtain ⟨zs, hnext⟩ := hnext
          go_wp2
          go_roundw
          case rel => exact ⟨k + 1, zs, by omega, by go_num, hnext, h1, h2⟩
          case measure => simp [intOf]; omega
        · have z1 := RZ1.out.below hbz
          have z2 := RZ2.out.below hbz
          have k1 := cell_below hbz K1.out
          go_wp2_with fail
          refine (equal_any A1 A2 c1 c2 ma ma _ z1 z2 (by omega) (by omega)).mono ?_
          rw [decide_eq_true rfl]
          rintro e wE ⟨rfl, nE, rfl⟩
          replace b0 := bch b0 (drewN_below _ nE)
          generalize wr.drewN nE = wF at b0 ⊢
          go_wp2_with fail
          refine (fixed_any _).mono ?_
          rintro e wG ⟨rfl, hb2⟩
          go_wp2
          go_ret
          exact ⟨rfl, bch b0 hb2⟩
  · by_cases hnm : nm = g.1
    · have _t : True := trivial
      have hmq := HRN.out hpe
      subst hmq
      have qe : (pe == 0) = false := by simpa using hpe
      have q : (nm == g.1) = true := by simpa using hnm
      clear hpe hnm
      go_wp2_with fail
      refine (GC1.out _ D cd rd).mono ?_
      rintro e w10 ⟨rfl, hb⟩
      replace hbz := bch hbz hb
      replace k1 := cell_below hb k1
      replace k2 := cell_below hb k2
      replace r1 := r1.below hb
      replace hob := hob.below hb
      replace rd := rd.below hb
      replace b0 := bch b0 hb
      clear hb
      go_wp2_with fail
      refine (GC2.out _ D cd rd).mono ?_
      rintro e w11 ⟨rfl, hb⟩
      replace hbz := bch hbz hb
      replace k1 := cell_below hb k1
      replace k2 := cell_below hb k2
      replace r1 := r1.below hb
      replace hob := hob.below hb
      replace rd := rd.below hb
      replace b0 := bch b0 hb
      clear hb
      go_wp2_with fail
      refine (GA2.out _ A1 c1 r1).mono ?_
      rintro e w12 ⟨rfl, hb⟩
      replace hbz := bch hbz hb
      replace k1 := cell_below hb k1
      replace k2 := cell_below hb k2
      replace r1 := r1.below hb
      replace hob := hob.below hb
      replace rd := rd.below hb
      replace b0 := bch b0 hb
      clear hb
      have z1 := RZ1.out.below hbz
      have z2 := RZ2.out.below hbz
      go_wp2_with fail
      go_loopw [25] (fun i wr => i = .int .i64 0 ∧ wr = w12) (fun _ _ => 0)
      case atStart => exact ⟨rfl, rfl⟩
      case round =>
        obtain ⟨rfl, rfl⟩ := hrel
        go_wp2_with fail
        refine (equal_any A1 A2 c1 c2 ma ma _ z1 z2 (by omega) (by omega)).mono ?_
        rw [decide_eq_true rfl]
        rintro e wE ⟨rfl, nE, rfl⟩
        replace b0 := bch b0 (drewN_below _ nE)
        generalize wr.drewN nE = wF at b0 ⊢
        go_wp2_with fail
        refine (fixed_any _).mono ?_
        rintro e wG ⟨rfl, hb2⟩
        go_wp2
        go_ret
        exact ⟨rfl, bch b0 hb2⟩
    · have _t : True := trivial
      have hmq := HRN.out hpe
      subst hmq
      have qe : (pe == 0) = false := by simpa using hpe
      obtain ⟨e1, e2⟩ := HDO.out hnm
      subst e1
      subst e2
      have q : (nm == g.1) = false := by simpa using hnm
      clear hpe hnm
      go_wp2_with fail
      refine (GC1.out _ D cd rd).mono ?_
      rintro e w10 ⟨rfl, hb⟩
      replace hbz := bch hbz hb
      replace k1 := cell_below hb k1
      replace k2 := cell_below hb k2
      replace r1 := r1.below hb
      replace hob := hob.below hb
      replace rd := rd.below hb
      replace b0 := bch b0 hb
      clear hb
      go_wp2_with fail
      refine (GC2.out _ D cd rd).mono ?_
      rintro e w11 ⟨rfl, hb⟩
      replace hbz := bch hbz hb
      replace k1 := cell_below hb k1
      replace k2 := cell_below hb k2
      replace r1 := r1.below hb
      replace hob := hob.below hb
      replace rd := rd.below hb
      replace b0 := bch b0 hb
      clear hb
      go_wp2_with fail
      refine (GA2.out _ A1 c1 r1).mono ?_
      rintro e w12 ⟨rfl, hb⟩
      replace hbz := bch hbz hb
      replace k1 := cell_below hb k1
      replace k2 := cell_below hb k2
      replace r1 := r1.below hb
      replace hob := hob.below hb
      replace rd := rd.below hb
      replace b0 := bch b0 hb
      clear hb
      have z1 := RZ1.out.below hbz
      have z2 := RZ2.out.below hbz
      go_wp2_with fail
      go_loopw [25] (fun i wr => i = .int .i64 0 ∧ wr = w12) (fun _ _ => 0)
      case atStart => exact ⟨rfl, rfl⟩
      case round =>
        obtain ⟨rfl, rfl⟩ := hrel
        go_wp2_with fail
        refine (equal_any A1 A2 c1 c2 ma ma _ z1 z2 (by omega) (by omega)).mono ?_
        rw [decide_eq_true rfl]
        rintro e wE ⟨rfl, nE, rfl⟩
        replace b0 := bch b0 (drewN_below _ nE)
        generalize wr.drewN nE = wF at b0 ⊢
        go_wp2_with fail
        refine (fixed_any _).mono ?_
        rintro e wG ⟨rfl, hb2⟩
        go_wp2
        go_ret
        exact ⟨rfl, bch b0 hb2⟩
end Go.Proofs.Ytdaekfigpkogbaa

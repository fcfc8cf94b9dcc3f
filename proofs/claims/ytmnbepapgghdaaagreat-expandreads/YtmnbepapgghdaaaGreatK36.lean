/-
  ExpandReads: its walk.
  Arguments that came in, read as plain lists: tokens, bytes.
-/
import Derived.Test.YtmnbepapgghdaaaGreatK34
import Derived.Test.YtmnbepapgghdaaaGreatK35
import Derived.Deep.RegionHeld3
import Derived.Test.YtmnbepapgghdaaaGreatK03
import Derived.Deep.SlicePairs
import Derived.Lib.SmallJoins
import Derived.ProofKit
import Derived.OpenShut
namespace Go.Proofs.YtmnbepapgghdaaaGreat
open Go.RowKit

theorem enter15 (args : Array Value) (w : World) : (callFunc 15 args).run Tryz.prog w = .ok (.enter 15 args) w := enter_of Tryz.func15 (by kernel_rfl) (by kernel_rfl) args w
/-- Was it asked for? -/
def qR (rs : List By) (n : By) : Bool := rs.any fun m => m == n
theorem qR_in {rs : List By} {n : By} (h : n ∈ rs) : qR rs n = true := List.any_eq_true.2 ⟨n, h, by simp⟩
theorem qR_out {rs : List By} {n m : By} (h : qR rs n = false) (hm : m ∈ rs) : m ≠ n := fun e => by
  rw [qR_in (e ▸ hm)] at h
  cases h
theorem qR_step {rs : List By} {n m : By} {j : Nat} (h : rs[j]? = some m) : qR (rs.take (j + 1)) n = (qR (rs.take j) n || m == n) := by
  have hj : j < rs.length := (List.getElem?_eq_some_iff.1 h).1
  have e : rs.take (j + 1) = rs.take j ++ [m] := by rw [List.take_add_one, h]; rfl
  rw [e]
  simp [qR]
theorem filt_keep {fs : List Fl.Fl} {q : By → Bool} {k : Nat} {f : Fl.Fl} (hf : fs[k]? = some f) (h : q f.1 = true) : (fs.take (k + 1)).filter (fun f => q f.1) = (fs.take k).filter (fun f => q f.1) ++ [f] := by
  rw [List.take_add_one, hf, List.filter_append]
  simp [h]
theorem filt_skip {fs : List Fl.Fl} {q : By → Bool} {k : Nat} {f : Fl.Fl} (hf : fs[k]? = some f) (h : q f.1 = false) : (fs.take (k + 1)).filter (fun f => q f.1) = (fs.take k).filter (fun f => q f.1) := by
  rw [List.take_add_one, hf, List.filter_append]
  simp [h]
namespace Fl
theorem Own.set {w : World} {b p j : Nat} {v : Value} {A : Option Addr} {c : Nat} {fs : List Fl} (h : Own w b A c fs) (hp : p < b) : Own (w.setCell ⟨p, j, none⟩ v) b A c fs := by
  have nA : obA A ≠ some p := fun q => by
    have := (World.ownsRow.lt h _ (by rw [obA_own]; exact q)).1
    omega
  exact own_set h nA
end Fl
set_option maxRecDepth 100000 in
set_option maxHeartbeats 4000000 in
theorem expandReads_walk (A : Option Addr) (c : Nat) (fs : List Fl.Fl) (main : By) (f : Fl.Fl) (w : World) (hr : Fl.Rd w A fs) (hfit : Hid (Fl.Fit fs)) (hl : fs.length ≤ 9223372036854775807) (l1 : f.1.length ≤ 9223372036854775807) (l2 : f.2.length ≤ 9223372036854775807) :
    Calls Tryz.prog 4 #[.slice A fs.length c, .string ⟨main.toArray⟩, .agg #[.string ⟨f.1.toArray⟩, .string ⟨f.2.toArray⟩]] w fun en w' => en = .returned (.bool true) ∧ Below w.heap.size w w' := by
  have b0 := one_below w (.cells #[.string ⟨f.1.toArray⟩, .string ⟨f.2.toArray⟩] 45)
  have CF := Lib.hid (files_any A c fs (w.alloc (.cells #[.string ⟨f.1.toArray⟩, .string ⟨f.2.toArray⟩] 45)) (hr.below b0) hfit hl)
  have GB := Lib.hid (heap_alloc_new w (.cells #[.string ⟨f.1.toArray⟩, .string ⟨f.2.toArray⟩] 45))
  have HB0 := Lib.hid b0
  have HS0 := Lib.hid (show (w.alloc (.cells #[.string ⟨f.1.toArray⟩, .string ⟨f.2.toArray⟩] 45)).heap.size = w.heap.size + 1 by simp)
  clear hr hfit b0
  go_enter Tryz.func4, Tryz.ntmps4
  go_wp2_with fail
  refine CF.out.mono ?_
  rintro en w1 ⟨B, d, rfl, ho, hb1⟩
  have GB1 := Lib.hid (blk_below hb1 GB.out)
  have HO := Lib.hid ho
  have HF := Lib.hid (map_fs fs ho.rd)
  have HG := Lib.hid (Fl.mapL_good fs 6 200)
  have HL6 := Lib.hid (Fl.mapL_len fs 6 200)
  have HB1 := Lib.hid (bch HB0.out hb1)
  obtain ⟨fs6, hfs⟩ : ∃ fs6, Fl.mapL fs 6 200 = fs6 := ⟨_, rfl⟩
  rw [hfs] at HF HO HG HL6 ⊢
  have hl6 : fs6.length ≤ 6 := by have := HL6.out; omega
  have hz1 := hb1.size
  rw [HS0.out] at hz1
  have HO := Lib.hid (show Fl.Own w1 (w.heap.size + 1) B d fs6 by have := HO.out; rw [HS0.out] at this; exact this)
  clear ho hb1 hfs CF GB HL6 HS0 hl
  obtain ⟨R1, hR1⟩ : ∃ R1, outX (expE Fl.nmOk (flF fs6) 40 300 main) = R1 := ⟨_, rfl⟩
  have HS := Lib.hid (fun f hf => HF.out.txt f hf)
  have SM1 := Lib.hid (show Sm R1 by rw [← hR1]; exact sm_of (by omega) (by omega) HS.out)
  have HFI := Lib.hid (show R1.2.1[0]? = some main by rw [← hR1]; exact expE_first Fl.nmOk (flF fs6) 40 300 main)
  have HX := Lib.hid (show ∀ G : By → Option By, (∀ n ∈ R1.2.1, flF fs6 n = G n) → outX (expE Fl.nmOk G 40 300 main) = R1 from fun G h => by rw [← hR1] at h ⊢; exact congrArg outX (expE_files h))
  have E1 := Lib.hid (expand_go fs6 main B d 40 300 w1 (by omega) (by omega) HF.out)
  rw [hR1] at E1
  have CR := Lib.hid (fun (LA RA NA : Option Addr) (lc rc nc : Nat) W1 (h : RdO W1 LA RA NA R1) => ref_any LA RA NA lc rc nc R1 W1 h.l (by have := SM1.out.1; omega))
  have CS := Lib.hid (fun (LA RA NA LB RB NB : Option Addr) (lc rc nc ld rd nd : Nat) W1 (h : RdO W1 LA RA NA R1) (g : RdO W1 LB RB NB R1) => same8_any LA RA NA LB RB NB lc rc nc ld rd nd R1 W1 h g SM1.out)
  unfold outC at CR CS
  clear hR1
  go_wp2_with fail
  refine E1.out.mono ?_
  rintro en w2 ⟨LA, RA, NA, lc, rc, nc, rfl, ho, hb2⟩
  unfold outC
  obtain ⟨U, rs, nt, uu⟩ := R1
  have hrs : 0 < rs.length := by
    have := HFI.out
    rcases Nat.eq_zero_or_pos rs.length with h | h
    · rw [List.length_eq_zero_iff.1 h] at this; cases this
    · exact h
  have hrs100 : rs.length ≤ 100 := SM1.out.2.1
  simp only at *
  obtain ⟨rb, ro, rfl, hcell⟩ := ho.rdo.reads hrs
  have c1 := bch hb2 (one_below w2 (.cells #[.slice LA U.length lc, .slice (some ⟨rb, ro, none⟩) rs.length rc, .slice NA nt.length nc, .int .i64 uu] 31))
  have HOA := Lib.hid ((ho.below (one_below w2 (.cells #[.slice LA U.length lc, .slice (some ⟨rb, ro, none⟩) rs.length rc, .slice NA nt.length nc, .int .i64 uu] 31))).mono (b' := w.heap.size + 1) hz1)
  have HA := Lib.hid (held_new (lc := lc) (rc := rc) (nc := nc) (a := U.length) (b := rs.length) (c := nt.length) (u := uu) ho.rdo)
  have HCL := Lib.hid (fun j m (h : rs[j]? = some m) => cell_below (one_below w2 (.cells #[.slice LA U.length lc, .slice (some ⟨rb, ro, none⟩) rs.length rc, .slice NA nt.length nc, .int .i64 uu] 31)) (hcell j m h))
  have HO := Lib.hid (HO.out.below c1)
  have HF := Lib.hid (HF.out.below c1)
  have GB2 := Lib.hid (blk_below c1 GB1.out)
  have HB3 := Lib.hid (bch HB1.out c1)
  have hga : w.heap.size < w2.heap.size := by have := hb2.size; omega
  clear ho hb2 c1 hcell GB1 HB1 E1
  have a1 := HA.out.c1
  have a4 := HCL.out 0 main HFI.out
  rw [show ro + 0 = ro from rfl] at a4
  have i1 : (1 : Int) ≤ (rs.length : Int) := by omega
  have i2 : (0 : Int) < (rs.length : Int) := by omega
  have a0 := HA.out.c0
  have OE := Lib.hid (Fl.own_empty (w2.alloc (.cells #[.slice LA U.length lc, .slice (some ⟨rb, ro, none⟩) rs.length rc, .slice NA nt.length nc, .int .i64 uu] 31)))
  have ae := one_below (w2.alloc (.cells #[.slice LA U.length lc, .slice (some ⟨rb, ro, none⟩) rs.length rc, .slice NA nt.length nc, .int .i64 uu] 31)) (.cells #[] 45)
  have AE := Lib.hid ae
  go_wp2_with fail
  clear a0 a1 a4 i1 i2 ae HFI
  obtain ⟨W2, hW2⟩ : ∃ W2, w2.alloc (.cells #[.slice LA U.length lc, .slice (some ⟨rb, ro, none⟩) rs.length rc, .slice NA nt.length nc, .int .i64 uu] 31) = W2 := ⟨_, rfl⟩
  have hW2s : W2.heap.size = w2.heap.size + 1 := by rw [← hW2]; simp
  have HW2S := Lib.hid hW2s
  rw [show w2.heap.size + 1 = W2.heap.size from hW2s.symm] at *
  clear hW2s
  rw [hW2] at HOA HA HCL HO HF GB2 HB3 OE AE ⊢
  obtain ⟨q, hq⟩ : ∃ q, qR rs = q := ⟨_, rfl⟩
  go_loopw [10, 12] (fun v i wr => ∃ (k : Nat) (K : Option Addr) (kc : Nat) (xs : List Fl.Fl), k ≤ fs6.length ∧ i = .int .i64 k ∧ v = .slice K xs.length kc ∧ Hid (xs = (fs6.take k).filter (fun f => q f.1)) ∧ xs.length ≤ k ∧ Hid (Fl.Own wr W2.heap.size K kc xs) ∧ Hid (Below W2.heap.size W2 wr)) (fun _ i _ => fs6.length - (intOf i).toNat)
  case atStart => exact ⟨0, _, 0, [], Nat.zero_le _, rfl, rfl, Lib.hid rfl, Nat.zero_le _, OE, AE⟩
  case round =>
    obtain ⟨k, K, kc, xs, hk, rfl, rfl, HX0, hxk, hown, HB⟩ := hrel
    have HA1 := Lib.hid (HA.out.below HB.out)
    have HF1 := Lib.hid (HF.out.below HB.out)
    have hcl1 := Lib.hid (fun j m (h : rs[j]? = some m) => cell_below HB.out (HCL.out j m h))
    by_cases hlt : k < fs6.length
    · obtain ⟨g, hg⟩ : ∃ g, fs6[k]? = some g := ⟨_, List.getElem?_eq_getElem hlt⟩
      obtain ⟨mb, mo, rfl, hmc⟩ := HF1.out.rd (by omega)
      obtain ⟨m1, m2⟩ := hmc k g hg
      have HG6 := Lib.hid hg
      have M1 := Lib.hid m1
      have M2 := Lib.hid m2
      have i1 : (k : Int) < (fs6.length : Int) := by omega
      clear hmc hg m1 m2
      go_wp2_with fail
      go_loopw [13, 14] (fun v j wj => ∃ (p n : Nat), p ≤ rs.length ∧ j = .int .i64 p ∧ v = .bool (qR (rs.take p) g.1) ∧ wj = wr.drewN n) (fun _ j _ => rs.length - (intOf j).toNat)
      case atStart => exact ⟨0, 0, Nat.zero_le _, rfl, rfl, rfl⟩
      case round =>
        obtain ⟨p, n, hp, rfl, rfl, rfl⟩ := hrel
        have m1 : wr.cell? ⟨mb, mo + k * 2, none⟩ = some (.string ⟨g.1.toArray⟩) := M1.out
        have m2 : wr.cell? ⟨mb, mo + k * 2 + 1, none⟩ = some (.string ⟨g.2.toArray⟩) := M2.out
        have a1 := HA1.out.c1
        by_cases hpl : p < rs.length
        · obtain ⟨m, hm⟩ : ∃ m, rs[p]? = some m := ⟨_, List.getElem?_eq_getElem hpl⟩
          have c1 : wr.cell? ⟨rb, ro + p, none⟩ = some (.string ⟨m.toArray⟩) := hcl1.out p m hm
          have HST := Lib.hid (qR_step (n := g.1) hm)
          have j1 : (p : Int) < (rs.length : Int) := by omega
          clear hm
          obtain ⟨s, hs⟩ : ∃ s, qR (rs.take p) g.1 = s := ⟨_, rfl⟩
          rw [hs] at HST ⊢
          cases s
          · cases hmg : m == g.1
            · have HMG := Lib.hid hmg
              go_wp2_with fail
              go_quiet (fail)
              go_wp2
              go_roundw
              case rel => exact ⟨p + 1, _, by omega, by go_num, congrArg Value.bool (by rw [HST.out, HMG.out]; rfl), rfl⟩
              case measure => simp [intOf]; omega
            · have HMG := Lib.hid hmg
              go_wp2_with fail
              go_quiet (fail)
              go_wp2
              go_roundw
              case rel => exact ⟨p + 1, _, by omega, by go_num, congrArg Value.bool (by rw [HST.out, HMG.out]; rfl), rfl⟩
              case measure => simp [intOf]; omega
          · go_wp2_with fail
            go_quiet (fail)
            go_wp2
            go_roundw
            case rel => exact ⟨p + 1, _, by omega, by go_num, congrArg Value.bool (by rw [HST.out]; rfl), rfl⟩
            case measure => simp [intOf]; omega
        · have HQG := Lib.hid (show qR (rs.take p) g.1 = q g.1 by rw [List.take_of_length_le (by omega), ← hq])
          rw [HQG.out]
          have hown1 := Lib.hid (hown.out.below (Fl.drewN_below wr n))
          have HB1 := Lib.hid (bch HB.out (Fl.drewN_below wr n))
          have a1 : (wr.drewN n).cell? ⟨w2.heap.size, 1, none⟩ = some (.slice (some ⟨rb, ro, none⟩) rs.length rc) := a1
          have m1 : (wr.drewN n).cell? ⟨mb, mo + k * 2, none⟩ = some (.string ⟨g.1.toArray⟩) := M1.out
          have m2 : (wr.drewN n).cell? ⟨mb, mo + k * 2 + 1, none⟩ = some (.string ⟨g.2.toArray⟩) := M2.out
          generalize wr.drewN n = wn at hown1 HB1 a1 m1 m2 ⊢
          have hpl' : (rs.length : Int) ≤ (p : Int) := by omega
          have hwsz := HB1.out.size
          cases hqg : q g.1
          · have HQ0 := Lib.hid hqg
            go_wp2_with fail
            go_roundw
            case rel => exact ⟨k + 1, K, kc, xs, by omega, by go_num, rfl, Lib.hid (by rw [filt_skip HG6.out HQ0.out, HX0.out]), by omega, hown1, HB1⟩
            case measure => simp [intOf]; omega
          · have HQ0 := Lib.hid hqg
            go_wp2_with (at_builtin; refine Fl.wpList_append_rdn _ rfl _ _ rfl W2.heap.size _ xs rfl (hown1.out.below (Fl.one_below _ _)) (some ⟨wn.heap.size, 0, none⟩) 1 1 [g] rfl rfl (Fl.one_new wn g) (by simp; omega) (by simp; omega) _ rfl ?_; intro A1 c1' v2 hown2 hb2; have HO2 := Lib.hid hown2; have HBB2 := Lib.hid ((HB1.out.alloc hwsz _).trans hb2); clear hown2 hb2)
            go_roundw
            case rel => exact ⟨k + 1, A1, c1', xs ++ [g], by omega, by go_num, by simp, Lib.hid (by rw [filt_keep HG6.out HQ0.out, HX0.out]), by simp; omega, HO2, HBB2⟩
            case measure => simp [intOf]; omega
    · have HXS := Lib.hid (show xs = fs6.filter (fun f => q f.1) by rw [HX0.out, List.take_of_length_le (by omega)])
      have HOB := Lib.hid (HOA.out.below HB.out)
      have HOM := Lib.hid (HO.out.below HB.out)
      have GB3 := Lib.hid (blk_below HB.out GB2.out)
      have HB4 := Lib.hid (bch HB3.out HB.out)
      have hw2 := HB.out.size
      clear HF HA HCL HO HOA GB2 HX0 hW2
      obtain ⟨isb, hisb⟩ : ∃ isb, qR rs f.1 = isb := ⟨_, rfl⟩
      have a1 := HA1.out.c1
      have f0 : wr.cell? ⟨w.heap.size, 0, none⟩ = some (.string ⟨f.1.toArray⟩) := cell_of GB3.out 0
      have F0 := Lib.hid f0
      have kend : (fs6.length : Int) ≤ (k : Int) := by omega
      clear f0
      go_wp2_with fail
      go_loopw [11, 15] (fun v j wj => ∃ (p n : Nat), p ≤ rs.length ∧ j = .int .i64 p ∧ v = .bool (qR (rs.take p) f.1) ∧ wj = wr.drewN n) (fun _ j _ => rs.length - (intOf j).toNat)
      case atStart => exact ⟨0, 0, Nat.zero_le _, rfl, rfl, rfl⟩
      case round =>
        obtain ⟨p, n, hp, rfl, rfl, rfl⟩ := hrel
        have f0 := F0.out
        have a1 := HA1.out.c1
        by_cases hpl : p < rs.length
        · obtain ⟨m, hm⟩ : ∃ m, rs[p]? = some m := ⟨_, List.getElem?_eq_getElem hpl⟩
          have c1 : wr.cell? ⟨rb, ro + p, none⟩ = some (.string ⟨m.toArray⟩) := hcl1.out p m hm
          have HST := Lib.hid (qR_step (n := f.1) hm)
          have j1 : (p : Int) < (rs.length : Int) := by omega
          clear hm
          obtain ⟨s, hs⟩ : ∃ s, qR (rs.take p) f.1 = s := ⟨_, rfl⟩
          rw [hs] at HST ⊢
          cases s
          · cases hmg : m == f.1
            · have HMG := Lib.hid hmg
              go_wp2_with fail
              go_quiet (fail)
              go_wp2
              go_roundw
              case rel => exact ⟨p + 1, _, by omega, by go_num, congrArg Value.bool (by rw [HST.out, HMG.out]; rfl), rfl⟩
              case measure => simp [intOf]; omega
            · have HMG := Lib.hid hmg
              go_wp2_with fail
              go_quiet (fail)
              go_wp2
              go_roundw
              case rel => exact ⟨p + 1, _, by omega, by go_num, congrArg Value.bool (by rw [HST.out, HMG.out]; rfl), rfl⟩
              case measure => simp [intOf]; omega
          · go_wp2_with fail
            go_quiet (fail)
            go_wp2
            go_roundw
            case rel => exact ⟨p + 1, _, by omega, by go_num, congrArg Value.bool (by rw [HST.out]; rfl), rfl⟩
            case measure => simp [intOf]; omega
        · rw [show qR (rs.take p) f.1 = isb by rw [List.take_of_length_le (by omega), hisb]]
          have HISB := Lib.hid hisb
          have hpl' : (rs.length : Int) ≤ (p : Int) := by omega
          have bn := Fl.drewN_below wr n
          have a1 : (wr.drewN n).cell? ⟨w2.heap.size, 1, none⟩ = some (.slice (some ⟨rb, ro, none⟩) rs.length rc) := a1
          have HA2 := Lib.hid (HA1.out.below bn)
          have HF2 := Lib.hid (HF1.out.below bn)
          have HOA2 := Lib.hid (HOB.out.below bn)
          have HOM2 := Lib.hid (HOM.out.below bn)
          have GB4 := Lib.hid (blk_below bn GB3.out)
          have HB5 := Lib.hid (bch HB4.out bn)
          have HK2 := Lib.hid (hown.out.below bn)
          have hsz2 : W2.heap.size ≤ (wr.drewN n).heap.size := Nat.le_trans hw2 bn.size
          generalize wr.drewN n = wn at HA2 HF2 HOA2 HOM2 GB4 HB5 HK2 hsz2 a1 ⊢
          have FKX := Lib.hid (show Fs wn K xs by rw [HXS.out]; exact fs_filter HF2.out q (by rw [← HXS.out]; exact HK2.out.rd))
          have EK := Lib.hid (expand_go xs main K kc 40 300 wn (by omega) (by omega) FKX.out)
          rw [HX.out (flF xs) (fun n hn => by rw [HXS.out]; exact (flF_filter (q := q) (by rw [← hq]; exact qR_in hn)).symm)] at EK
          clear HA1 HF1 HOB HOM GB3 HB4 hown hcl1 F0 f0 bn hisb HXS HB HK2 FKX hw2 OE AE hxk hk kend
          go_wp2_with fail
          refine EK.out.mono ?_
          rintro en w4 ⟨LB, RB, NB, ld, rd, nd, rfl, ho, hb4⟩
          unfold outC
          simp only
          have c4 := bch hb4 (one_below w4 (.cells #[.slice LB U.length ld, .slice RB rs.length rd, .slice NB nt.length nd, .int .i64 uu] 31))
          have HA3 := Lib.hid (HA2.out.below c4)
          have HF3 := Lib.hid (HF2.out.below c4)
          have HOA3 := Lib.hid (HOA2.out.below c4)
          have HOM3 := Lib.hid (HOM2.out.below c4)
          have GB5 := Lib.hid (blk_below c4 GB4.out)
          have HB6 := Lib.hid (bch HB5.out c4)
          have HBB := Lib.hid (held_new (lc := ld) (rc := rd) (nc := nd) (a := U.length) (b := rs.length) (c := nt.length) (u := uu) ho.rdo)
          have hsz4 := c4.size
          clear ho hb4 c4 EK HA2 HF2 HOA2 HOM2 GB4 HB5 a1
          go_wp2_with fail
          generalize w4.alloc (.cells #[.slice LB U.length ld, .slice RB rs.length rd, .slice NB nt.length nd, .int .i64 uu] 31) = W at HA3 HF3 HOA3 HOM3 GB5 HB6 HBB hsz4 ⊢
          have HA0 := Lib.hid (HA3.out.below (below_drew W))
          have HB0 := Lib.hid (HBB.out.below (below_drew W))
          have a0 := HA0.out.c0
          have a1 := HA0.out.c1
          have a2 := HA0.out.c2
          have a3 := HA0.out.c3
          have b0 := HB0.out.c0
          have b1 := HB0.out.c1
          have b2 := HB0.out.c2
          have b3 := HB0.out.c3
          have KEEP := Lib.hid (fun (v : World) (h : Below W.drew.heap.size W.drew v) => (⟨cell_below h a0, cell_below h a1, cell_below h a2, cell_below h a3, cell_below h b0, cell_below h b1, cell_below h b2, cell_below h b3⟩ :
            v.cell? ⟨w2.heap.size, 0, none⟩ = some (.slice LA U.length lc) ∧ v.cell? ⟨w2.heap.size, 1, none⟩ = some (.slice (some ⟨rb, ro, none⟩) rs.length rc) ∧ v.cell? ⟨w2.heap.size, 2, none⟩ = some (.slice NA nt.length nc) ∧ v.cell? ⟨w2.heap.size, 3, none⟩ = some (.int .i64 (uu : Int)) ∧
            v.cell? ⟨w4.heap.size, 0, none⟩ = some (.slice LB U.length ld) ∧ v.cell? ⟨w4.heap.size, 1, none⟩ = some (.slice RB rs.length rd) ∧ v.cell? ⟨w4.heap.size, 2, none⟩ = some (.slice NB nt.length nd) ∧ v.cell? ⟨w4.heap.size, 3, none⟩ = some (.int .i64 (uu : Int))))
          go_region_held3 (fun v => v.cell? ⟨w2.heap.size, 0, none⟩ = some (.slice LA U.length lc) ∧ v.cell? ⟨w2.heap.size, 1, none⟩ = some (.slice (some ⟨rb, ro, none⟩) rs.length rc) ∧ v.cell? ⟨w2.heap.size, 2, none⟩ = some (.slice NA nt.length nc) ∧ v.cell? ⟨w2.heap.size, 3, none⟩ = some (.int .i64 (uu : Int)) ∧
            v.cell? ⟨w4.heap.size, 0, none⟩ = some (.slice LB U.length ld) ∧ v.cell? ⟨w4.heap.size, 1, none⟩ = some (.slice RB rs.length rd) ∧ v.cell? ⟨w4.heap.size, 2, none⟩ = some (.slice NB nt.length nd) ∧ v.cell? ⟨w4.heap.size, 3, none⟩ = some (.int .i64 (uu : Int)))
            (first
              | exact KEEP.out _ HV3.out
              | exact KEEP.out _ HV2.out
              | exact KEEP.out _ HV1.out
              | exact KEEP.out _ (.refl _ _)
              | go_keep)
            (first
              | (go_at_call 13; refine (CS.out B1 (some ⟨rb, ro, none⟩) NA B2 RB NB d1 rc nc d2 rd nd v2 HR12.out HR2.out).mono ?_; rintro e v3 ⟨rfl, hv3⟩; have HV3 := Lib.hid (bch HV2.out hv3); clear hv3)
              | (go_at_call 14; refine (CR.out LB RB NB ld rd nd v1 HB1.out.rd).mono ?_; rintro e v2 ⟨B2, d2, rfl, ho2, hv2⟩; have HV2 := Lib.hid (bch HV1.out hv2); have HR2 := Lib.hid (show RdO v2 B2 RB NB (U, rs, nt, uu) from ⟨ho2.rd, (HB1.out.rd.below hv2).reads, (HB1.out.rd.below hv2).notes⟩); have HR12 := Lib.hid (HR1.out.below hv2); clear hv2 ho2)
              | (go_at_call 14; refine (CR.out LA (some ⟨rb, ro, none⟩) NA lc rc nc W.drew HA0.out.rd).mono ?_; rintro e v1 ⟨B1, d1, rfl, ho1, hv1⟩; have HV1 := Lib.hid hv1; have HR1 := Lib.hid (show RdO v1 B1 (some ⟨rb, ro, none⟩) NA (U, rs, nt, uu) from ⟨ho1.rd, (HA0.out.rd.below hv1).reads, (HA0.out.rd.below hv1).notes⟩); have HB1 := Lib.hid (HB0.out.below hv1); clear hv1 ho1))
          have k3 : Below W.heap.size W v3 := bch (below_drew W) HV3.out
          have HA5 := Lib.hid (HA3.out.below k3)
          have HF5 := Lib.hid (HF3.out.below k3)
          have HOA5 := Lib.hid (HOA3.out.below k3)
          have HOM5 := Lib.hid (HOM3.out.below k3)
          have GB6 := Lib.hid (blk_below k3 GB5.out)
          have HB7 := Lib.hid (bch HB6.out k3)
          have hsz5 := k3.size
          clear a0 a1 a2 a3 b0 b1 b2 b3 KEEP HA0 HB0 HA3 HF3 HOA3 HOM3 GB5 HB6 HBB HV3 HV2 HV1 HR1 HR2 HR12 HB1 k3
          obtain ⟨cc, r, hr, hrl, m1, m2⟩ := cut_facts f.2 200 200 rfl
          have B6 := Lib.hid (blk_set GB6.out 1 (.string ⟨r.toArray⟩))
          have f1c : v3.cell? ⟨w.heap.size, 1, none⟩ = some (.string ⟨f.2.toArray⟩) := cell_of GB6.out 1
          have fz : v3.frozen? ⟨w.heap.size, 1, none⟩ = false := frozen_of GB6.out 1
          have k0 : (v3.setCell ⟨w.heap.size, 1, none⟩ (.string ⟨r.toArray⟩)).cell? ⟨w.heap.size, 0, none⟩ = some (.string ⟨f.1.toArray⟩) := cell_of B6.out 0
          have k1 : (v3.setCell ⟨w.heap.size, 1, none⟩ (.string ⟨r.toArray⟩)).cell? ⟨w.heap.size, 1, none⟩ = some (.string ⟨r.toArray⟩) := cell_of B6.out 1
          have HOA6 := Lib.hid (HOA5.out.set (p := w.heap.size) (j := 1) (v := .string ⟨r.toArray⟩) (by omega))
          have HOM6 := Lib.hid (HOM5.out.set (p := w.heap.size) (j := 1) (v := .string ⟨r.toArray⟩) (by omega))
          have HA6 := Lib.hid (show Held (v3.setCell ⟨w.heap.size, 1, none⟩ (.string ⟨r.toArray⟩)) w2.heap.size LA (some ⟨rb, ro, none⟩) NA lc rc nc (U, rs, nt, uu) U.length rs.length nt.length uu from ⟨(Below.heap_setCell v3 ⟨w.heap.size, 1, none⟩ _ w2.heap.size (by show w2.heap.size ≠ w.heap.size; omega)).trans HA5.out.blk, HOA6.out.rdo⟩)
          have HF6 := Lib.hid (show Fs (v3.setCell ⟨w.heap.size, 1, none⟩ (.string ⟨r.toArray⟩)) B fs6 from ⟨HOM6.out.rd, HF5.out.len, HF5.out.srt, HF5.out.txt⟩)
          have HB8 := Lib.hid (HB7.out.setCell (Nat.le_refl _) (p := ⟨w.heap.size, 1, none⟩) (.string ⟨r.toArray⟩))
          have CP := Lib.hid (Fl.rput_any B d fs6 (f.1, r) (v3.setCell ⟨w.heap.size, 1, none⟩ (.string ⟨r.toArray⟩)) HF6.out.rd (by omega) l1 (by show r.length ≤ _; omega))
          obtain ⟨pe, hpe⟩ : ∃ pe, Fl.putE fs6 (f.1, r) = pe := ⟨_, rfl⟩
          have HPE := Lib.hid hpe
          rw [hpe] at CP
          clear hr B6 HOA5 HOM5 HA5 HF5 HB7 GB6 HOA6 HOM6 hpe
          go_wp2_with fail
          refine CP.out.mono ?_
          rintro en w5 ⟨D, dd, rfl, ho, hb5⟩
          have HA7 := Lib.hid (HA6.out.below hb5)
          have HB9 := Lib.hid (bch HB8.out hb5)
          have HO5 := Lib.hid ho
          clear CP k0 k1 f1c fz m1 m2 HA6 HB8 ho hb5
          cases isb
          case true =>
            go_wp2_with fail
            refine (fixed_any _).mono ?_
            rintro en v ⟨rfl, hv⟩
            have HBE := Lib.hid (bch HB9.out hv)
            clear hv
            go_wp2
            go_ret
            exact ⟨rfl, HBE.out⟩
          case false =>
            by_cases he : pe = 0
            · subst he
              have HPL := Lib.hid (Fl.putR_yes HPE.out)
              have FKX := Lib.hid (fs_put HF6.out HG.out HPE.out (by show r.length ≤ _; omega) (by rw [← HPL.out]; exact HO5.out.rd))
              have EM := Lib.hid (expand_go (Fl.putL fs6 (f.1, r)) main D dd 40 300 w5 (by omega) (by omega) FKX.out)
              rw [HX.out (flF (Fl.putL fs6 (f.1, r))) (fun n hn => (flF_put (f := (f.1, r)) (qR_out HISB.out hn)).symm)] at EM
              rw [HPL.out]
              obtain ⟨ms, hms⟩ : ∃ ms, Fl.putL fs6 (f.1, r) = ms := ⟨_, rfl⟩
              rw [hms] at EM ⊢
              clear HPE HPL FKX HF6 HO5 HG hms HX HISB
              go_wp2_with fail
              refine EM.out.mono ?_
              rintro en w6 ⟨LB, RB, NB, ld, rd, nd, rfl, ho, hb6⟩
              unfold outC
              simp only
              have c6 := bch hb6 (one_below w6 (.cells #[.slice LB U.length ld, .slice RB rs.length rd, .slice NB nt.length nd, .int .i64 uu] 31))
              have HA8 := Lib.hid (HA7.out.below c6)
              have HB10 := Lib.hid (bch HB9.out c6)
              have HBB := Lib.hid (held_new (lc := ld) (rc := rd) (nc := nd) (a := U.length) (b := rs.length) (c := nt.length) (u := uu) ho.rdo)
              clear ho hb6 c6 EM HA7 HB9
              go_wp2_with fail
              generalize w6.alloc (.cells #[.slice LB U.length ld, .slice RB rs.length rd, .slice NB nt.length nd, .int .i64 uu] 31) = W at HA8 HB10 HBB ⊢
              have HA0 := Lib.hid (HA8.out.below (below_drew W))
              have HB0 := Lib.hid (HBB.out.below (below_drew W))
              have a0 := HA0.out.c0
              have a1 := HA0.out.c1
              have a2 := HA0.out.c2
              have a3 := HA0.out.c3
              have b0 := HB0.out.c0
              have b1 := HB0.out.c1
              have b2 := HB0.out.c2
              have b3 := HB0.out.c3
              have HW0 := Lib.hid (bch HB10.out (below_drew W))
              have KEEP := Lib.hid (fun (v : World) (h : Below W.drew.heap.size W.drew v) => (⟨cell_below h a0, cell_below h a1, cell_below h a2, cell_below h a3, cell_below h b0, cell_below h b1, cell_below h b2, cell_below h b3⟩ :
                v.cell? ⟨w2.heap.size, 0, none⟩ = some (.slice LA U.length lc) ∧ v.cell? ⟨w2.heap.size, 1, none⟩ = some (.slice (some ⟨rb, ro, none⟩) rs.length rc) ∧ v.cell? ⟨w2.heap.size, 2, none⟩ = some (.slice NA nt.length nc) ∧ v.cell? ⟨w2.heap.size, 3, none⟩ = some (.int .i64 (uu : Int)) ∧ v.cell? ⟨w6.heap.size, 0, none⟩ = some (.slice LB U.length ld) ∧ v.cell? ⟨w6.heap.size, 1, none⟩ = some (.slice RB rs.length rd) ∧ v.cell? ⟨w6.heap.size, 2, none⟩ = some (.slice NB nt.length nd) ∧ v.cell? ⟨w6.heap.size, 3, none⟩ = some (.int .i64 (uu : Int))))
              go_region_held3 (fun v => v.cell? ⟨w2.heap.size, 0, none⟩ = some (.slice LA U.length lc) ∧ v.cell? ⟨w2.heap.size, 1, none⟩ = some (.slice (some ⟨rb, ro, none⟩) rs.length rc) ∧ v.cell? ⟨w2.heap.size, 2, none⟩ = some (.slice NA nt.length nc) ∧ v.cell? ⟨w2.heap.size, 3, none⟩ = some (.int .i64 (uu : Int)) ∧ v.cell? ⟨w6.heap.size, 0, none⟩ = some (.slice LB U.length ld) ∧ v.cell? ⟨w6.heap.size, 1, none⟩ = some (.slice RB rs.length rd) ∧ v.cell? ⟨w6.heap.size, 2, none⟩ = some (.slice NB nt.length nd) ∧ v.cell? ⟨w6.heap.size, 3, none⟩ = some (.int .i64 (uu : Int)))
                (first
                  | exact KEEP.out _ HV4.out
                  | exact KEEP.out _ HV3.out
                  | exact KEEP.out _ HV2.out
                  | exact KEEP.out _ HV1.out
                  | exact KEEP.out _ (.refl _ _)
                  | go_keep)
                (first
                  | (go_at_call 15; refine (fixed_any v3').mono ?_; rintro e v4 ⟨rfl, hv4⟩; have HV4 := Lib.hid (bch HV3.out hv4); clear hv4)
                  | (go_at_call 13; refine (CS.out B1 (some ⟨rb, ro, none⟩) NA B2 RB NB d1 rc nc d2 rd nd v2 HR12.out HR2.out).mono ?_; rintro e v3' ⟨rfl, hv3⟩; have HV3 := Lib.hid (bch HV2.out hv3); clear hv3)
                  | (go_at_call 14; refine (CR.out LB RB NB ld rd nd v1 HB1.out.rd).mono ?_; rintro e v2 ⟨B2, d2, rfl, ho2, hv2⟩; have HV2 := Lib.hid (bch HV1.out hv2); have HR2 := Lib.hid (show RdO v2 B2 RB NB (U, rs, nt, uu) from ⟨ho2.rd, (HB1.out.rd.below hv2).reads, (HB1.out.rd.below hv2).notes⟩); have HR12 := Lib.hid (HR1.out.below hv2); clear hv2 ho2)
                  | (go_at_call 14; refine (CR.out LA (some ⟨rb, ro, none⟩) NA lc rc nc W.drew HA0.out.rd).mono ?_; rintro e v1 ⟨B1, d1, rfl, ho1, hv1⟩; have HV1 := Lib.hid hv1; have HR1 := Lib.hid (show RdO v1 B1 (some ⟨rb, ro, none⟩) NA (U, rs, nt, uu) from ⟨ho1.rd, (HA0.out.rd.below hv1).reads, (HA0.out.rd.below hv1).notes⟩); have HB1 := Lib.hid (HB0.out.below hv1); clear hv1 ho1))
              go_wp2
              go_ret
              exact ⟨rfl, bch HW0.out HV4.out⟩
            · have hpe : (pe != 0) = true := by simpa using he
              go_wp2_with fail
              refine (fixed_any _).mono ?_
              rintro en v ⟨rfl, hv⟩
              have HBE := Lib.hid (bch HB9.out hv)
              clear hv
              go_wp2
              go_ret
              exact ⟨rfl, HBE.out⟩
end Go.Proofs.YtmnbepapgghdaaaGreat

namespace Go.Proofs.YtmnbepapgghdaaaGreat
open Go.RowKit Go.Deep Go.ChangeShapes Go.WideShapes Go.Joins

theorem bytes_list (s : ByteArray) : Value.string s = .string ⟨s.data.toList.toArray⟩ := by
  obtain ⟨⟨l⟩⟩ := s; rfl
theorem addr_lit {w : World} {a : Addr} {v : Value} (h : w.cell? a = some v) : ∃ b o, a = ⟨b, o, none⟩ := by
  have := World.cell?_spot h
  obtain ⟨b, o, s⟩ := a
  simp at this
  subst this
  exact ⟨b, o, rfl⟩
theorem add_plain (b o j : Nat) : (⟨b, o, none⟩ : Addr).add j = ⟨b, o + j, none⟩ := by unfold Addr.add; split <;> simp_all
theorem add_add (a : Addr) (i j : Nat) : (a.add i).add j = a.add (i + j) := by
  unfold Addr.add
  by_cases hi : i = 0 <;> by_cases hj : j = 0 <;> simp [hi, hj, Nat.add_assoc]
theorem view_gen {H α : Type} [Inhabited α] {enc : TypeId × Value → H} {W : World} {d : DataW H} {p : List MemPlace} {A : Option Addr} {len cap : Nat} {T e k : Nat} (g : α → List Value) (Q : α → Prop) (hT : Tryz.prog.underlying T = some (.slice e)) (hk : Tryz.prog.cellsOf e = k) (hk0 : 0 < k)
    (hg : ∀ x, (g x).length = k) (hr : ∀ n cs y, DataW.trod enc Tryz.prog W 0 (fun _ => true) true n e cs = some y → cs.length = k → ∃ x, cs = g x ∧ Q x)
    (h : DataW.Trod enc Tryz.prog W 0 (fun _ => true) true T (.slice A len cap) d p) :
    ∃ xs : List α, len = xs.length ∧ (0 < xs.length → ∃ b o, A = some ⟨b, o, none⟩ ∧ ∀ i x, xs[i]? = some x → ∀ j v, (g x)[j]? = some v → W.cell? ⟨b, o + i * k + j, none⟩ = some v) ∧ (∀ x ∈ xs, Q x) ∧ xs.length ≤ 9223372036854775807 := by
  obtain ⟨fuel, hf⟩ := h
  rcases open_slice hT hf with ⟨hcs, _⟩ | ⟨a, l, c, m, n, D, Pl, hcs, _, hl, hm, hmm, _, hall⟩
  · simp [Value.cells] at hcs
    obtain ⟨rfl, rfl, rfl⟩ := hcs
    exact ⟨[], rfl, fun h => absurd h (by simp), (fun f hf => by cases hf), by simp⟩
  · simp [Value.cells] at hcs
    obtain ⟨rfl, rfl, rfl⟩ := hcs
    simp only [if_true] at hmm
    unfold maxLen at hm
    rw [hk] at hall
    have each : ∀ i, i < len → ∃ x : α, (∀ j v, (g x)[j]? = some v → W.cell? (a.add (i * k + j)) = some v) ∧ Q x := fun i hi => by
      obtain ⟨cs', h1, h2⟩ := hall i (by omega)
      obtain ⟨_, h3, h4⟩ := World.cells?_some h1
      obtain ⟨x, rfl, hq⟩ := hr _ _ _ h2 h3
      refine ⟨x, fun j v hj => ?_, hq⟩
      have hjl : j < k := by rw [← hg x]; exact (List.getElem?_eq_some_iff.1 hj).1
      have := h4 j hjl
      rw [hj] at this
      rw [← this, add_add]
    obtain ⟨F, hF⟩ := choose_lt each
    refine ⟨(List.range len).map F, by simp, fun h0 => ?_, fun x hx => ?_, by simp; omega⟩
    · have h0' : 0 < len := by simpa using h0
      obtain ⟨v0, hv0⟩ : ∃ v, (g (F 0))[0]? = some v := ⟨_, List.getElem?_eq_getElem (by rw [hg]; exact hk0)⟩
      obtain ⟨b, o, rfl⟩ := addr_lit (by have := (hF 0 h0').1 0 v0 hv0; simpa [Addr.add] using this)
      refine ⟨b, o, rfl, fun i x hi j v hj => ?_⟩
      have hlt : i < len := by
        rcases Nat.lt_or_ge i len with q | q
        · exact q
        · rw [List.getElem?_eq_none (by simpa using q)] at hi; cases hi
      have e : F i = x := by
        rw [List.getElem?_map, List.getElem?_range hlt] at hi
        simpa using hi
      have := (hF i hlt).1
      rw [e] at this
      have := this j v hj
      rwa [add_plain, ← Nat.add_assoc] at this
    · obtain ⟨i, hi, rfl⟩ := List.mem_map.1 hx
      exact (hF i (by simpa using hi)).2
/-- A slice that reads as bytes. -/
def RdY (w : World) (A : Option Addr) (xs : List UInt8) : Prop :=
  0 < xs.length → ∃ b o, A = some ⟨b, o, none⟩ ∧ ∀ i x, xs[i]? = some x → w.cell? ⟨b, o + i, none⟩ = some (.int .u8 x.toNat)
theorem RdY.below {w w' : World} {A : Option Addr} {xs : List UInt8} (h : RdY w A xs) (hb : Below w.heap.size w w') : RdY w' A xs := fun h0 => by
  obtain ⟨b, o, e, hc⟩ := h h0
  exact ⟨b, o, e, fun i f hi => cell_below hb (hc i f hi)⟩
theorem Tryz.cells89 : Tryz.prog.cellsOf 89 = 2 := by kernel_rfl
theorem Tryz.cells9 : Tryz.prog.cellsOf 9 = 1 := by kernel_rfl
theorem Tryz.cells3 : Tryz.prog.cellsOf 3 = 1 := by kernel_rfl
theorem view_toks {H : Type} {enc : TypeId × Value → H} {W : World} {d : DataW H} {p : List MemPlace} {A : Option Addr} {len cap : Nat}
    (h : DataW.Trod enc Tryz.prog W 0 (fun _ => true) true 27 (.slice A len cap) d p) :
    ∃ fs : List Tok, len = fs.length ∧ Rd W A fs ∧ (∀ f ∈ fs, f.2.length ≤ 9223372036854775807) ∧ fs.length ≤ 9223372036854775807 := by
  obtain ⟨fuel, hf⟩ := h
  rcases open_slice_pairs Tryz.underlying27 Tryz.underlying89 Tryz.cells89 rfl rfl Tryz.cells3 Tryz.cells9 hf with ⟨hcs, _⟩ | ⟨a, l, c, m, n, V0, V1, D0, D1, P0, P1, hcs, _, hl, hm, hmm, _, hall⟩
  · simp [Value.cells] at hcs
    obtain ⟨rfl, rfl, rfl⟩ := hcs
    exact ⟨[], rfl, fun h => absurd h (by simp), (fun f hf => by cases hf), by simp⟩
  · simp [Value.cells] at hcs
    obtain ⟨rfl, rfl, rfl⟩ := hcs
    simp only [if_true] at hmm
    unfold maxLen at hm
    have each : ∀ i, i < len → ∃ f : Tok, W.cell? (a.add (i * 2)) = some (.int .i64 f.1) ∧ W.cell? (a.add (i * 2 + 1)) = some (.string ⟨f.2.toArray⟩) ∧ f.2.length ≤ 9223372036854775807 := fun i hi => by
      obtain ⟨c0, c1, t0, t1⟩ := hall i (by omega)
      obtain ⟨s0, e0, _, _⟩ := DataW.trod_int Tryz.underlying3 t0
      obtain ⟨s1, e1, _, z1⟩ := DataW.trod_string Tryz.underlying9 t1
      simp only [List.cons.injEq, and_true] at e0 e1
      unfold maxLen at z1
      refine ⟨(s0, s1.data.toList), by rw [c0, e0], by rw [c1, e1, bytes_list], ?_⟩
      · show s1.data.toList.length ≤ _
        have := size_list s1
        omega
    obtain ⟨F, hF⟩ := choose_lt (α := Tok) each
    refine ⟨(List.range len).map F, by simp, fun h0 => ?_, fun f hf => ?_, by simp; omega⟩
    · have h0' : 0 < len := by simpa using h0
      obtain ⟨b, o, rfl⟩ := addr_lit (by have := (hF 0 h0').1; simpa [Addr.add] using this)
      refine ⟨b, o, rfl, fun i f hi => ?_⟩
      have hlt : i < len := by
        rcases Nat.lt_or_ge i len with q | q
        · exact q
        · rw [List.getElem?_eq_none (by simpa using q)] at hi; cases hi
      have e : F i = f := by
        rw [List.getElem?_map, List.getElem?_range hlt] at hi
        simpa using hi
      have := hF i hlt
      rw [e, add_plain, add_plain] at this
      exact ⟨this.1, by rw [Nat.add_assoc]; exact this.2.1⟩
    · obtain ⟨i, hi, rfl⟩ := List.mem_map.1 hf
      exact (hF i (by simpa using hi)).2.2

theorem byte_int (k : Nat) (h : k < 256) : ((UInt8.ofNat k).toNat : Int) = (k : Int) := by
  rw [UInt8.toNat_ofNat', Nat.mod_eq_of_lt h]
theorem byte_of {n : Int} (h : (Lit.int .u8 n).wf = true) : ∃ c : UInt8, n = (c.toNat : Int) := by
  have e1 : IntKind.u8.min = 0 := by rfl
  have e2 : IntKind.u8.max = 255 := by rfl
  simp [Lit.wf, e1, e2] at h
  exact ⟨UInt8.ofNat n.toNat, by rw [byte_int _ (by omega)]; omega⟩
theorem view_bytes {H : Type} {enc : TypeId × Value → H} {W : World} {d : DataW H} {p : List MemPlace} {A : Option Addr} {len cap : Nat} (h : DataW.Trod enc Tryz.prog W 0 (fun _ => true) true 57 (.slice A len cap) d p) :
    ∃ xs : List UInt8, len = xs.length ∧ RdY W A xs ∧ xs.length ≤ 9223372036854775807 := by
  obtain ⟨xs, h1, h2, _, h4⟩ := view_gen (k := 1) (fun x : UInt8 => [.int .u8 x.toNat]) (fun _ => True) Tryz.underlying57 (by kernel_rfl) (by omega) (fun _ => rfl) (fun n cs y hy _ => by
    obtain ⟨s, rfl, _, hw⟩ := DataW.trod_int Tryz.underlying5 hy
    obtain ⟨c, rfl⟩ := byte_of hw
    exact ⟨c, rfl, trivial⟩) h
  refine ⟨xs, h1, fun h0 => ?_, h4⟩
  obtain ⟨b, o, e, hc⟩ := h2 h0
  exact ⟨b, o, e, fun i x hx => by simpa using hc i x hx 0 _ rfl⟩
end Go.Proofs.YtmnbepapgghdaaaGreat

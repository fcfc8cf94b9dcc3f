/-
  The walk of FilesMerged: for every two lists of files, and every name, it returns true; old memory stays.
-/
import Derived.Test.YtdaekfigpkogbaaR2
namespace Go.Proofs.Ytdaekfigpkogbaa
open Go.RowKit

theorem mrg_in {a b : List Fl} {n : List UInt8} (he : mrgE a b = 0) (hs : Sorted b) (h : hasL b n = true) : txtL (mrgL a b) n = txtL b n ∧ hasL (mrgL a b) n = true := by
  rw [hasL_get] at h
  rw [hasL_get]
  unfold txtL
  rw [getL_mrg b a he hs]
  cases k : getL b n with
  | none => rw [k] at h; cases h
  | some t => exact ⟨rfl, rfl⟩
theorem mrg_out {a b : List Fl} {n : List UInt8} (he : mrgE a b = 0) (hs : Sorted b) (h : hasL b n = false) : txtL (mrgL a b) n = txtL a n ∧ hasL (mrgL a b) n = hasL a n := by
  rw [hasL_get] at h
  rw [hasL_get, hasL_get]
  unfold txtL
  rw [getL_mrg b a he hs]
  cases k : getL b n with
  | none => exact ⟨rfl, rfl⟩
  | some t => rw [k] at h; cases h

set_option maxRecDepth 100000 in
set_option maxHeartbeats 4000000 in
theorem filesMerged_walk (A B : Option Addr) (c d : Nat) (fs gs : List Fl) (nm : List UInt8) (w : World) (hr : Rd w A fs) (hq : Rd w B gs) (hf : Hid (Fit fs)) (hg : Hid (Fit gs)) (hl : fs.length ≤ 9223372036854775807) (hm : gs.length ≤ 9223372036854775807) :
    Calls Try.prog 8 #[.slice A fs.length c, .slice B gs.length d, .string ⟨nm.toArray⟩] w fun e w' => e = .returned (.bool true) ∧ Below w.heap.size w w' := by
  have hga := mapL_good fs 16 100
  have hgb := mapL_good gs 16 100
  have HMa := Lib.hid (fun (w' : World) (h : Rd w' A fs) => map_any A c fs 16 100 w' h hf hl (by omega) (by omega))
  have HMb := Lib.hid (fun (w' : World) (h : Rd w' B gs) => map_any B d gs 16 100 w' h hg hm (by omega) (by omega))
  have la := mapL_len fs 16 100
  have lb := mapL_len gs 16 100
  generalize mapL fs 16 100 = ma at hga HMa la
  generalize mapL gs 16 100 = mb at hgb HMb lb
  obtain ⟨he1, he2, he3⟩ := mrg_twice hga hgb (by omega)
  have hgr := mrg_good mb ma hga he1
  have hin := fun (h : hasL mb nm = true) => mrg_in (n := nm) he1 hgb.1 h
  have hout := fun (h : hasL mb nm = false) => mrg_out (n := nm) he1 hgb.1 h
  have hdin := fun (n : List UInt8) (h : n ∈ diffL ma (mrgL ma mb)) => diff_mrg hga hgb he1 h
  have hm1 := fun (w' : World) (A B : Option Addr) (c d : Nat) (h : Rd w' A ma) (k : Rd w' B mb) => merge_any A B c d ma mb w' h k (Lib.hid hga) (Lib.hid hgb.fit) (by omega) (by omega)
  have hm2 := fun (w' : World) (A B : Option Addr) (c d : Nat) (h : Rd w' A (mrgL ma mb)) (k : Rd w' B mb) => merge_any A B c d (mrgL ma mb) mb w' h k (Lib.hid hgr) (Lib.hid hgb.fit) hgr.2.1 (by omega)
  rw [he1] at hm1
  rw [he2, he3] at hm2
  generalize mrgL ma mb = mr at hgr hin hout hdin hm1 hm2
  have lr := hgr.2.1
  have ld := diffL_len ma mr
  have HD := Lib.hid (fun (w' : World) (A B : Option Addr) (c d : Nat) (h : Rd w' A ma) (k : Rd w' B mr) (h1 : ma.length ≤ c) (h2 : mr.length ≤ d) (h3 : c ≤ 9223372036854775807) (h4 : d ≤ 9223372036854775807) => diff_any A B c d ma mr w' h k (by omega) (by omega) h1 h2 h3 h4)
  generalize diffL ma mr = dd at hdin HD ld
  have HRT := Lib.hid (rightB_good hgr)
  have M1 := Lib.hid hm1
  have M2 := Lib.hid hm2
  have SA := Lib.hid hga.1
  have SB := Lib.hid hgb.1
  have SR := Lib.hid hgr.1
  have FR := Lib.hid hgr.fit
  have HDI := Lib.hid hdin
  have HIN := Lib.hid hin
  have HOUT := Lib.hid hout
  have G1 := Lib.hid (fun (w' : World) (A : Option Addr) (c : Nat) (h : Rd w' A mr) => get_any A c mr nm w' h (by omega) SR)
  have G2 := Lib.hid (fun (w' : World) (A : Option Addr) (c : Nat) (h : Rd w' A mb) => get_any A c mb nm w' h (by omega) SB)
  have G3 := Lib.hid (fun (w' : World) (A : Option Addr) (c : Nat) (h : Rd w' A ma) => get_any A c ma nm w' h (by omega) SA)
  clear hga hgb hgr he1 he2 he3 hm1 hm2 hdin hin hout
  -- the three answers of Get, and what holds of them
  obtain ⟨s, hs⟩ : ∃ s, s = txtL mr nm := ⟨_, rfl⟩
  obtain ⟨si, hsi⟩ : ∃ s, s = hasL mr nm := ⟨_, rfl⟩
  obtain ⟨t, ht⟩ : ∃ s, s = txtL mb nm := ⟨_, rfl⟩
  obtain ⟨ti, hti⟩ : ∃ s, s = hasL mb nm := ⟨_, rfl⟩
  obtain ⟨u, hu⟩ : ∃ s, s = txtL ma nm := ⟨_, rfl⟩
  obtain ⟨ui, hui⟩ : ∃ s, s = hasL ma nm := ⟨_, rfl⟩
  rw [← hs, ← hsi] at G1 HIN HOUT
  rw [← ht, ← hti] at G2 HIN
  rw [← hti] at HOUT
  rw [← hu, ← hui] at G3 HOUT
  clear hs hsi ht hti hu hui
  have key : (ti = true ∧ s = t ∧ si = true) ∨ (ti = false ∧ s = u ∧ si = ui) := by
    cases hh : ti
    · exact .inr ⟨rfl, HOUT.out hh⟩
    · exact .inl ⟨rfl, HIN.out hh⟩
  clear HIN HOUT
  go_enter Try.func8, Try.ntmps8
  go_wp2_with fail
  refine (HMa.out _ hr).mono ?_
  rintro e w1 ⟨A1, c1, rfl, ho1, hb⟩
  have hq1 := hq.below hb
  obtain ⟨p1, p2, _⟩ := ho1.cap
  go_wp2_with fail
  refine (HMb.out _ hq1).mono ?_
  rintro e w2 ⟨B1, d1, rfl, ho2, hb2⟩
  have r1 := ho1.rd.below hb2
  have r2 := ho2.rd
  replace hb := bch hb hb2
  clear hb2 ho1 ho2 hr hq hq1
  go_wp2_with fail
  refine (M1.out _ A1 B1 c1 d1 r1 r2).mono ?_
  rintro e w3 ⟨A3, c3, rfl, ho3, hb2⟩
  obtain ⟨p3, p4, _⟩ := ho3.cap
  have r3 := ho3.rd
  replace r1 := r1.below hb2
  replace r2 := r2.below hb2
  replace hb := bch hb hb2
  clear hb2 ho3
  go_wp2_with fail
  refine (M2.out _ A3 B1 c3 d1 r3 r2).mono ?_
  rintro e w4 ⟨A4, c4, rfl, ho4, hb2⟩
  have r4 := ho4.rd
  replace r1 := r1.below hb2
  replace r2 := r2.below hb2
  replace r3 := r3.below hb2
  replace hb := bch hb hb2
  clear hb2 ho4
  go_wp2_with fail
  refine (same_any A3 A4 c3 c4 mr mr _ r3 r4 (by omega) (by omega)).mono ?_
  rw [decide_eq_true rfl]
  rintro e w5 ⟨rfl, n5, rfl⟩
  replace r1 := r1.drewN n5
  replace r2 := r2.drewN n5
  replace r3 := r3.drewN n5
  replace hb := bch hb (drewN_below _ n5)
  generalize w4.drewN n5 = w6 at r1 r2 r3 hb ⊢
  clear r4
  go_wp2_with fail
  refine (right_any A3 c3 mr _ r3 (by omega) FR.out).mono ?_
  rw [HRT.out]
  rintro e w7 ⟨rfl, hb2⟩
  replace r1 := r1.below hb2
  replace r2 := r2.below hb2
  replace r3 := r3.below hb2
  replace hb := bch hb hb2
  clear hb2
  go_wp2_with fail
  refine (G1.out _ A3 c3 r3).mono ?_
  rintro e w8 ⟨rfl, hb2⟩
  replace r1 := r1.below hb2
  replace r2 := r2.below hb2
  replace r3 := r3.below hb2
  replace hb := bch hb hb2
  clear hb2
  go_wp2_with fail
  refine (G2.out _ B1 d1 r2).mono ?_
  rintro e w9 ⟨rfl, hb2⟩
  replace r1 := r1.below hb2
  replace r2 := r2.below hb2
  replace r3 := r3.below hb2
  replace hb := bch hb hb2
  clear hb2
  go_wp2_with fail
  refine (G3.out _ A1 c1 r1).mono ?_
  rintro e w10 ⟨rfl, hb2⟩
  replace r1 := r1.below hb2
  replace r2 := r2.below hb2
  replace r3 := r3.below hb2
  replace hb := bch hb hb2
  clear hb2 G1 G2 G3
  have fin : True := trivial
  rcases key with ⟨rfl, rfl, rfl⟩ | ⟨rfl, rfl, rfl⟩
  all_goals
    have qs : (s == s) = true := by simp
    try (have qi : (si == si) = true := by simp)
    go_wp2_with fail
    refine (HD.out _ A1 A3 c1 c3 r1 r3 p1 p3 p2 p4).mono ?_
    intro e w11 h11
    obtain ⟨N, nc, rfl, sN, hb2⟩ := diff_res h11
    clear h11
    replace r2 := r2.below hb2
    replace hb := bch hb hb2
    clear hb2
    have RB := Lib.hid r2
    have RN := Lib.hid sN
    clear r1 r2 r3 sN
    go_wp2_with fail
    go_loopw [20] (fun i wr => ∃ k : Nat, k ≤ dd.length ∧ i = .int .i64 k ∧ Below w11.heap.size w11 wr) (fun i _ => dd.length - (intOf i).toNat)
    case atStart => exact ⟨0, Nat.zero_le _, rfl, Below.refl _ _⟩
    case round =>
      obtain ⟨k, hk, rfl, hbw⟩ := hrel
      have r2 := RB.out.below hbw
      by_cases hlt : k < dd.length
      · obtain ⟨b, o, rfl, hcell⟩ := (RN.out.below hbw) (by omega)
        obtain ⟨x, hx⟩ : ∃ x, dd[k]? = some x := ⟨_, List.getElem?_eq_getElem hlt⟩
        have c1' := hcell k x hx
        have hhas := HDI.out x (List.mem_of_getElem? hx)
        have hget := get_any B1 d1 mb x wr r2 (by omega) SB
        rw [hhas] at hget
        generalize txtL mb x = tx at hget
        have HG := Lib.hid hget
        clear hcell hx hhas hget
        go_wp2_with fail
        refine HG.out.mono ?_
        rintro e w12 ⟨rfl, hb2⟩
        go_wp2
        go_roundw
        case rel => exact ⟨k + 1, by omega, by go_num, bch hbw hb2⟩
        case measure => simp [intOf]; omega
      · go_wp2_with fail
        refine (fixed_any _).mono ?_
        rintro e w12 ⟨rfl, hb2⟩
        go_wp2
        go_ret
        exact ⟨rfl, bch hb (bch hbw hb2)⟩
end Go.Proofs.Ytdaekfigpkogbaa

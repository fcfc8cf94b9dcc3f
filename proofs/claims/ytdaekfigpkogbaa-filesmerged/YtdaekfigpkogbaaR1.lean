/-
  The walks of FilesMerge and FilesRight: for every lists of files they return true; old memory stays.
-/
import Derived.Test.YtdaekfigpkogbaaQ
namespace Go.Proofs.Ytdaekfigpkogbaa
open Go.RowKit

theorem diff_res {w : World} {r : List (List UInt8)} {e : Ending} {w' : World} (h : DiffRes w r e w') : ∃ N nc, e = .returned (.slice N r.length nc) ∧ RdS w' N r ∧ Below w.heap.size w w' := by
  obtain ⟨N, nc, h1, h2, h3⟩ := h
  exact ⟨N, nc, h1, h2.rd, h3⟩
theorem diffL_len : ∀ (a b : List Fl), (diffL a b).length ≤ a.length + b.length
  | [], b => by simp [diffL]
  | x :: a, [] => by simp [diffL]
  | x :: a, y :: b => by
    rw [diffL]
    split
    · have := diffL_len a (y :: b); simp at this ⊢; omega
    · split
      · have := diffL_len (x :: a) b; simp at this ⊢; omega
      · have := diffL_len a b
        split <;> (simp; omega)
  termination_by a b => a.length + b.length

set_option maxRecDepth 100000 in
set_option maxHeartbeats 4000000 in
theorem filesMerge_walk (A B : Option Addr) (c d : Nat) (fs gs : List Fl) (w : World) (hr : Rd w A fs) (hq : Rd w B gs) (hf : Hid (Fit fs)) (hg : Hid (Fit gs)) (hl : fs.length ≤ 9223372036854775807) (hm : gs.length ≤ 9223372036854775807) :
    Calls Try.prog 5 #[.slice A fs.length c, .slice B gs.length d] w fun e w' => e = .returned (.bool true) ∧ Below w.heap.size w w' := by
  have hga := mapL_good fs 40 4000
  have hgb := mapL_good gs 40 4000
  have HMa := Lib.hid (fun (w' : World) (h : Rd w' A fs) => map_any A c fs 40 4000 w' h hf hl (by omega) (by omega))
  have HMb := Lib.hid (fun (w' : World) (h : Rd w' B gs) => map_any B d gs 40 4000 w' h hg hm (by omega) (by omega))
  generalize mapL fs 40 4000 = ma at hga HMa
  generalize mapL gs 40 4000 = mb at hgb HMb
  have la := hga.2.1
  have lb := hgb.2.1
  have GA := Lib.hid hga
  have GB := Lib.hid hgb
  have FB := Lib.hid hgb.fit
  have HS := Lib.hid (same_sorted hga.1 hgb.1)
  have HME := Lib.hid (fun (w' : World) (A B : Option Addr) (c d : Nat) (h : Rd w' A ma) (k : Rd w' B mb) => merge_any A B c d ma mb w' h k GA FB la (by omega))
  have HMR := Lib.hid (fun (w' : World) (A B : Option Addr) (c d : Nat) (h : Rd w' A ma) (k : Rd w' B mb) => rmerge_any A B c d ma mb w' h k GA FB la (by omega))
  have lr : (mrgL ma mb).length ≤ 32 := by
    by_cases he : mrgE ma mb = 0
    · exact (mrg_good mb ma hga he).2.1
    · have : ∀ (b a : List Fl), mrgE a b ≠ 0 → mrgL a b = [] := fun b => by
        induction b with
        | nil => intro a h; exact absurd rfl h
        | cons f r ih =>
          intro a h
          rw [mrgE] at h
          rw [mrgL]
          split
          · rename_i k; rw [if_pos k] at h; exact ih _ h
          · rfl
      rw [this _ _ he]; simp
  generalize mrgL ma mb = mr at HME HMR lr
  generalize mrgE ma mb = ee at HME HMR
  have ld := diffL_len ma mb
  have HD := Lib.hid (fun (w' : World) (A B : Option Addr) (c d : Nat) (h : Rd w' A ma) (k : Rd w' B mb) (h1 : ma.length ≤ c) (h2 : mb.length ≤ d) (h3 : c ≤ 9223372036854775807) (h4 : d ≤ 9223372036854775807) => diff_any A B c d ma mb w' h k (by omega) (by omega) h1 h2 h3 h4)
  have HDR := Lib.hid (fun (w' : World) (A B : Option Addr) (c d : Nat) (h : Rd w' A ma) (k : Rd w' B mb) => rdiff_any A B c d ma mb w' h k (by omega) (by omega))
  generalize diffL ma mb = dd at HD HDR ld
  clear hga hgb
  go_enter Try.func5, Try.ntmps5
  go_wp2_with fail
  refine (HMa.out _ hr).mono ?_
  rintro e w1 ⟨A1, c1, rfl, ho1, hb⟩
  have hq1 := hq.below hb
  obtain ⟨p1, p2, _⟩ := ho1.cap
  go_wp2_with fail
  refine (HMb.out _ hq1).mono ?_
  rintro e w2 ⟨B1, d1, rfl, ho2, hb2⟩
  obtain ⟨p3, p4, _⟩ := ho2.cap
  have r1 := ho1.rd.below hb2
  have r2 := ho2.rd
  replace hb := bch hb hb2
  clear hb2 ho1 ho2 hr hq hq1
  go_wp2_with fail
  refine (HME.out _ A1 B1 c1 d1 r1 r2).mono ?_
  rintro e w3 ⟨A3, c3, rfl, ho3, hb2⟩
  have r3 := ho3.rd
  replace r1 := r1.below hb2
  replace r2 := r2.below hb2
  replace hb := bch hb hb2
  clear hb2 ho3
  go_wp2_with fail
  refine (HMR.out _ A1 B1 c1 d1 r1 r2).mono ?_
  rintro e w4 ⟨A4, c4, rfl, r4, hb2⟩
  replace r1 := r1.below hb2
  replace r2 := r2.below hb2
  replace r3 := r3.below hb2
  replace hb := bch hb hb2
  clear hb2
  go_wp2_with fail
  refine (equal_any A3 A4 c3 c4 mr mr _ r3 r4 (by omega) (by omega)).mono ?_
  rw [decide_eq_true (rfl : mr = mr)]
  rintro e w5 ⟨rfl, n5, rfl⟩
  replace r1 := r1.drewN n5
  replace r2 := r2.drewN n5
  replace hb := bch hb (drewN_below _ n5)
  generalize w4.drewN n5 = w6 at r1 r2 hb ⊢
  clear r3 r4
  go_wp2_with fail
  refine (HD.out _ A1 B1 c1 d1 r1 r2 p1 p3 p2 p4).mono ?_
  intro e w7 h7
  obtain ⟨N7, k7, rfl, s7, hb2⟩ := diff_res h7
  clear h7
  replace r1 := r1.below hb2
  replace r2 := r2.below hb2
  replace hb := bch hb hb2
  clear hb2
  go_wp2_with fail
  refine (HDR.out _ A1 B1 c1 d1 r1 r2).mono ?_
  intro e w8 h8
  obtain ⟨N8, k8, rfl, s8, hb2⟩ := diff_res h8
  clear h8
  replace r1 := r1.below hb2
  replace r2 := r2.below hb2
  replace s7 := s7.below hb2
  replace hb := bch hb hb2
  clear hb2
  go_wp2_with fail
  refine (words_any N7 N8 k7 k8 dd dd _ s7 s8 (by omega) (by omega)).mono ?_
  rw [decide_eq_true (rfl : dd = dd)]
  rintro e w9 ⟨rfl, n9, rfl⟩
  replace r1 := r1.drewN n9
  replace r2 := r2.drewN n9
  replace hb := bch hb (drewN_below _ n9)
  generalize w8.drewN n9 = w10 at r1 r2 hb ⊢
  clear s7 s8
  go_wp2_with fail
  refine (same_any A1 B1 c1 d1 ma mb _ r1 r2 (by omega) (by omega)).mono ?_
  rintro e w11 ⟨rfl, n11, rfl⟩
  replace r1 := r1.drewN n11
  replace r2 := r2.drewN n11
  replace hb := bch hb (drewN_below _ n11)
  generalize w10.drewN n11 = w12 at r1 r2 hb ⊢
  go_wp2_with fail
  refine (rsame_any A1 B1 c1 d1 ma mb _ r1 r2 (by omega) (by omega)).mono ?_
  rw [HS.out]
  rintro e w13 ⟨rfl, hb2⟩
  replace hb := bch hb hb2
  clear hb2
  generalize decide (ma = mb) = bq
  have q : (bq == bq) = true := by simp
  go_wp2_with fail
  refine (fixed_any _).mono ?_
  rintro e w14 ⟨rfl, hb2⟩
  go_wp2
  go_ret
  exact ⟨rfl, bch hb hb2⟩
end Go.Proofs.Ytdaekfigpkogbaa

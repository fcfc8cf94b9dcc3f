/-
  ExpandPlain: its walk.
  Arguments that came in, read as plain lists: tokens, bytes.
-/
import Derived.Test.YtmnbepapgghdaaaGreatK34
import Derived.Test.YtmnbepapgghdaaaGreatK35
import Derived.Test.YtmnbepapgghdaaaGreatK03
import Derived.Deep.SlicePairs
import Derived.Lib.SmallJoins
import Derived.ProofKit
import Derived.OpenShut
namespace Go.Proofs.YtmnbepapgghdaaaGreat
open Go.RowKit

theorem app_str (a b : By) : (⟨a.toArray⟩ : ByteArray) ++ ⟨b.toArray⟩ = ⟨(a ++ b).toArray⟩ := by
  apply ByteArray.ext
  simp [ByteArray.data_append]
theorem app_byte (s : ByteArray) (l : By) (k : Nat) (h : k < s.size) : (⟨l.toArray⟩ : ByteArray) ++ s.extract k (k + 1) = ⟨(l ++ [s[k]]).toArray⟩ := by
  apply ByteArray.ext
  have e : s.extract k (k + 1) = ⟨([s[k]] : By).toArray⟩ := by
    apply ByteArray.ext
    apply Array.ext
    · simp [ByteArray.data_extract]; have : k < s.data.size := h; omega
    · intro i h1 h2
      have : i = 0 := by simp at h2; omega
      subst this
      simp [ByteArray.data_extract]
      rfl
  rw [e, app_str]
theorem plain_A {l : By} (w : World) (T : List Tok) (hl : l.length ≤ 1000) (h : outX (expE Fl.nmOk (flF [([109], l)]) 3 100 [109]) = (T, [[109]], [], 0)) :
    Calls Tryz.prog 17 #[.string ⟨l.toArray⟩, .int .i64 3] w (Ans w (T, [[109]], [], 0) T.length 1 0 0) := by
  have q := of_any l 3 w (by omega) hl
  rw [h] at q
  exact q.mono fun en w' ⟨LA, RA, NA, lc, rc, nc, q1, q2, q3⟩ => ⟨LA, RA, NA, lc, rc, nc, q1, q2.rdo, q3⟩
theorem plain_F {l : By} (w : World) (hl : l.length ≤ 1000) (h1 : (expE Fl.nmOk (flF [([109], l)]) 3 100 [109]).out.length = 100) (h2 : (expE Fl.nmOk (flF [([109], l)]) 3 100 [109]).notes.length = 1) :
    Calls Tryz.prog 17 #[.string ⟨l.toArray⟩, .int .i64 3] w fun en w' => ∃ r b u, Ans w r 100 b 1 u en w' := by
  have q := of_any l 3 w (by omega) hl
  refine q.mono fun en w' ⟨LA, RA, NA, lc, rc, nc, q1, q2, q3⟩ => ⟨(outX (expE Fl.nmOk (flF [([109], l)]) 3 100 [109])), (outX (expE Fl.nmOk (flF [([109], l)]) 3 100 [109])).2.1.length, ((outX (expE Fl.nmOk (flF [([109], l)]) 3 100 [109])).2.2.2 : Int), LA, RA, NA, lc, rc, nc, ?_, q2.rdo, q3⟩
  rw [q1]
  have e1 : (outX (expE Fl.nmOk (flF [([109], l)]) 3 100 [109])).1.length = 100 := h1
  have e2 : (outX (expE Fl.nmOk (flF [([109], l)]) 3 100 [109])).2.2.1.length = 1 := h2
  unfold outC
  rw [e1, e2]
theorem plain_G {l : By} (w : World) (hl : l.length ≤ 1000) :
    Calls Tryz.prog 17 #[.string ⟨l.toArray⟩, .int .i64 3] w fun en w' => ∃ r a b c u, Ans w r a b c u en w' := by
  have q := of_any l 3 w (by omega) hl
  exact q.mono fun en w' ⟨LA, RA, NA, lc, rc, nc, q1, q2, q3⟩ => ⟨(outX (expE Fl.nmOk (flF [([109], l)]) 3 100 [109])), (outX (expE Fl.nmOk (flF [([109], l)]) 3 100 [109])).1.length, (outX (expE Fl.nmOk (flF [([109], l)]) 3 100 [109])).2.1.length, (outX (expE Fl.nmOk (flF [([109], l)]) 3 100 [109])).2.2.1.length, ((outX (expE Fl.nmOk (flF [([109], l)]) 3 100 [109])).2.2.2 : Int), LA, RA, NA, lc, rc, nc, q1, q2.rdo, q3⟩
/-- Two answers laid beside each other. -/
theorem held_two {w : World} {LA RA NA LB RB NB : Option Addr} {lc rc nc ld rd nd : Nat} {r r' : Res8} {a b c a' b' c' : Nat} {u u' : Int} (h : RdO w LA RA NA r) (g : RdO w LB RB NB r') :
    Hid (Held ((w.alloc (.cells #[.slice LA a lc, .slice RA b rc, .slice NA c nc, .int .i64 u] 31)).alloc (.cells #[.slice LB a' ld, .slice RB b' rd, .slice NB c' nd, .int .i64 u'] 31)) w.heap.size LA RA NA lc rc nc r a b c u) ∧
    Hid (Held ((w.alloc (.cells #[.slice LA a lc, .slice RA b rc, .slice NA c nc, .int .i64 u] 31)).alloc (.cells #[.slice LB a' ld, .slice RB b' rd, .slice NB c' nd, .int .i64 u'] 31)) (w.heap.size + 1) LB RB NB ld rd nd r' a' b' c' u') := by
  have b1 := one_below w (.cells #[.slice LA a lc, .slice RA b rc, .slice NA c nc, .int .i64 u] 31)
  have s1 : (w.alloc (.cells #[.slice LA a lc, .slice RA b rc, .slice NA c nc, .int .i64 u] 31)).heap.size = w.heap.size + 1 := by simp
  have q := held_new (w := w.alloc (.cells #[.slice LA a lc, .slice RA b rc, .slice NA c nc, .int .i64 u] 31)) (lc := ld) (rc := rd) (nc := nd) (a := a') (b := b') (c := c') (u := u') (g.below b1)
  rw [s1] at q
  exact ⟨Lib.hid ((held_new h).below (one_below _ _)), Lib.hid q⟩
theorem app_tN (l : By) : (⟨#[92, 100, 101, 102, 123, 110, 101, 118, 101, 114, 125, 123, 50, 125, 123, 35, 49, 32, 120, 32, 35, 50, 125]⟩ : ByteArray) ++ ⟨l.toArray⟩ = ⟨(tN ++ l).toArray⟩ := app_str tN l
set_option maxRecDepth 100000 in
set_option maxHeartbeats 1000000 in
theorem expandPlain_walk (s : ByteArray) (w : World) (hs : s.size ≤ 9223372036854775807) :
    Calls Tryz.prog 6 #[.string s] w fun en w' => en = .returned (.bool true) ∧ Below w.heap.size w w' := by
  go_enter Tryz.func6, Tryz.ntmps6
  go_wp2_with fail
  go_loopw [3, 4] (fun v i wr => ∃ (k : Nat) (l : By), i = .int .i64 k ∧ v = .string ⟨l.toArray⟩ ∧ k ≤ s.size ∧ k ≤ 200 ∧ l.length ≤ k ∧ Hid (∀ c ∈ l, c ≠ 92) ∧ wr = w) (fun _ i _ => 200 - (intOf i).toNat)
  case atStart => exact ⟨0, [], rfl, rfl, Nat.zero_le _, Nat.zero_le _, Nat.zero_le _, Lib.hid (fun c hc => by cases hc), rfl⟩
  case round =>
    obtain ⟨k, l, rfl, rfl, hk, hk2, hll, HL, rfl⟩ := hrel
    by_cases hlt : k < s.size ∧ k < 200
    · obtain ⟨hlt, hl2⟩ := hlt
      have i1 : (k : Int) < (s.size : Int) := by omega
      have i2 : (k : Int) < 200 := by omega
      obtain ⟨x, hx⟩ : ∃ x : Int, (s[k].toNat : Int) = x := ⟨_, rfl⟩
      have HX := Lib.hid hx
      by_cases h92 : x = 92
      · have d7 : (x != 92) = false := by simpa using h92
        clear h92
        go_wp2_with fail
        go_roundw
        case rel => exact ⟨k + 1, l, by go_num, rfl, by omega, by omega, by omega, HL, trivial⟩
        case measure => simp [intOf]; omega
      · have d7 : (x != 92) = true := by simpa using h92
        go_wp2_with fail
        go_roundw
        case rel => exact ⟨k + 1, l ++ [s[k]], by go_num, congrArg Value.string (app_byte s l k hlt), by omega, by omega, by simp; omega, Lib.hid (fun c hc => by
          rcases List.mem_append.1 hc with h | h
          · exact HL.out c h
          · simp at h
            subst h
            intro e
            exact h92 (by rw [← HX.out, e]; rfl)), trivial⟩
        case measure => simp [intOf]; omega
    · have hend : s.size ≤ k ∨ k < s.size := by omega
      have hpa := Lib.hid (fun q => plain_a l HL.out q)
      have hpb := Lib.hid (fun q => plain_b l HL.out q)
      have hpf := Lib.hid (fun q => plain_full l HL.out q)
      have CL := Lib.hid (fun W => lex_any ⟨l.toArray⟩ W (by show l.toArray.size ≤ _; simp; omega))
      have CL := Lib.hid (fun W => (show Calls Tryz.prog 18 #[.string ⟨l.toArray⟩] W (Res 89 W (toks l)) from CL.out W))
      rcases hend with h | h
      · have i1 : (s.size : Int) ≤ (k : Int) := by omega
        by_cases hsm : (toks l).length ≤ 100
        · have CA := Lib.hid (plain_A wr (toks l) (by omega) (hpa.out hsm))
          have CB := Lib.hid (fun W => plain_A (l := tN ++ l) W (toks l) (by simp [tN]; omega) (hpb.out hsm))
          obtain ⟨T, hT⟩ : ∃ T, toks l = T := ⟨_, rfl⟩
          rw [hT] at CA CB CL hsm
          clear hpa hpb hpf hT
          go_wp2_with fail
          refine CA.out.mono ?_
          rintro en w1 ⟨LA, RA, NA, lc, rc, nc, rfl, h1, b1⟩
          have H1 := Lib.hid h1
          have HBW := Lib.hid b1
          clear h1 b1
          go_wp2_with fail
          rw [app_tN]
          refine (CB.out w1).mono ?_
          rintro en w2 ⟨LB, RB, NB, ld, rd, nd, rfl, h2, b2⟩
          obtain ⟨HA, HB⟩ := held_two (lc := lc) (rc := rc) (nc := nc) (ld := ld) (rd := rd) (nd := nd) (a := T.length) (b := 1) (c := 0) (u := 0) (a' := T.length) (b' := 1) (c' := 0) (u' := 0) (H1.out.below b2) h2
          have HBW := Lib.hid (bch (bch HBW.out b2) (bch (one_below w2 (.cells #[.slice LA T.length lc, .slice RA 1 rc, .slice NA 0 nc, .int .i64 0] 31)) (one_below _ (.cells #[.slice LB T.length ld, .slice RB 1 rd, .slice NB 0 nd, .int .i64 0] 31))))
          clear h2 b2 H1
          go_wp2_with fail
          generalize (w2.alloc (.cells #[.slice LA T.length lc, .slice RA 1 rc, .slice NA 0 nc, .int .i64 0] 31)).alloc (.cells #[.slice LB T.length ld, .slice RB 1 rd, .slice NB 0 nd, .int .i64 0] 31) = W at HA HB HBW ⊢
          refine (CL.out W).mono ?_
          rintro en w3 ⟨C, e, rfl, hC, b3⟩
          have HC := Lib.hid hC.rd
          have HA := Lib.hid (HA.out.below b3)
          have HB := Lib.hid (HB.out.below b3)
          have HBW := Lib.hid (bch HBW.out b3)
          clear hC b3
          have a0 := HA.out.c0
          have i9 : (T.length : Int) ≤ 100 := by omega
          go_wp2_with fail
          refine (refs_any LA lc T w3 HA.out.rd.l (by omega)).mono ?_
          rintro en w4 ⟨P1, p1, rfl, r1, b4⟩
          have HP := Lib.hid r1.rd
          have HA := Lib.hid (HA.out.below b4)
          have HB := Lib.hid (HB.out.below b4)
          have HC := Lib.hid (HC.out.below b4)
          have HBW := Lib.hid (bch HBW.out b4)
          clear r1 b4 a0
          go_wp2_with fail
          refine (refs_any C e T w4 HC.out (by omega)).mono ?_
          rintro en w5 ⟨P2, p2, rfl, r2, b5⟩
          have HQ := Lib.hid r2.rd
          have HA := Lib.hid (HA.out.below b5)
          have HB := Lib.hid (HB.out.below b5)
          have HC := Lib.hid (HC.out.below b5)
          have HP := Lib.hid (HP.out.below b5)
          have HBW := Lib.hid (bch HBW.out b5)
          clear r2 b5
          go_wp2_with fail
          refine (same_any P1 P2 p1 p2 T T w5 HP.out HQ.out (by omega) (by omega)).mono ?_
          simp only [decide_true]
          rintro en w6 ⟨rfl, q, hq⟩
          have b6 : Below w5.heap.size w5 w6 := by rw [hq]; exact drewN_below _ q
          have HA := Lib.hid (HA.out.below b6)
          have HB := Lib.hid (HB.out.below b6)
          have HC := Lib.hid (HC.out.below b6)
          have HBW := Lib.hid (bch HBW.out b6)
          clear hq b6 HP HQ
          have a0 := HB.out.c0
          go_wp2_with fail
          refine (refs_any LB ld T w6 HB.out.rd.l (by omega)).mono ?_
          rintro en w7 ⟨P3, p3, rfl, r3, b7⟩
          have HP := Lib.hid r3.rd
          have HA := Lib.hid (HA.out.below b7)
          have HB := Lib.hid (HB.out.below b7)
          have HC := Lib.hid (HC.out.below b7)
          have HBW := Lib.hid (bch HBW.out b7)
          clear r3 b7 a0
          go_wp2_with fail
          refine (refs_any C e T w7 HC.out (by omega)).mono ?_
          rintro en w8 ⟨P4, p4, rfl, r4, b8⟩
          have HQ := Lib.hid r4.rd
          have HA := Lib.hid (HA.out.below b8)
          have HB := Lib.hid (HB.out.below b8)
          have HP := Lib.hid (HP.out.below b8)
          have HBW := Lib.hid (bch HBW.out b8)
          clear r4 b8
          go_wp2_with fail
          refine (same_any P3 P4 p3 p4 T T w8 HP.out HQ.out (by omega) (by omega)).mono ?_
          simp only [decide_true]
          rintro en w9 ⟨rfl, q, hq⟩
          have b9 : Below w8.heap.size w8 w9 := by rw [hq]; exact drewN_below _ q
          have HA := Lib.hid (HA.out.below b9)
          have HB := Lib.hid (HB.out.below b9)
          have HBW := Lib.hid (bch HBW.out b9)
          clear hq b9 HP HQ
          have a2 := HA.out.c2
          have a3 := HA.out.c3
          have c2 := HB.out.c2
          have c3 := HB.out.c3
          go_wp2_with fail
          refine (fixed_any w9).mono ?_
          rintro en v ⟨rfl, bv⟩
          have HBW := Lib.hid (bch HBW.out bv)
          clear bv
          go_wp2
          go_ret
          exact ⟨rfl, HBW.out⟩
        · have hbig : 100 < (toks l).length := by omega
          have CA := Lib.hid (plain_F (l := l) wr (by omega) (hpf.out hbig).1 (hpf.out hbig).2)
          have CB := Lib.hid (fun W => plain_G (l := tN ++ l) W (by simp [tN]; omega))
          obtain ⟨T, hT⟩ : ∃ T, toks l = T := ⟨_, rfl⟩
          rw [hT] at CL hbig
          clear hpa hpb hpf hT hsm
          go_wp2_with fail
          refine CA.out.mono ?_
          rintro en w1 ⟨r1, bb, uu, LA, RA, NA, lc, rc, nc, rfl, h1, b1⟩
          have H1 := Lib.hid h1
          have HBW := Lib.hid b1
          clear h1 b1
          go_wp2_with fail
          rw [app_tN]
          refine (CB.out w1).mono ?_
          rintro en w2 ⟨r2, x1, x2, x3, x4, LB, RB, NB, ld, rd, nd, rfl, h2, b2⟩
          obtain ⟨HA, HB⟩ := held_two (lc := lc) (rc := rc) (nc := nc) (ld := ld) (rd := rd) (nd := nd) (a := 100) (b := bb) (c := 1) (u := uu) (a' := x1) (b' := x2) (c' := x3) (u' := x4) (H1.out.below b2) h2
          have HBW := Lib.hid (bch (bch HBW.out b2) (bch (one_below w2 (.cells #[.slice LA 100 lc, .slice RA bb rc, .slice NA 1 nc, .int .i64 uu] 31)) (one_below _ (.cells #[.slice LB x1 ld, .slice RB x2 rd, .slice NB x3 nd, .int .i64 x4] 31))))
          clear h2 b2 H1
          go_wp2_with fail
          generalize (w2.alloc (.cells #[.slice LA 100 lc, .slice RA bb rc, .slice NA 1 nc, .int .i64 uu] 31)).alloc (.cells #[.slice LB x1 ld, .slice RB x2 rd, .slice NB x3 nd, .int .i64 x4] 31) = W at HA HB HBW ⊢
          refine (CL.out W).mono ?_
          rintro en w3 ⟨C, e, rfl, hC, b3⟩
          have HA := Lib.hid (HA.out.below b3)
          have HBW := Lib.hid (bch HBW.out b3)
          clear hC b3
          have a0 := HA.out.c0
          have a2 := HA.out.c2
          have i9 : (100 : Int) < (T.length : Int) := by omega
          go_wp2_with fail
          refine (fixed_any w3).mono ?_
          rintro en v ⟨rfl, bv⟩
          have HBW := Lib.hid (bch HBW.out bv)
          clear bv
          go_wp2
          go_ret
          exact ⟨rfl, HBW.out⟩
      · have i0 : (k : Int) < (s.size : Int) := by omega
        have i1 : (200 : Int) ≤ (k : Int) := by omega
        by_cases hsm : (toks l).length ≤ 100
        · have CA := Lib.hid (plain_A wr (toks l) (by omega) (hpa.out hsm))
          have CB := Lib.hid (fun W => plain_A (l := tN ++ l) W (toks l) (by simp [tN]; omega) (hpb.out hsm))
          obtain ⟨T, hT⟩ : ∃ T, toks l = T := ⟨_, rfl⟩
          rw [hT] at CA CB CL hsm
          clear hpa hpb hpf hT
          go_wp2_with fail
          refine CA.out.mono ?_
          rintro en w1 ⟨LA, RA, NA, lc, rc, nc, rfl, h1, b1⟩
          have H1 := Lib.hid h1
          have HBW := Lib.hid b1
          clear h1 b1
          go_wp2_with fail
          rw [app_tN]
          refine (CB.out w1).mono ?_
          rintro en w2 ⟨LB, RB, NB, ld, rd, nd, rfl, h2, b2⟩
          obtain ⟨HA, HB⟩ := held_two (lc := lc) (rc := rc) (nc := nc) (ld := ld) (rd := rd) (nd := nd) (a := T.length) (b := 1) (c := 0) (u := 0) (a' := T.length) (b' := 1) (c' := 0) (u' := 0) (H1.out.below b2) h2
          have HBW := Lib.hid (bch (bch HBW.out b2) (bch (one_below w2 (.cells #[.slice LA T.length lc, .slice RA 1 rc, .slice NA 0 nc, .int .i64 0] 31)) (one_below _ (.cells #[.slice LB T.length ld, .slice RB 1 rd, .slice NB 0 nd, .int .i64 0] 31))))
          clear h2 b2 H1
          go_wp2_with fail
          generalize (w2.alloc (.cells #[.slice LA T.length lc, .slice RA 1 rc, .slice NA 0 nc, .int .i64 0] 31)).alloc (.cells #[.slice LB T.length ld, .slice RB 1 rd, .slice NB 0 nd, .int .i64 0] 31) = W at HA HB HBW ⊢
          refine (CL.out W).mono ?_
          rintro en w3 ⟨C, e, rfl, hC, b3⟩
          have HC := Lib.hid hC.rd
          have HA := Lib.hid (HA.out.below b3)
          have HB := Lib.hid (HB.out.below b3)
          have HBW := Lib.hid (bch HBW.out b3)
          clear hC b3
          have a0 := HA.out.c0
          have i9 : (T.length : Int) ≤ 100 := by omega
          go_wp2_with fail
          refine (refs_any LA lc T w3 HA.out.rd.l (by omega)).mono ?_
          rintro en w4 ⟨P1, p1, rfl, r1, b4⟩
          have HP := Lib.hid r1.rd
          have HA := Lib.hid (HA.out.below b4)
          have HB := Lib.hid (HB.out.below b4)
          have HC := Lib.hid (HC.out.below b4)
          have HBW := Lib.hid (bch HBW.out b4)
          clear r1 b4 a0
          go_wp2_with fail
          refine (refs_any C e T w4 HC.out (by omega)).mono ?_
          rintro en w5 ⟨P2, p2, rfl, r2, b5⟩
          have HQ := Lib.hid r2.rd
          have HA := Lib.hid (HA.out.below b5)
          have HB := Lib.hid (HB.out.below b5)
          have HC := Lib.hid (HC.out.below b5)
          have HP := Lib.hid (HP.out.below b5)
          have HBW := Lib.hid (bch HBW.out b5)
          clear r2 b5
          go_wp2_with fail
          refine (same_any P1 P2 p1 p2 T T w5 HP.out HQ.out (by omega) (by omega)).mono ?_
          simp only [decide_true]
          rintro en w6 ⟨rfl, q, hq⟩
          have b6 : Below w5.heap.size w5 w6 := by rw [hq]; exact drewN_below _ q
          have HA := Lib.hid (HA.out.below b6)
          have HB := Lib.hid (HB.out.below b6)
          have HC := Lib.hid (HC.out.below b6)
          have HBW := Lib.hid (bch HBW.out b6)
          clear hq b6 HP HQ
          have a0 := HB.out.c0
          go_wp2_with fail
          refine (refs_any LB ld T w6 HB.out.rd.l (by omega)).mono ?_
          rintro en w7 ⟨P3, p3, rfl, r3, b7⟩
          have HP := Lib.hid r3.rd
          have HA := Lib.hid (HA.out.below b7)
          have HB := Lib.hid (HB.out.below b7)
          have HC := Lib.hid (HC.out.below b7)
          have HBW := Lib.hid (bch HBW.out b7)
          clear r3 b7 a0
          go_wp2_with fail
          refine (refs_any C e T w7 HC.out (by omega)).mono ?_
          rintro en w8 ⟨P4, p4, rfl, r4, b8⟩
          have HQ := Lib.hid r4.rd
          have HA := Lib.hid (HA.out.below b8)
          have HB := Lib.hid (HB.out.below b8)
          have HP := Lib.hid (HP.out.below b8)
          have HBW := Lib.hid (bch HBW.out b8)
          clear r4 b8
          go_wp2_with fail
          refine (same_any P3 P4 p3 p4 T T w8 HP.out HQ.out (by omega) (by omega)).mono ?_
          simp only [decide_true]
          rintro en w9 ⟨rfl, q, hq⟩
          have b9 : Below w8.heap.size w8 w9 := by rw [hq]; exact drewN_below _ q
          have HA := Lib.hid (HA.out.below b9)
          have HB := Lib.hid (HB.out.below b9)
          have HBW := Lib.hid (bch HBW.out b9)
          clear hq b9 HP HQ
          have a2 := HA.out.c2
          have a3 := HA.out.c3
          have c2 := HB.out.c2
          have c3 := HB.out.c3
          go_wp2_with fail
          refine (fixed_any w9).mono ?_
          rintro en v ⟨rfl, bv⟩
          have HBW := Lib.hid (bch HBW.out bv)
          clear bv
          go_wp2
          go_ret
          exact ⟨rfl, HBW.out⟩
        · have hbig : 100 < (toks l).length := by omega
          have CA := Lib.hid (plain_F (l := l) wr (by omega) (hpf.out hbig).1 (hpf.out hbig).2)
          have CB := Lib.hid (fun W => plain_G (l := tN ++ l) W (by simp [tN]; omega))
          obtain ⟨T, hT⟩ : ∃ T, toks l = T := ⟨_, rfl⟩
          rw [hT] at CL hbig
          clear hpa hpb hpf hT hsm
          go_wp2_with fail
          refine CA.out.mono ?_
          rintro en w1 ⟨r1, bb, uu, LA, RA, NA, lc, rc, nc, rfl, h1, b1⟩
          have H1 := Lib.hid h1
          have HBW := Lib.hid b1
          clear h1 b1
          go_wp2_with fail
          rw [app_tN]
          refine (CB.out w1).mono ?_
          rintro en w2 ⟨r2, x1, x2, x3, x4, LB, RB, NB, ld, rd, nd, rfl, h2, b2⟩
          obtain ⟨HA, HB⟩ := held_two (lc := lc) (rc := rc) (nc := nc) (ld := ld) (rd := rd) (nd := nd) (a := 100) (b := bb) (c := 1) (u := uu) (a' := x1) (b' := x2) (c' := x3) (u' := x4) (H1.out.below b2) h2
          have HBW := Lib.hid (bch (bch HBW.out b2) (bch (one_below w2 (.cells #[.slice LA 100 lc, .slice RA bb rc, .slice NA 1 nc, .int .i64 uu] 31)) (one_below _ (.cells #[.slice LB x1 ld, .slice RB x2 rd, .slice NB x3 nd, .int .i64 x4] 31))))
          clear h2 b2 H1
          go_wp2_with fail
          generalize (w2.alloc (.cells #[.slice LA 100 lc, .slice RA bb rc, .slice NA 1 nc, .int .i64 uu] 31)).alloc (.cells #[.slice LB x1 ld, .slice RB x2 rd, .slice NB x3 nd, .int .i64 x4] 31) = W at HA HB HBW ⊢
          refine (CL.out W).mono ?_
          rintro en w3 ⟨C, e, rfl, hC, b3⟩
          have HA := Lib.hid (HA.out.below b3)
          have HBW := Lib.hid (bch HBW.out b3)
          clear hC b3
          have a0 := HA.out.c0
          have a2 := HA.out.c2
          have i9 : (100 : Int) < (T.length : Int) := by omega
          go_wp2_with fail
          refine (fixed_any w3).mono ?_
          rintro en v ⟨rfl, bv⟩
          have HBW := Lib.hid (bch HBW.out bv)
          clear bv
          go_wp2
          go_ret
          exact ⟨rfl, HBW.out⟩
end Go.Proofs.YtmnbepapgghdaaaGreat

namespace Go.Proofs.YtmnbepapgghdaaaGreat
open Go.RowKit Go.Deep Go.ChangeShapes Go.WideShapes Go.Joins

theorem bytes_list (s : ByteArray) : Value.string s = .string ⟨s.data.toList.toArray⟩ := by
  obtain ⟨⟨l⟩⟩ := s; rfl
theorem addr_lit {w : World} {a : Addr} {v : Value} (h : w.cell? a = some v) : ∃ b o, a = ⟨b, o, none⟩ := by
  have := World.cell?_spot h
  obtain ⟨b, o, s⟩ := a
  simp at this
  subst this
  exact ⟨b, o, rfl⟩
theorem add_plain (b o j : Nat) : (⟨b, o, none⟩ : Addr).add j = ⟨b, o + j, none⟩ := by unfold Addr.add; split <;> simp_all
theorem add_add (a : Addr) (i j : Nat) : (a.add i).add j = a.add (i + j) := by
  unfold Addr.add
  by_cases hi : i = 0 <;> by_cases hj : j = 0 <;> simp [hi, hj, Nat.add_assoc]
theorem view_gen {H α : Type} [Inhabited α] {enc : TypeId × Value → H} {W : World} {d : DataW H} {p : List MemPlace} {A : Option Addr} {len cap : Nat} {T e k : Nat} (g : α → List Value) (Q : α → Prop) (hT : Tryz.prog.underlying T = some (.slice e)) (hk : Tryz.prog.cellsOf e = k) (hk0 : 0 < k)
    (hg : ∀ x, (g x).length = k) (hr : ∀ n cs y, DataW.trod enc Tryz.prog W 0 (fun _ => true) true n e cs = some y → cs.length = k → ∃ x, cs = g x ∧ Q x)
    (h : DataW.Trod enc Tryz.prog W 0 (fun _ => true) true T (.slice A len cap) d p) :
    ∃ xs : List α, len = xs.length ∧ (0 < xs.length → ∃ b o, A = some ⟨b, o, none⟩ ∧ ∀ i x, xs[i]? = some x → ∀ j v, (g x)[j]? = some v → W.cell? ⟨b, o + i * k + j, none⟩ = some v) ∧ (∀ x ∈ xs, Q x) ∧ xs.length ≤ 9223372036854775807 := by
  obtain ⟨fuel, hf⟩ := h
  rcases open_slice hT hf with ⟨hcs, _⟩ | ⟨a, l, c, m, n, D, Pl, hcs, _, hl, hm, hmm, _, hall⟩
  · simp [Value.cells] at hcs
    obtain ⟨rfl, rfl, rfl⟩ := hcs
    exact ⟨[], rfl, fun h => absurd h (by simp), (fun f hf => by cases hf), by simp⟩
  · simp [Value.cells] at hcs
    obtain ⟨rfl, rfl, rfl⟩ := hcs
    simp only [if_true] at hmm
    unfold maxLen at hm
    rw [hk] at hall
    have each : ∀ i, i < len → ∃ x : α, (∀ j v, (g x)[j]? = some v → W.cell? (a.add (i * k + j)) = some v) ∧ Q x := fun i hi => by
      obtain ⟨cs', h1, h2⟩ := hall i (by omega)
      obtain ⟨_, h3, h4⟩ := World.cells?_some h1
      obtain ⟨x, rfl, hq⟩ := hr _ _ _ h2 h3
      refine ⟨x, fun j v hj => ?_, hq⟩
      have hjl : j < k := by rw [← hg x]; exact (List.getElem?_eq_some_iff.1 hj).1
      have := h4 j hjl
      rw [hj] at this
      rw [← this, add_add]
    obtain ⟨F, hF⟩ := choose_lt each
    refine ⟨(List.range len).map F, by simp, fun h0 => ?_, fun x hx => ?_, by simp; omega⟩
    · have h0' : 0 < len := by simpa using h0
      obtain ⟨v0, hv0⟩ : ∃ v, (g (F 0))[0]? = some v := ⟨_, List.getElem?_eq_getElem (by rw [hg]; exact hk0)⟩
      obtain ⟨b, o, rfl⟩ := addr_lit (by have := (hF 0 h0').1 0 v0 hv0; simpa [Addr.add] using this)
      refine ⟨b, o, rfl, fun i x hi j v hj => ?_⟩
      have hlt : i < len := by
        rcases Nat.lt_or_ge i len with q | q
        · exact q
        · rw [List.getElem?_eq_none (by simpa using q)] at hi; cases hi
      have e : F i = x := by
        rw [List.getElem?_map, List.getElem?_range hlt] at hi
        simpa using hi
      have := (hF i hlt).1
      rw [e] at this
      have := this j v hj
      rwa [add_plain, ← Nat.add_assoc] at this
    · obtain ⟨i, hi, rfl⟩ := List.mem_map.1 hx
      exact (hF i (by simpa using hi)).2
/-- A slice that reads as bytes. -/
def RdY (w : World) (A : Option Addr) (xs : List UInt8) : Prop :=
  0 < xs.length → ∃ b o, A = some ⟨b, o, none⟩ ∧ ∀ i x, xs[i]? = some x → w.cell? ⟨b, o + i, none⟩ = some (.int .u8 x.toNat)
theorem RdY.below {w w' : World} {A : Option Addr} {xs : List UInt8} (h : RdY w A xs) (hb : Below w.heap.size w w') : RdY w' A xs := fun h0 => by
  obtain ⟨b, o, e, hc⟩ := h h0
  exact ⟨b, o, e, fun i f hi => cell_below hb (hc i f hi)⟩
theorem Tryz.cells89 : Tryz.prog.cellsOf 89 = 2 := by kernel_rfl
theorem Tryz.cells9 : Tryz.prog.cellsOf 9 = 1 := by kernel_rfl
theorem Tryz.cells3 : Tryz.prog.cellsOf 3 = 1 := by kernel_rfl
theorem view_toks {H : Type} {enc : TypeId × Value → H} {W : World} {d : DataW H} {p : List MemPlace} {A : Option Addr} {len cap : Nat}
    (h : DataW.Trod enc Tryz.prog W 0 (fun _ => true) true 27 (.slice A len cap) d p) :
    ∃ fs : List Tok, len = fs.length ∧ Rd W A fs ∧ (∀ f ∈ fs, f.2.length ≤ 9223372036854775807) ∧ fs.length ≤ 9223372036854775807 := by
  obtain ⟨fuel, hf⟩ := h
  rcases open_slice_pairs Tryz.underlying27 Tryz.underlying89 Tryz.cells89 rfl rfl Tryz.cells3 Tryz.cells9 hf with ⟨hcs, _⟩ | ⟨a, l, c, m, n, V0, V1, D0, D1, P0, P1, hcs, _, hl, hm, hmm, _, hall⟩
  · simp [Value.cells] at hcs
    obtain ⟨rfl, rfl, rfl⟩ := hcs
    exact ⟨[], rfl, fun h => absurd h (by simp), (fun f hf => by cases hf), by simp⟩
  · simp [Value.cells] at hcs
    obtain ⟨rfl, rfl, rfl⟩ := hcs
    simp only [if_true] at hmm
    unfold maxLen at hm
    have each : ∀ i, i < len → ∃ f : Tok, W.cell? (a.add (i * 2)) = some (.int .i64 f.1) ∧ W.cell? (a.add (i * 2 + 1)) = some (.string ⟨f.2.toArray⟩) ∧ f.2.length ≤ 9223372036854775807 := fun i hi => by
      obtain ⟨c0, c1, t0, t1⟩ := hall i (by omega)
      obtain ⟨s0, e0, _, _⟩ := DataW.trod_int Tryz.underlying3 t0
      obtain ⟨s1, e1, _, z1⟩ := DataW.trod_string Tryz.underlying9 t1
      simp only [List.cons.injEq, and_true] at e0 e1
      unfold maxLen at z1
      refine ⟨(s0, s1.data.toList), by rw [c0, e0], by rw [c1, e1, bytes_list], ?_⟩
      · show s1.data.toList.length ≤ _
        have := size_list s1
        omega
    obtain ⟨F, hF⟩ := choose_lt (α := Tok) each
    refine ⟨(List.range len).map F, by simp, fun h0 => ?_, fun f hf => ?_, by simp; omega⟩
    · have h0' : 0 < len := by simpa using h0
      obtain ⟨b, o, rfl⟩ := addr_lit (by have := (hF 0 h0').1; simpa [Addr.add] using this)
      refine ⟨b, o, rfl, fun i f hi => ?_⟩
      have hlt : i < len := by
        rcases Nat.lt_or_ge i len with q | q
        · exact q
        · rw [List.getElem?_eq_none (by simpa using q)] at hi; cases hi
      have e : F i = f := by
        rw [List.getElem?_map, List.getElem?_range hlt] at hi
        simpa using hi
      have := hF i hlt
      rw [e, add_plain, add_plain] at this
      exact ⟨this.1, by rw [Nat.add_assoc]; exact this.2.1⟩
    · obtain ⟨i, hi, rfl⟩ := List.mem_map.1 hf
      exact (hF i (by simpa using hi)).2.2

theorem byte_int (k : Nat) (h : k < 256) : ((UInt8.ofNat k).toNat : Int) = (k : Int) := by
  rw [UInt8.toNat_ofNat', Nat.mod_eq_of_lt h]
theorem byte_of {n : Int} (h : (Lit.int .u8 n).wf = true) : ∃ c : UInt8, n = (c.toNat : Int) := by
  have e1 : IntKind.u8.min = 0 := by rfl
  have e2 : IntKind.u8.max = 255 := by rfl
  simp [Lit.wf, e1, e2] at h
  exact ⟨UInt8.ofNat n.toNat, by rw [byte_int _ (by omega)]; omega⟩
theorem view_bytes {H : Type} {enc : TypeId × Value → H} {W : World} {d : DataW H} {p : List MemPlace} {A : Option Addr} {len cap : Nat} (h : DataW.Trod enc Tryz.prog W 0 (fun _ => true) true 57 (.slice A len cap) d p) :
    ∃ xs : List UInt8, len = xs.length ∧ RdY W A xs ∧ xs.length ≤ 9223372036854775807 := by
  obtain ⟨xs, h1, h2, _, h4⟩ := view_gen (k := 1) (fun x : UInt8 => [.int .u8 x.toNat]) (fun _ => True) Tryz.underlying57 (by kernel_rfl) (by omega) (fun _ => rfl) (fun n cs y hy _ => by
    obtain ⟨s, rfl, _, hw⟩ := DataW.trod_int Tryz.underlying5 hy
    obtain ⟨c, rfl⟩ := byte_of hw
    exact ⟨c, rfl, trivial⟩) h
  refine ⟨xs, h1, fun h0 => ?_, h4⟩
  obtain ⟨b, o, e, hc⟩ := h2 h0
  exact ⟨b, o, e, fun i x hx => by simpa using hc i x hx 0 _ rfl⟩
end Go.Proofs.YtmnbepapgghdaaaGreat

/-
  ExpandPlain: its walk.
  The walk of LexBlanks: for every input it returns true; old memory stays.
  Contracts of the document's own answers: word, gap.
-/
import Derived.Test.YtmnbepapgghdaaaGreatK34
import Derived.Test.YtmnbepapgghdaaaGreatK35
import Derived.Test.YtmnbepapgghdaaaGreatK04
namespace Go.Proofs.YtmnbepapgghdaaaGreat
open Go.RowKit

theorem app_str (a b : By) : (⟨a.toArray⟩ : ByteArray) ++ ⟨b.toArray⟩ = ⟨(a ++ b).toArray⟩ := by
  apply ByteArray.ext
  simp [ByteArray.data_append]
theorem app_byte (s : ByteArray) (l : By) (k : Nat) (h : k < s.size) : (⟨l.toArray⟩ : ByteArray) ++ s.extract k (k + 1) = ⟨(l ++ [s[k]]).toArray⟩ := by
  apply ByteArray.ext
  have e : s.extract k (k + 1) = ⟨([s[k]] : By).toArray⟩ := by
    apply ByteArray.ext
    apply Array.ext
    · simp [ByteArray.data_extract]; have : k < s.data.size := h; omega
    · intro i h1 h2
      have : i = 0 := by simp at h2; omega
      subst this
      simp [ByteArray.data_extract]
      rfl
  rw [e, app_str]
theorem plain_A {l : By} (w : World) (T : List Tok) (hl : l.length ≤ 1000) (h : outX (expE Fl.nmOk (flF [([109], l)]) 3 100 [109]) = (T, [[109]], [], 0)) :
    Calls Tryz.prog 17 #[.string ⟨l.toArray⟩, .int .i64 3] w (Ans w (T, [[109]], [], 0) T.length 1 0 0) := by
  have q := of_any l 3 w (by omega) hl
  rw [h] at q
  exact q.mono fun en w' ⟨LA, RA, NA, lc, rc, nc, q1, q2, q3⟩ => ⟨LA, RA, NA, lc, rc, nc, q1, q2.rdo, q3⟩
theorem plain_F {l : By} (w : World) (hl : l.length ≤ 1000) (h1 : (expE Fl.nmOk (flF [([109], l)]) 3 100 [109]).out.length = 100) (h2 : (expE Fl.nmOk (flF [([109], l)]) 3 100 [109]).notes.length = 1) :
    Calls Tryz.prog 17 #[.string ⟨l.toArray⟩, .int .i64 3] w fun en w' => ∃ r b u, Ans w r 100 b 1 u en w' := by
  have q := of_any l 3 w (by omega) hl
  refine q.mono fun en w' ⟨LA, RA, NA, lc, rc, nc, q1, q2, q3⟩ => ⟨(outX (expE Fl.nmOk (flF [([109], l)]) 3 100 [109])), (outX (expE Fl.nmOk (flF [([109], l)]) 3 100 [109])).2.1.length, ((outX (expE Fl.nmOk (flF [([109], l)]) 3 100 [109])).2.2.2 : Int), LA, RA, NA, lc, rc, nc, ?_, q2.rdo, q3⟩
  rw [q1]
  have e1 : (outX (expE Fl.nmOk (flF [([109], l)]) 3 100 [109])).1.length = 100 := h1
  have e2 : (outX (expE Fl.nmOk (flF [([109], l)]) 3 100 [109])).2.2.1.length = 1 := h2
  unfold outC
  rw [e1, e2]
theorem plain_G {l : By} (w : World) (hl : l.length ≤ 1000) :
    Calls Tryz.prog 17 #[.string ⟨l.toArray⟩, .int .i64 3] w fun en w' => ∃ r a b c u, Ans w r a b c u en w' := by
  have q := of_any l 3 w (by omega) hl
  exact q.mono fun en w' ⟨LA, RA, NA, lc, rc, nc, q1, q2, q3⟩ => ⟨(outX (expE Fl.nmOk (flF [([109], l)]) 3 100 [109])), (outX (expE Fl.nmOk (flF [([109], l)]) 3 100 [109])).1.length, (outX (expE Fl.nmOk (flF [([109], l)]) 3 100 [109])).2.1.length, (outX (expE Fl.nmOk (flF [([109], l)]) 3 100 [109])).2.2.1.length, ((outX (expE Fl.nmOk (flF [([109], l)]) 3 100 [109])).2.2.2 : Int), LA, RA, NA, lc, rc, nc, q1, q2.rdo, q3⟩
/-- Two answers laid beside each other. -/
theorem held_two {w : World} {LA RA NA LB RB NB : Option Addr} {lc rc nc ld rd nd : Nat} {r r' : Res8} {a b c a' b' c' : Nat} {u u' : Int} (h : RdO w LA RA NA r) (g : RdO w LB RB NB r') :
    Hid (Held ((w.alloc (.cells #[.slice LA a lc, .slice RA b rc, .slice NA c nc, .int .i64 u] 31)).alloc (.cells #[.slice LB a' ld, .slice RB b' rd, .slice NB c' nd, .int .i64 u'] 31)) w.heap.size LA RA NA lc rc nc r a b c u) ∧
    Hid (Held ((w.alloc (.cells #[.slice LA a lc, .slice RA b rc, .slice NA c nc, .int .i64 u] 31)).alloc (.cells #[.slice LB a' ld, .slice RB b' rd, .slice NB c' nd, .int .i64 u'] 31)) (w.heap.size + 1) LB RB NB ld rd nd r' a' b' c' u') := by
  have b1 := one_below w (.cells #[.slice LA a lc, .slice RA b rc, .slice NA c nc, .int .i64 u] 31)
  have s1 : (w.alloc (.cells #[.slice LA a lc, .slice RA b rc, .slice NA c nc, .int .i64 u] 31)).heap.size = w.heap.size + 1 := by simp
  have q := held_new (w := w.alloc (.cells #[.slice LA a lc, .slice RA b rc, .slice NA c nc, .int .i64 u] 31)) (lc := ld) (rc := rd) (nc := nd) (a := a') (b := b') (c := c') (u := u') (g.below b1)
  rw [s1] at q
  exact ⟨Lib.hid ((held_new h).below (one_below _ _)), Lib.hid q⟩
theorem app_tN (l : By) : (⟨#[92, 100, 101, 102, 123, 110, 101, 118, 101, 114, 125, 123, 50, 125, 123, 35, 49, 32, 120, 32, 35, 50, 125]⟩ : ByteArray) ++ ⟨l.toArray⟩ = ⟨(tN ++ l).toArray⟩ := app_str tN l
set_option maxRecDepth 100000 in
set_option maxHeartbeats 1000000 in
theorem expandPlain_walk (s : ByteArray) (w : World) (hs : s.size ≤ 9223372036854775807) :
    Calls Tryz.prog 6 #[.string s] w fun en w' => en = .returned (.bool true) ∧ Below w.heap.size w w' := by
  go_enter Tryz.func6, Tryz.ntmps6
  go_wp2_with fail
  go_loopw [3, 4] (fun v i wr => ∃ (k : Nat) (l : By), i = .int .i64 k ∧ v = .string ⟨l.toArray⟩ ∧ k ≤ s.size ∧ k ≤ 200 ∧ l.length ≤ k ∧ Hid (∀ c ∈ l, c ≠ 92) ∧ wr = w) (fun _ i _ => 200 - (intOf i).toNat)
  case atStart => exact ⟨0, [], rfl, rfl, Nat.zero_le _, Nat.zero_le _, Nat.zero_le _, Lib.hid (fun c hc => by cases hc), rfl⟩
  case round =>
    obtain ⟨k, l, rfl, rfl, hk, hk2, hll, HL, rfl⟩ := hrel
    by_cases hlt : k < s.size ∧ k < 200
    · obtain ⟨hlt, hl2⟩ := hlt
      have i1 : (k : Int) < (s.size : Int) := by omega
      have i2 : (k : Int) < 200 := by omega
      obtain ⟨x, hx⟩ : ∃ x : Int, (s[k].toNat : Int) = x := ⟨_, rfl⟩
      have HX := Lib.hid hx
      by_cases h92 : x = 92
      · have d7 : (x != 92) = false := by simpa using h92
        clear h92
        go_wp2_with fail
        go_roundw
        case rel => exact ⟨k + 1, l, by go_num, rfl, by omega, by omega, by omega, HL, trivial⟩
        case measure => simp [intOf]; omega
      · have d7 : (x != 92) = true := by simpa using h92
        go_wp2_with fail
        go_roundw
        case rel => exact ⟨k + 1, l ++ [s[k]], by go_num, congrArg Value.string (app_byte s l k hlt), by omega, by omega, by simp; omega, Lib.hid (fun c hc => by
          rcases List.mem_append.1 hc with h | h
          · exact HL.out c h
          · simp at h
            subst h
            intro e
            exact h92 (by rw [← HX.out, e]; rfl)), trivial⟩
        case measure => simp [intOf]; omega
    · have hend : s.size ≤ k ∨ k < s.size := by omega
      have hpa := Lib.hid (fun q => plain_a l HL.out q)
      have hpb := Lib.hid (fun q => plain_b l HL.out q)
      have hpf := Lib.hid (fun q => plain_full l HL.out q)
      have CL := Lib.hid (fun W => lex_any ⟨l.toArray⟩ W (by show l.toArray.size ≤ _; simp; omega))
      have CL := Lib.hid (fun W => (show Calls Tryz.prog 18 #[.string ⟨l.toArray⟩] W (Res 89 W (toks l)) from CL.out W))
      rcases hend with h | h
      · have i1 : (s.size : Int) ≤ (k : Int) := by omega
        by_cases hsm : (toks l).length ≤ 100
        · have CA := Lib.hid (plain_A wr (toks l) (by omega) (hpa.out hsm))
          have CB := Lib.hid (fun W => plain_A (l := tN ++ l) W (toks l) (by simp [tN]; omega) (hpb.out hsm))
          obtain ⟨T, hT⟩ : ∃ T, toks l = T := ⟨_, rfl⟩
          rw [hT] at CA CB CL hsm
          clear hpa hpb hpf hT
          go_wp2_with fail
          refine CA.out.mono ?_
          rintro en w1 ⟨LA, RA, NA, lc, rc, nc, rfl, h1, b1⟩
          have H1 := Lib.hid h1
          have HBW := Lib.hid b1
          clear h1 b1
          go_wp2_with fail
          rw [app_tN]
          refine (CB.out w1).mono ?_
          rintro en w2 ⟨LB, RB, NB, ld, rd, nd, rfl, h2, b2⟩
          obtain ⟨HA, HB⟩ := held_two (lc := lc) (rc := rc) (nc := nc) (ld := ld) (rd := rd) (nd := nd) (a := T.length) (b := 1) (c := 0) (u := 0) (a' := T.length) (b' := 1) (c' := 0) (u' := 0) (H1.out.below b2) h2
          have HBW := Lib.hid (bch (bch HBW.out b2) (bch (one_below w2 (.cells #[.slice LA T.length lc, .slice RA 1 rc, .slice NA 0 nc, .int .i64 0] 31)) (one_below _ (.cells #[.slice LB T.length ld, .slice RB 1 rd, .slice NB 0 nd, .int .i64 0] 31))))
          clear h2 b2 H1
          go_wp2_with fail
          generalize (w2.alloc (.cells #[.slice LA T.length lc, .slice RA 1 rc, .slice NA 0 nc, .int .i64 0] 31)).alloc (.cells #[.slice LB T.length ld, .slice RB 1 rd, .slice NB 0 nd, .int .i64 0] 31) = W at HA HB HBW ⊢
          refine (CL.out W).mono ?_
          rintro en w3 ⟨C, e, rfl, hC, b3⟩
          have HC := Lib.hid hC.rd
          have HA := Lib.hid (HA.out.below b3)
          have HB := Lib.hid (HB.out.below b3)
          have HBW := Lib.hid (bch HBW.out b3)
          clear hC b3
          have a0 := HA.out.c0
          have i9 : (T.length : Int) ≤ 100 := by omega
          go_wp2_with fail
          refine (refs_any LA lc T w3 HA.out.rd.l (by omega)).mono ?_
          rintro en w4 ⟨P1, p1, rfl, r1, b4⟩
          have HP := Lib.hid r1.rd
          have HA := Lib.hid (HA.out.below b4)
          have HB := Lib.hid (HB.out.below b4)
          have HC := Lib.hid (HC.out.below b4)
          have HBW := Lib.hid (bch HBW.out b4)
          clear r1 b4 a0
          go_wp2_with fail
          refine (refs_any C e T w4 HC.out (by omega)).mono ?_
          rintro en w5 ⟨P2, p2, rfl, r2, b5⟩
          have HQ := Lib.hid r2.rd
          have HA := Lib.hid (HA.out.below b5)
          have HB := Lib.hid (HB.out.below b5)
          have HC := Lib.hid (HC.out.below b5)
          have HP := Lib.hid (HP.out.below b5)
          have HBW := Lib.hid (bch HBW.out b5)
          clear r2 b5
          go_wp2_with fail
          refine (same_any P1 P2 p1 p2 T T w5 HP.out HQ.out (by omega) (by omega)).mono ?_
          simp only [decide_true]
          rintro en w6 ⟨rfl, q, hq⟩
          have b6 : Below w5.heap.size w5 w6 := by rw [hq]; exact drewN_below _ q
          have HA := Lib.hid (HA.out.below b6)
          have HB := Lib.hid (HB.out.below b6)
          have HC := Lib.hid (HC.out.below b6)
          have HBW := Lib.hid (bch HBW.out b6)
          clear hq b6 HP HQ
          have a0 := HB.out.c0
          go_wp2_with fail
          refine (refs_any LB ld T w6 HB.out.rd.l (by omega)).mono ?_
          rintro en w7 ⟨P3, p3, rfl, r3, b7⟩
          have HP := Lib.hid r3.rd
          have HA := Lib.hid (HA.out.below b7)
          have HB := Lib.hid (HB.out.below b7)
          have HC := Lib.hid (HC.out.below b7)
          have HBW := Lib.hid (bch HBW.out b7)
          clear r3 b7 a0
          go_wp2_with fail
          refine (refs_any C e T w7 HC.out (by omega)).mono ?_
          rintro en w8 ⟨P4, p4, rfl, r4, b8⟩
          have HQ := Lib.hid r4.rd
          have HA := Lib.hid (HA.out.below b8)
          have HB := Lib.hid (HB.out.below b8)
          have HP := Lib.hid (HP.out.below b8)
          have HBW := Lib.hid (bch HBW.out b8)
          clear r4 b8
          go_wp2_with fail
          refine (same_any P3 P4 p3 p4 T T w8 HP.out HQ.out (by omega) (by omega)).mono ?_
          simp only [decide_true]
          rintro en w9 ⟨rfl, q, hq⟩
          have b9 : Below w8.heap.size w8 w9 := by rw [hq]; exact drewN_below _ q
          have HA := Lib.hid (HA.out.below b9)
          have HB := Lib.hid (HB.out.below b9)
          have HBW := Lib.hid (bch HBW.out b9)
          clear hq b9 HP HQ
          have a2 := HA.out.c2
          have a3 := HA.out.c3
          have c2 := HB.out.c2
          have c3 := HB.out.c3
          go_wp2_with fail
          refine (fixed_any w9).mono ?_
          rintro en v ⟨rfl, bv⟩
          have HBW := Lib.hid (bch HBW.out bv)
          clear bv
          go_wp2
          go_ret
          exact ⟨rfl, HBW.out⟩
        · have hbig : 100 < (toks l).length := by omega
          have CA := Lib.hid (plain_F (l := l) wr (by omega) (hpf.out hbig).1 (hpf.out hbig).2)
          have CB := Lib.hid (fun W => plain_G (l := tN ++ l) W (by simp [tN]; omega))
          obtain ⟨T, hT⟩ : ∃ T, toks l = T := ⟨_, rfl⟩
          rw [hT] at CL hbig
          clear hpa hpb hpf hT hsm
          go_wp2_with fail
          refine CA.out.mono ?_
          rintro en w1 ⟨r1, bb, uu, LA, RA, NA, lc, rc, nc, rfl, h1, b1⟩
          have H1 := Lib.hid h1
          have HBW := Lib.hid b1
          clear h1 b1
          go_wp2_with fail
          rw [app_tN]
          refine (CB.out w1).mono ?_
          rintro en w2 ⟨r2, x1, x2, x3, x4, LB, RB, NB, ld, rd, nd, rfl, h2, b2⟩
          obtain ⟨HA, HB⟩ := held_two (lc := lc) (rc := rc) (nc := nc) (ld := ld) (rd := rd) (nd := nd) (a := 100) (b := bb) (c := 1) (u := uu) (a' := x1) (b' := x2) (c' := x3) (u' := x4) (H1.out.below b2) h2
          have HBW := Lib.hid (bch (bch HBW.out b2) (bch (one_below w2 (.cells #[.slice LA 100 lc, .slice RA bb rc, .slice NA 1 nc, .int .i64 uu] 31)) (one_below _ (.cells #[.slice LB x1 ld, .slice RB x2 rd, .slice NB x3 nd, .int .i64 x4] 31))))
          clear h2 b2 H1
          go_wp2_with fail
          generalize (w2.alloc (.cells #[.slice LA 100 lc, .slice RA bb rc, .slice NA 1 nc, .int .i64 uu] 31)).alloc (.cells #[.slice LB x1 ld, .slice RB x2 rd, .slice NB x3 nd, .int .i64 x4] 31) = W at HA HB HBW ⊢
          refine (CL.out W).mono ?_
          rintro en w3 ⟨C, e, rfl, hC, b3⟩
          have HA := Lib.hid (HA.out.below b3)
          have HBW := Lib.hid (bch HBW.out b3)
          clear hC b3
          have a0 := HA.out.c0
          have a2 := HA.out.c2
          have i9 : (100 : Int) < (T.length : Int) := by omega
          go_wp2_with fail
          refine (fixed_any w3).mono ?_
          rintro en v ⟨rfl, bv⟩
          have HBW := Lib.hid (bch HBW.out bv)
          clear bv
          go_wp2
          go_ret
          exact ⟨rfl, HBW.out⟩
      · have i0 : (k : Int) < (s.size : Int) := by omega
        have i1 : (200 : Int) ≤ (k : Int) := by omega
        by_cases hsm : (toks l).length ≤ 100
        · have CA := Lib.hid (plain_A wr (toks l) (by omega) (hpa.out hsm))
          have CB := Lib.hid (fun W => plain_A (l := tN ++ l) W (toks l) (by simp [tN]; omega) (hpb.out hsm))
          obtain ⟨T, hT⟩ : ∃ T, toks l = T := ⟨_, rfl⟩
          rw [hT] at CA CB CL hsm
          clear hpa hpb hpf hT
          go_wp2_with fail
          refine CA.out.mono ?_
          rintro en w1 ⟨LA, RA, NA, lc, rc, nc, rfl, h1, b1⟩
          have H1 := Lib.hid h1
          have HBW := Lib.hid b1
          clear h1 b1
          go_wp2_with fail
          rw [app_tN]
          refine (CB.out w1).mono ?_
          rintro en w2 ⟨LB, RB, NB, ld, rd, nd, rfl, h2, b2⟩
          obtain ⟨HA, HB⟩ := held_two (lc := lc) (rc := rc) (nc := nc) (ld := ld) (rd := rd) (nd := nd) (a := T.length) (b := 1) (c := 0) (u := 0) (a' := T.length) (b' := 1) (c' := 0) (u' := 0) (H1.out.below b2) h2
          have HBW := Lib.hid (bch (bch HBW.out b2) (bch (one_below w2 (.cells #[.slice LA T.length lc, .slice RA 1 rc, .slice NA 0 nc, .int .i64 0] 31)) (one_below _ (.cells #[.slice LB T.length ld, .slice RB 1 rd, .slice NB 0 nd, .int .i64 0] 31))))
          clear h2 b2 H1
          go_wp2_with fail
          generalize (w2.alloc (.cells #[.slice LA T.length lc, .slice RA 1 rc, .slice NA 0 nc, .int .i64 0] 31)).alloc (.cells #[.slice LB T.length ld, .slice RB 1 rd, .slice NB 0 nd, .int .i64 0] 31) = W at HA HB HBW ⊢
          refine (CL.out W).mono ?_
          rintro en w3 ⟨C, e, rfl, hC, b3⟩
          have HC := Lib.hid hC.rd
          have HA := Lib.hid (HA.out.below b3)
          have HB := Lib.hid (HB.out.below b3)
          have HBW := Lib.hid (bch HBW.out b3)
          clear hC b3
          have a0 := HA.out.c0
          have i9 : (T.length : Int) ≤ 100 := by omega
          go_wp2_with fail
          refine (refs_any LA lc T w3 HA.out.rd.l (by omega)).mono ?_
          rintro en w4 ⟨P1, p1, rfl, r1, b4⟩
          have HP := Lib.hid r1.rd
          have HA := Lib.hid (HA.out.below b4)
          have HB := Lib.hid (HB.out.below b4)
          have HC := Lib.hid (HC.out.below b4)
          have HBW := Lib.hid (bch HBW.out b4)
          clear r1 b4 a0
          go_wp2_with fail
          refine (refs_any C e T w4 HC.out (by omega)).mono ?_
          rintro en w5 ⟨P2, p2, rfl, r2, b5⟩
          have HQ := Lib.hid r2.rd
          have HA := Lib.hid (HA.out.below b5)
          have HB := Lib.hid (HB.out.below b5)
          have HC := Lib.hid (HC.out.below b5)
          have HP := Lib.hid (HP.out.below b5)
          have HBW := Lib.hid (bch HBW.out b5)
          clear r2 b5
          go_wp2_with fail
          refine (same_any P1 P2 p1 p2 T T w5 HP.out HQ.out (by omega) (by omega)).mono ?_
          simp only [decide_true]
          rintro en w6 ⟨rfl, q, hq⟩
          have b6 : Below w5.heap.size w5 w6 := by rw [hq]; exact drewN_below _ q
          have HA := Lib.hid (HA.out.below b6)
          have HB := Lib.hid (HB.out.below b6)
          have HC := Lib.hid (HC.out.below b6)
          have HBW := Lib.hid (bch HBW.out b6)
          clear hq b6 HP HQ
          have a0 := HB.out.c0
          go_wp2_with fail
          refine (refs_any LB ld T w6 HB.out.rd.l (by omega)).mono ?_
          rintro en w7 ⟨P3, p3, rfl, r3, b7⟩
          have HP := Lib.hid r3.rd
          have HA := Lib.hid (HA.out.below b7)
          have HB := Lib.hid (HB.out.below b7)
          have HC := Lib.hid (HC.out.below b7)
          have HBW := Lib.hid (bch HBW.out b7)
          clear r3 b7 a0
          go_wp2_with fail
          refine (refs_any C e T w7 HC.out (by omega)).mono ?_
          rintro en w8 ⟨P4, p4, rfl, r4, b8⟩
          have HQ := Lib.hid r4.rd
          have HA := Lib.hid (HA.out.below b8)
          have HB := Lib.hid (HB.out.below b8)
          have HP := Lib.hid (HP.out.below b8)
          have HBW := Lib.hid (bch HBW.out b8)
          clear r4 b8
          go_wp2_with fail
          refine (same_any P3 P4 p3 p4 T T w8 HP.out HQ.out (by omega) (by omega)).mono ?_
          simp only [decide_true]
          rintro en w9 ⟨rfl, q, hq⟩
          have b9 : Below w8.heap.size w8 w9 := by rw [hq]; exact drewN_below _ q
          have HA := Lib.hid (HA.out.below b9)
          have HB := Lib.hid (HB.out.below b9)
          have HBW := Lib.hid (bch HBW.out b9)
          clear hq b9 HP HQ
          have a2 := HA.out.c2
          have a3 := HA.out.c3
          have c2 := HB.out.c2
          have c3 := HB.out.c3
          go_wp2_with fail
          refine (fixed_any w9).mono ?_
          rintro en v ⟨rfl, bv⟩
          have HBW := Lib.hid (bch HBW.out bv)
          clear bv
          go_wp2
          go_ret
          exact ⟨rfl, HBW.out⟩
        · have hbig : 100 < (toks l).length := by omega
          have CA := Lib.hid (plain_F (l := l) wr (by omega) (hpf.out hbig).1 (hpf.out hbig).2)
          have CB := Lib.hid (fun W => plain_G (l := tN ++ l) W (by simp [tN]; omega))
          obtain ⟨T, hT⟩ : ∃ T, toks l = T := ⟨_, rfl⟩
          rw [hT] at CL hbig
          clear hpa hpb hpf hT hsm
          go_wp2_with fail
          refine CA.out.mono ?_
          rintro en w1 ⟨r1, bb, uu, LA, RA, NA, lc, rc, nc, rfl, h1, b1⟩
          have H1 := Lib.hid h1
          have HBW := Lib.hid b1
          clear h1 b1
          go_wp2_with fail
          rw [app_tN]
          refine (CB.out w1).mono ?_
          rintro en w2 ⟨r2, x1, x2, x3, x4, LB, RB, NB, ld, rd, nd, rfl, h2, b2⟩
          obtain ⟨HA, HB⟩ := held_two (lc := lc) (rc := rc) (nc := nc) (ld := ld) (rd := rd) (nd := nd) (a := 100) (b := bb) (c := 1) (u := uu) (a' := x1) (b' := x2) (c' := x3) (u' := x4) (H1.out.below b2) h2
          have HBW := Lib.hid (bch (bch HBW.out b2) (bch (one_below w2 (.cells #[.slice LA 100 lc, .slice RA bb rc, .slice NA 1 nc, .int .i64 uu] 31)) (one_below _ (.cells #[.slice LB x1 ld, .slice RB x2 rd, .slice NB x3 nd, .int .i64 x4] 31))))
          clear h2 b2 H1
          go_wp2_with fail
          generalize (w2.alloc (.cells #[.slice LA 100 lc, .slice RA bb rc, .slice NA 1 nc, .int .i64 uu] 31)).alloc (.cells #[.slice LB x1 ld, .slice RB x2 rd, .slice NB x3 nd, .int .i64 x4] 31) = W at HA HB HBW ⊢
          refine (CL.out W).mono ?_
          rintro en w3 ⟨C, e, rfl, hC, b3⟩
          have HA := Lib.hid (HA.out.below b3)
          have HBW := Lib.hid (bch HBW.out b3)
          clear hC b3
          have a0 := HA.out.c0
          have a2 := HA.out.c2
          have i9 : (100 : Int) < (T.length : Int) := by omega
          go_wp2_with fail
          refine (fixed_any w3).mono ?_
          rintro en v ⟨rfl, bv⟩
          have HBW := Lib.hid (bch HBW.out bv)
          clear bv
          go_wp2
          go_ret
          exact ⟨rfl, HBW.out⟩
end Go.Proofs.YtmnbepapgghdaaaGreat

namespace Go.Proofs.YtmnbepapgghdaaaGreat
open Go.RowKit

theorem str_appQ {a b r : By} (h : a ++ b = r) : Value.string (({ data := a.toArray } : ByteArray) ++ { data := b.toArray }) = Value.string { data := r.toArray } := by
  subst h; congr 1
theorem one_byteQ (t : ByteArray) (k : Nat) (h : k < t.size) : t.extract k (k + 1) = ⟨([t[k]] : By).toArray⟩ := by
  apply str_of
  rw [ext_list, take_step t k h, List.drop_append, List.length_take, size_list]
  rw [List.drop_of_length_le (by rw [List.length_take]; omega), show k - min k t.size = 0 by omega]
  rfl
theorem tabs_app (k : Nat) (a b : By) : tabs k (a ++ b) = tabs k a ++ tabs k b := by simp [tabs]
theorem tabs_one9 (k : Nat) : tabs k [9] = List.replicate (k + 1) 32 := by simp [tabs, sp]
theorem tabs_one {c : UInt8} (k : Nat) (h : c ≠ 9) : tabs k [c] = [c] := by simp [tabs, sp, h]
end Go.Proofs.YtmnbepapgghdaaaGreat

namespace Go.Proofs.YtmnbepapgghdaaaGreat
open Go.RowKit

/-- A token, and the place behind it; old memory stays. -/
def RTok (w : World) (t : ByteArray) (k : Int) (x u : By) (e : Ending) (w' : World) : Prop := ∃ j : Nat, e = .returned (.tuple #[.agg #[.int .i64 k, .string ⟨x.toArray⟩], .int .i64 j]) ∧ Hid (t.data.toList.drop j = u) ∧ j ≤ t.size ∧ Below w.heap.size w w'
theorem word_at {t : ByteArray} {n : Nat} {l : By} {R : By × By} (hn : n < t.size) (h : (l ++ (wordG (t.data.toList.drop n)).1, (wordG (t.data.toList.drop n)).2) = R) (h1 : kdN t n = 1) :
    (∃ h2 : n + 1 < t.size, (t[n].toNat : Int) = 92 ∧ ((l ++ [t[n + 1]]) ++ (wordG (t.data.toList.drop (n + 2))).1, (wordG (t.data.toList.drop (n + 2))).2) = R) ∨ (((t[n].toNat : Int) == 92) = false ∨ (t[n].toNat : Int) = 92 ∧ ¬ n + 1 < t.size) ∧ ((l ++ [t[n]]) ++ (wordG (t.data.toList.drop (n + 1))).1, (wordG (t.data.toList.drop (n + 1))).2) = R := by
  unfold kdN at h1
  have hd := drop_at t n hn
  rw [hd] at h h1
  have hk1 : kd t[n] (t.data.toList.drop (n + 1)) = 1 := h1
  by_cases hc : t[n] = 92
  · have hx : (t[n].toNat : Int) = 92 := by rw [hc]; rfl
    by_cases h2 : n + 1 < t.size
    · left
      refine ⟨h2, hx, ?_⟩
      have hd1 := drop_at t (n + 1) h2
      rw [hd1] at h hk1
      rw [wordG_two, if_pos hk1, if_pos hc] at h
      rw [← h, List.append_assoc]; rfl
    · right
      refine ⟨.inr ⟨hx, h2⟩, ?_⟩
      have hd1 := drop_end t (n + 1) h2
      rw [hd1] at h hk1 ⊢
      rw [wordG_one, if_pos hk1] at h
      rw [← h]; simp [wordG]
  · right
    refine ⟨.inl ?_, ?_⟩
    · rw [beq_eq_false_iff_ne]; intro q; exact hc (byte_lit (n := 92) q)
    · rw [word_step hc hk1] at h
      rw [← h, List.append_assoc]; rfl
theorem word_off {u l : By} {R : By × By} (h : (l ++ (wordG u).1, (wordG u).2) = R) (h1 : hk u ≠ 1) : R = (l, u) := by
  rw [word_none h1] at h; rw [← h]; simp
theorem tok40_new (w : World) (a b : Value) : (w.alloc (.cells #[a, b] 82)).heap[w.heap.size]? = some (.cells #[a, b] 82) := heap_alloc_new w _
set_option maxRecDepth 100000 in
set_option maxHeartbeats 2000000 in
theorem rword_any (t : ByteArray) (i : Nat) (w : World) (hs : t.size ≤ 190000) (hi : i ≤ t.size) :
    Calls Tryz.prog 41 #[.string t, .int .i64 i] w (RTok w t 1 (wordG (t.data.toList.drop i)).1 (wordG (t.data.toList.drop i)).2) := by
  generalize hg : wordG (t.data.toList.drop i) = R
  have HR := Lib.hid (show (([] : By) ++ (wordG (t.data.toList.drop i)).1, (wordG (t.data.toList.drop i)).2) = R by rw [hg]; rfl)
  clear hg
  have hb0 := one_below w (.cells #[.int .i64 0, .string ⟨#[]⟩] 82)
  have hn0 := tok40_new w (.int .i64 0) (.string ⟨#[]⟩)
  go_enter Tryz.func41, Tryz.ntmps41
  go_wp2_with fail
  go_loopw [1, 6] (fun v1 v6 wr => ∃ (n : Nat) (l : By), v1 = .int .i64 n ∧ v6 = .string ⟨l.toArray⟩ ∧ n ≤ t.size ∧ l.length ≤ n ∧ Hid ((l ++ (wordG (t.data.toList.drop n)).1, (wordG (t.data.toList.drop n)).2) = R) ∧ Below w.heap.size w wr ∧ wr.heap[w.heap.size]? = some (.cells #[.int .i64 0, .string ⟨#[]⟩] 82)) (fun v1 _ _ => t.size - (intOf v1).toNat)
  case atStart => exact ⟨i, [], rfl, rfl, hi, by simp, HR, hb0, hn0⟩
  case round =>
    clear hb0 hn0 HR
    obtain ⟨n, l, rfl, rfl, hn, hll, HG, hb, hbk⟩ := hrel
    by_cases hlt : n < t.size
    · have C := rkind_any t n wr (by omega) hlt
      have i1 : (n : Int) < (t.size : Int) := by omega
      by_cases h1 : kdN t n = 1
      · rw [h1] at C
        have hw := word_at hlt HG.out h1
        have CC := Lib.hid C
        have HBK := Lib.hid hbk
        clear C h1 HG hbk
        rcases hw with ⟨h2, hx, h3⟩ | ⟨hx, h3⟩
        · have hone := one_byteQ t (n + 1) h2
          obtain ⟨l2, hl2⟩ : ∃ l2, l ++ [t[n + 1]] = l2 := ⟨_, rfl⟩
          rw [hl2] at h3
          have HS := Lib.hid (str_appQ hl2)
          have hl2l : l2.length = l.length + 1 := by rw [← hl2]; simp
          have H3 := Lib.hid h3
          have i2 : (n : Int) + 1 < (t.size : Int) := by omega
          generalize t[n + 1] = c at *
          clear h3 hl2
          go_wp2_with fail
          refine CC.out.mono ?_
          rintro e w' ⟨rfl, rfl⟩
          go_wp2
          go_roundw
          case rel => exact ⟨n + 2, l2, by go_num, HS.out, by omega, by omega, H3, hb, HBK.out⟩
          case measure => simp [intOf]; omega
        · have hone := one_byteQ t n hlt
          obtain ⟨l2, hl2⟩ : ∃ l2, l ++ [t[n]] = l2 := ⟨_, rfl⟩
          rw [hl2] at h3
          have HS := Lib.hid (str_appQ hl2)
          have hl2l : l2.length = l.length + 1 := by rw [← hl2]; simp
          have H3 := Lib.hid h3
          obtain ⟨y, hy⟩ : ∃ y : Int, (t[n].toNat : Int) = y := ⟨_, rfl⟩
          rw [hy] at hx
          clear h3 hl2
          rcases hx with hx | ⟨rfl, h2⟩
          · go_wp2_with fail
            refine CC.out.mono ?_
            rintro e w' ⟨rfl, rfl⟩
            go_wp2
            go_roundw
            case rel => exact ⟨n + 1, l2, by go_num, HS.out, by omega, by omega, H3, hb, HBK.out⟩
            case measure => simp [intOf]; omega
          · have i2 : ¬ (n : Int) + 1 < (t.size : Int) := by omega
            go_wp2_with fail
            refine CC.out.mono ?_
            rintro e w' ⟨rfl, rfl⟩
            go_wp2
            go_roundw
            case rel => exact ⟨n + 1, l2, by go_num, HS.out, by omega, by omega, H3, hb, HBK.out⟩
            case measure => simp [intOf]; omega
      · have q2 : (kdN t n == 1) = false := by simpa using h1
        have HE := Lib.hid (word_off HG.out h1)
        clear h1 HG
        generalize kdN t n = V at *
        have CC := Lib.hid C
        have c0 : wr.cell? ⟨w.heap.size, 0, none⟩ = some (.int .i64 0) := cell_of hbk 0
        have c1 : wr.cell? ⟨w.heap.size, 1, none⟩ = some (.string ⟨#[]⟩) := cell_of hbk 1
        have f0 := frozen_of hbk 0
        have f1 := frozen_of hbk 1
        have BK2 : Hid (((wr.setCell ⟨w.heap.size, 0, none⟩ (.int .i64 1)).setCell ⟨w.heap.size, 1, none⟩ (.string ⟨l.toArray⟩)).heap[w.heap.size]? = some (.cells #[.int .i64 1, .string ⟨l.toArray⟩] 82)) := blk_set (blk_set hbk 0 _) 1 _
        have HB := Lib.hid hb
        clear C hbk hb
        go_wp2_with fail
        refine CC.out.mono ?_
        rintro e w' ⟨rfl, rfl⟩
        go_wp2
        refine bodyPost_ret (results_cell_tmp (P := Tryz.prog) rfl _ _ w.heap.size 82 #[.int .i64 1, .string ⟨l.toArray⟩] (0, 0) _ _ (by rfl) (by rfl) BK2.out Tryz.underlying82 rfl (by kernel_rfl)) rfl ?_
        rw [HE.out]
        exact ⟨n, rfl, Lib.hid rfl, hn, (HB.out.setCell (Nat.le_refl _) _).setCell (Nat.le_refl _) _⟩
    · have HE := Lib.hid (word_off HG.out (by rw [drop_end t n hlt]; decide))
      have i1 : ¬ (n : Int) < (t.size : Int) := by omega
      have c0 : wr.cell? ⟨w.heap.size, 0, none⟩ = some (.int .i64 0) := cell_of hbk 0
      have c1 : wr.cell? ⟨w.heap.size, 1, none⟩ = some (.string ⟨#[]⟩) := cell_of hbk 1
      have f0 := frozen_of hbk 0
      have f1 := frozen_of hbk 1
      have BK2 : Hid (((wr.setCell ⟨w.heap.size, 0, none⟩ (.int .i64 1)).setCell ⟨w.heap.size, 1, none⟩ (.string ⟨l.toArray⟩)).heap[w.heap.size]? = some (.cells #[.int .i64 1, .string ⟨l.toArray⟩] 82)) := blk_set (blk_set hbk 0 _) 1 _
      have HB := Lib.hid hb
      clear HG hbk hb
      go_wp2
      refine bodyPost_ret (results_cell_tmp (P := Tryz.prog) rfl _ _ w.heap.size 82 #[.int .i64 1, .string ⟨l.toArray⟩] (0, 0) _ _ (by rfl) (by rfl) BK2.out Tryz.underlying82 rfl (by kernel_rfl)) rfl ?_
      rw [HE.out]
      exact ⟨n, rfl, Lib.hid rfl, hn, (HB.out.setCell (Nat.le_refl _) _).setCell (Nat.le_refl _) _⟩
theorem gap_at_rem {t : ByteArray} {n m : Nat} {R : Nat × By} (hn : n < t.size) (h : gapG true m (t.data.toList.drop n) = R) :
    ((t[n].toNat : Int) = 10 ∧ gapG false m (t.data.toList.drop (n + 1)) = R) ∨ (((t[n].toNat : Int) == 10) = false ∧ gapG true m (t.data.toList.drop (n + 1)) = R) := by
  rw [drop_at t n hn] at h
  by_cases hc : t[n] = 10
  · exact .inl ⟨by rw [hc]; rfl, by rw [← h]; simp [gapG, hc]⟩
  · refine .inr ⟨?_, by rw [← h]; simp [gapG, hc]⟩
    rw [beq_eq_false_iff_ne]; intro q; exact hc (byte_lit (n := 10) q)
theorem gap_at {t : ByteArray} {n m : Nat} {R : Nat × By} (hn : n < t.size) (h : gapG false m (t.data.toList.drop n) = R) (h2 : kdN t n = 2) :
    ((t[n].toNat : Int) = 37 ∧ gapG true m (t.data.toList.drop (n + 1)) = R) ∨ ((t[n].toNat : Int) = 10 ∧ gapG false (m + 1) (t.data.toList.drop (n + 1)) = R) ∨ (((t[n].toNat : Int) == 37) = false ∧ ((t[n].toNat : Int) == 10) = false ∧ gapG false m (t.data.toList.drop (n + 1)) = R) := by
  unfold kdN at h2
  rw [drop_at t n hn] at h h2
  have hk2 : kd t[n] (t.data.toList.drop (n + 1)) = 2 := h2
  rcases kd_blank hk2 with e | e | ⟨e1, e2, e3⟩
  · exact .inl ⟨by rw [e]; rfl, by rw [← h]; simp [gapG, e]⟩
  · exact .inr (.inl ⟨by rw [e]; rfl, by rw [← h]; simp [gapG, e]⟩)
  · refine .inr (.inr ⟨?_, ?_, by rw [← h]; simp [gapG, e1, e2, e3]⟩)
    · rw [beq_eq_false_iff_ne]; intro q; exact e1 (byte_lit (n := 37) q)
    · rw [beq_eq_false_iff_ne]; intro q; exact e2 (byte_lit (n := 10) q)
set_option maxRecDepth 100000 in
set_option maxHeartbeats 4000000 in
theorem rgap_any (t : ByteArray) (i : Nat) (w : World) (hs : t.size ≤ 190000) (hi : i ≤ t.size) :
    Calls Tryz.prog 42 #[.string t, .int .i64 i] w (RTok w t (gapK (gapG false 0 (t.data.toList.drop i)).1) [] (gapG false 0 (t.data.toList.drop i)).2) := by
  generalize hg : gapG false 0 (t.data.toList.drop i) = R
  have HR := Lib.hid hg
  clear hg
  have hb0 := one_below w (.cells #[.int .i64 0, .string ⟨#[]⟩] 82)
  have hn0 := tok40_new w (.int .i64 0) (.string ⟨#[]⟩)
  go_enter Tryz.func42, Tryz.ntmps42
  go_wp2_with fail
  go_loopw [1, 6, 7] (fun v1 v6 v7 wr => ∃ (n m : Nat) (r : Bool), v1 = .int .i64 n ∧ v6 = .int .i64 m ∧ v7 = .bool r ∧ n ≤ t.size ∧ m ≤ n ∧ Hid (gapG r m (t.data.toList.drop n) = R) ∧ Below w.heap.size w wr ∧ wr.heap[w.heap.size]? = some (.cells #[.int .i64 0, .string ⟨#[]⟩] 82)) (fun v1 _ _ _ => t.size - (intOf v1).toNat)
  case atStart => exact ⟨i, 0, false, rfl, rfl, rfl, hi, Nat.zero_le _, HR, hb0, hn0⟩
  case round =>
    clear hb0 hn0 HR
    obtain ⟨n, m, r, rfl, rfl, rfl, hn, hmn, HG, hb, hbk⟩ := hrel
    have HB := Lib.hid hb
    by_cases hlt : n < t.size
    · have i1 : (n : Int) < (t.size : Int) := by omega
      cases r with
      | true =>
        have HBK := Lib.hid hbk
        rcases gap_at_rem hlt HG.out with ⟨hx, h3⟩ | ⟨hx, h3⟩
        · have H3 := Lib.hid h3
          clear h3 hb hbk HG
          go_wp2
          go_roundw
          case rel => exact ⟨n + 1, m, false, by go_num, rfl, rfl, by omega, by omega, H3, HB.out, HBK.out⟩
          case measure => simp [intOf]; omega
        · have H3 := Lib.hid h3
          obtain ⟨y, hy⟩ : ∃ y : Int, (t[n].toNat : Int) = y := ⟨_, rfl⟩
          rw [hy] at hx
          clear h3 hb hbk HG
          cases h37 : (y == 37) <;> (
            go_wp2
            go_roundw
            case rel => exact ⟨n + 1, m, true, by go_num, rfl, rfl, by omega, by omega, H3, HB.out, HBK.out⟩
            case measure => simp [intOf]; omega)
      | false =>
        have C := rkind_any t n wr (by omega) hlt
        by_cases h2 : kdN t n = 2
        · rw [h2] at C
          have CC := Lib.hid C
          have HBK := Lib.hid hbk
          have hw := gap_at hlt HG.out h2
          clear C h2 HG hb hbk
          rcases hw with ⟨hx, h3⟩ | ⟨hx, h3⟩ | ⟨hx, hx2, h3⟩
          · have H3 := Lib.hid h3
            clear h3
            go_wp2_with fail
            refine CC.out.mono ?_
            rintro e w' ⟨rfl, rfl⟩
            go_wp2
            go_roundw
            case rel => exact ⟨n + 1, m, true, by go_num, rfl, rfl, by omega, by omega, H3, HB.out, HBK.out⟩
            case measure => simp [intOf]; omega
          · have H3 := Lib.hid h3
            clear h3
            go_wp2_with fail
            refine CC.out.mono ?_
            rintro e w' ⟨rfl, rfl⟩
            go_wp2
            go_roundw
            case rel => exact ⟨n + 1, m + 1, false, by go_num, by go_num, rfl, by omega, by omega, H3, HB.out, HBK.out⟩
            case measure => simp [intOf]; omega
          · have H3 := Lib.hid h3
            obtain ⟨y, hy⟩ : ∃ y : Int, (t[n].toNat : Int) = y := ⟨_, rfl⟩
            rw [hy] at hx hx2
            clear h3
            go_wp2_with fail
            refine CC.out.mono ?_
            rintro e w' ⟨rfl, rfl⟩
            go_wp2
            go_roundw
            case rel => exact ⟨n + 1, m, false, by go_num, rfl, rfl, by omega, by omega, H3, HB.out, HBK.out⟩
            case measure => simp [intOf]; omega
        · have q2 : (kdN t n == 2) = false := by simpa using h2
          have HE := Lib.hid (show R = (m, t.data.toList.drop n) by rw [← HG.out]; exact gap_none h2 m)
          clear h2 HG
          generalize kdN t n = V at *
          have CC := Lib.hid C
          have c0 : wr.cell? ⟨w.heap.size, 0, none⟩ = some (.int .i64 0) := cell_of hbk 0
          have c1 : wr.cell? ⟨w.heap.size, 1, none⟩ = some (.string ⟨#[]⟩) := cell_of hbk 1
          have f0 := frozen_of hbk 0
          have f1 := frozen_of hbk 1
          have BK2 : Hid (((wr.setCell ⟨w.heap.size, 0, none⟩ (.int .i64 2)).setCell ⟨w.heap.size, 1, none⟩ (.string ⟨#[]⟩)).heap[w.heap.size]? = some (.cells #[.int .i64 2, .string ⟨#[]⟩] 82)) := blk_set (blk_set hbk 0 _) 1 _
          have BK3 : Hid (((wr.setCell ⟨w.heap.size, 0, none⟩ (.int .i64 3)).setCell ⟨w.heap.size, 1, none⟩ (.string ⟨#[]⟩)).heap[w.heap.size]? = some (.cells #[.int .i64 3, .string ⟨#[]⟩] 82)) := blk_set (blk_set hbk 0 _) 1 _
          clear C hbk hb
          by_cases hn2 : m < 2
          · go_wp2_with fail
            refine CC.out.mono ?_
            rintro e w' ⟨rfl, rfl⟩
            go_wp2
            refine bodyPost_ret (results_cell_tmp (P := Tryz.prog) rfl _ _ w.heap.size 82 #[.int .i64 2, .string ⟨#[]⟩] (0, 0) _ _ (by rfl) (by rfl) BK2.out Tryz.underlying82 rfl (by kernel_rfl)) rfl ?_
            rw [HE.out]
            exact ⟨n, (by rw [show gapK (m, t.data.toList.drop n).1 = 2 from if_neg (by show ¬ 2 ≤ m; omega)]; rfl), Lib.hid rfl, hn, (HB.out.setCell (Nat.le_refl _) _).setCell (Nat.le_refl _) _⟩
          · go_wp2_with fail
            refine CC.out.mono ?_
            rintro e w' ⟨rfl, rfl⟩
            go_wp2
            refine bodyPost_ret (results_cell_tmp (P := Tryz.prog) rfl _ _ w.heap.size 82 #[.int .i64 3, .string ⟨#[]⟩] (0, 0) _ _ (by rfl) (by rfl) BK3.out Tryz.underlying82 rfl (by kernel_rfl)) rfl ?_
            rw [HE.out]
            exact ⟨n, (by rw [show gapK (m, t.data.toList.drop n).1 = 3 from if_pos (by show 2 ≤ m; omega)]; rfl), Lib.hid rfl, hn, (HB.out.setCell (Nat.le_refl _) _).setCell (Nat.le_refl _) _⟩
    · have i1 : ¬ (n : Int) < (t.size : Int) := by omega
      have HE := Lib.hid (show R = (m, t.data.toList.drop n) by rw [← HG.out, drop_end t n hlt]; cases r <;> rfl)
      have c0 : wr.cell? ⟨w.heap.size, 0, none⟩ = some (.int .i64 0) := cell_of hbk 0
      have c1 : wr.cell? ⟨w.heap.size, 1, none⟩ = some (.string ⟨#[]⟩) := cell_of hbk 1
      have f0 := frozen_of hbk 0
      have f1 := frozen_of hbk 1
      have BK2 : Hid (((wr.setCell ⟨w.heap.size, 0, none⟩ (.int .i64 2)).setCell ⟨w.heap.size, 1, none⟩ (.string ⟨#[]⟩)).heap[w.heap.size]? = some (.cells #[.int .i64 2, .string ⟨#[]⟩] 82)) := blk_set (blk_set hbk 0 _) 1 _
      have BK3 : Hid (((wr.setCell ⟨w.heap.size, 0, none⟩ (.int .i64 3)).setCell ⟨w.heap.size, 1, none⟩ (.string ⟨#[]⟩)).heap[w.heap.size]? = some (.cells #[.int .i64 3, .string ⟨#[]⟩] 82)) := blk_set (blk_set hbk 0 _) 1 _
      clear HG hbk hb
      by_cases hn2 : m < 2
      · go_wp2
        refine bodyPost_ret (results_cell_tmp (P := Tryz.prog) rfl _ _ w.heap.size 82 #[.int .i64 2, .string ⟨#[]⟩] (0, 0) _ _ (by rfl) (by rfl) BK2.out Tryz.underlying82 rfl (by kernel_rfl)) rfl ?_
        rw [HE.out]
        exact ⟨n, (by rw [show gapK (m, t.data.toList.drop n).1 = 2 from if_neg (by show ¬ 2 ≤ m; omega)]; rfl), Lib.hid rfl, hn, (HB.out.setCell (Nat.le_refl _) _).setCell (Nat.le_refl _) _⟩
      · go_wp2
        refine bodyPost_ret (results_cell_tmp (P := Tryz.prog) rfl _ _ w.heap.size 82 #[.int .i64 3, .string ⟨#[]⟩] (0, 0) _ _ (by rfl) (by rfl) BK3.out Tryz.underlying82 rfl (by kernel_rfl)) rfl ?_
        rw [HE.out]
        exact ⟨n, (by rw [show gapK (m, t.data.toList.drop n).1 = 3 from if_pos (by show 2 ≤ m; omega)]; rfl), Lib.hid rfl, hn, (HB.out.setCell (Nat.le_refl _) _).setCell (Nat.le_refl _) _⟩
end Go.Proofs.YtmnbepapgghdaaaGreat

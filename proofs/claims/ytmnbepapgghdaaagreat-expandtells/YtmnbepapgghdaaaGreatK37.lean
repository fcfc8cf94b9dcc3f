/-
  The law's own check of fixed answers.
-/
import Derived.Test.YtmnbepapgghdaaaGreatK36
namespace Go.Proofs.YtmnbepapgghdaaaGreat
open Go.RowKit

/-- An answer that lies in a block. -/
structure Held (w : World) (g : Nat) (LA RA NA : Option Addr) (lc rc nc : Nat) (r : Res8) (a b c : Nat) (u : Int) : Prop where
  blk : w.heap[g]? = some (.cells #[.slice LA a lc, .slice RA b rc, .slice NA c nc, .int .i64 u] 31)
  rd : RdO w LA RA NA r
theorem Held.below {w w' : World} {g : Nat} {LA RA NA : Option Addr} {lc rc nc : Nat} {r : Res8} {a b c : Nat} {u : Int} (h : Held w g LA RA NA lc rc nc r a b c u) (hb : Below w.heap.size w w') : Held w' g LA RA NA lc rc nc r a b c u := ⟨blk_below hb h.blk, h.rd.below hb⟩
theorem held_new {w : World} {LA RA NA : Option Addr} {lc rc nc : Nat} {r : Res8} {a b c : Nat} {u : Int} (h : RdO w LA RA NA r) : Held (w.alloc (.cells #[.slice LA a lc, .slice RA b rc, .slice NA c nc, .int .i64 u] 31)) w.heap.size LA RA NA lc rc nc r a b c u := ⟨heap_alloc_new w _, h.below (one_below w _)⟩
theorem Held.c0 {w : World} {g : Nat} {LA RA NA : Option Addr} {lc rc nc : Nat} {r : Res8} {a b c : Nat} {u : Int} (h : Held w g LA RA NA lc rc nc r a b c u) : w.cell? ⟨g, 0, none⟩ = some (.slice LA a lc) := cell_of h.blk 0
theorem Held.c1 {w : World} {g : Nat} {LA RA NA : Option Addr} {lc rc nc : Nat} {r : Res8} {a b c : Nat} {u : Int} (h : Held w g LA RA NA lc rc nc r a b c u) : w.cell? ⟨g, 1, none⟩ = some (.slice RA b rc) := cell_of h.blk 1
theorem Held.c2 {w : World} {g : Nat} {LA RA NA : Option Addr} {lc rc nc : Nat} {r : Res8} {a b c : Nat} {u : Int} (h : Held w g LA RA NA lc rc nc r a b c u) : w.cell? ⟨g, 2, none⟩ = some (.slice NA c nc) := cell_of h.blk 2
theorem Held.c3 {w : World} {g : Nat} {LA RA NA : Option Addr} {lc rc nc : Nat} {r : Res8} {a b c : Nat} {u : Int} (h : Held w g LA RA NA lc rc nc r a b c u) : w.cell? ⟨g, 3, none⟩ = some (.int .i64 u) := cell_of h.blk 3
theorem mild_A : Hid (Mild rA.1) := Lib.hid (by unfold Mild; decide)
theorem mild_C : Hid (Mild rC.1) := Lib.hid (by unfold Mild; decide)
set_option maxRecDepth 100000 in
set_option maxHeartbeats 8000000 in
theorem fixed_any (w : World) : Calls Tryz.prog 15 #[] w fun en w' => en = .returned (.bool true) ∧ Below w.heap.size w w' := by
  go_enter Tryz.func15, Tryz.ntmps15
  go_wp2_with fail
  refine (of_A w).mono ?_
  rintro en w1 ⟨A1, A2, A3, l1, l2, l3, rfl, h1, b1⟩
  have HA := Lib.hid (held_new (lc := l1) (rc := l2) (nc := l3) (a := 3) (b := 1) (c := 0) (u := 1) h1)
  have HB := Lib.hid (bch b1 (one_below w1 (.cells #[.slice A1 3 l1, .slice A2 1 l2, .slice A3 0 l3, .int .i64 1] 31)))
  clear h1 b1
  go_wp2_with fail
  refine (of_B _).mono ?_
  rintro en w2 ⟨B1, B2, B3, m1, m2, m3, rfl, h2, b2⟩
  have c2 := bch b2 (one_below w2 (.cells #[.slice B1 0 m1, .slice B2 1 m2, .slice B3 1 m3, .int .i64 5] 31))
  have HA := Lib.hid (HA.out.below c2)
  have HBB := Lib.hid (held_new (lc := m1) (rc := m2) (nc := m3) (a := 0) (b := 1) (c := 1) (u := 5) h2)
  have HB := Lib.hid (bch HB.out c2)
  clear h2 b2 c2
  go_wp2_with fail
  refine (of_C _).mono ?_
  rintro en w3 ⟨C1, C2, C3, n1, n2, n3, rfl, h3, b3⟩
  have c3 := bch b3 (one_below w3 (.cells #[.slice C1 1 n1, .slice C2 2 n2, .slice C3 2 n3, .int .i64 1] 31))
  have HA := Lib.hid (HA.out.below c3)
  have HBB := Lib.hid (HBB.out.below c3)
  have HC := Lib.hid (held_new (lc := n1) (rc := n2) (nc := n3) (a := 1) (b := 2) (c := 2) (u := 1) h3)
  have HB := Lib.hid (bch HB.out c3)
  clear h3 b3 c3
  go_wp2_with fail
  refine (exp_D _).mono ?_
  rintro en w4 ⟨D1, D2, D3, p1, p2, p3, rfl, h4, b4⟩
  have c4 := bch b4 (one_below w4 (.cells #[.slice D1 0 p1, .slice D2 1 p2, .slice D3 1 p3, .int .i64 0] 31))
  have HA := Lib.hid (HA.out.below c4)
  have HBB := Lib.hid (HBB.out.below c4)
  have HC := Lib.hid (HC.out.below c4)
  have HD := Lib.hid (held_new (lc := p1) (rc := p2) (nc := p3) (a := 0) (b := 1) (c := 1) (u := 0) h4)
  have HB := Lib.hid (bch HB.out c4)
  clear h4 b4 c4
  go_wp2_with fail
  refine (expand_bad none 0 0 [109] (-1) 0 _ (by omega)).mono ?_
  rintro en w5 ⟨rfl, b5⟩
  have c5 := bch b5 (one_below w5 (.cells #[.slice none 0 0, .slice none 0 0, .slice none 0 0, .int .i64 0] 31))
  have HA := Lib.hid (HA.out.below c5)
  have HBB := Lib.hid (HBB.out.below c5)
  have HC := Lib.hid (HC.out.below c5)
  have HD := Lib.hid (HD.out.below c5)
  have HB := Lib.hid (bch HB.out c5)
  clear b5 c5
  go_wp2_with fail
  refine (expand_bad none 0 0 [109] 0 20001 _ (by omega)).mono ?_
  rintro en w6 ⟨rfl, b6⟩
  have c6 := bch b6 (one_below w6 (.cells #[.slice none 0 0, .slice none 0 0, .slice none 0 0, .int .i64 0] 31))
  have HA := Lib.hid (HA.out.below c6)
  have HBB := Lib.hid (HBB.out.below c6)
  have HC := Lib.hid (HC.out.below c6)
  have HD := Lib.hid (HD.out.below c6)
  have HB := Lib.hid (bch HB.out c6)
  clear b6 c6
  have a0 := HA.out.c0
  have a3 := HA.out.c3
  go_wp2_with fail
  generalize w6.alloc (.cells #[.slice none 0 0, .slice none 0 0, .slice none 0 0, .int .i64 0] 31) = W at HA HBB HC HD HB a0 a3 ⊢
  refine (text_any A1 l1 rA.1 W HA.out.rd.l mild_A (by decide)).mono ?_
  rintro en v1 ⟨rfl, d1⟩
  have HA := Lib.hid (HA.out.below d1)
  have HBB := Lib.hid (HBB.out.below d1)
  have HC := Lib.hid (HC.out.below d1)
  have HD := Lib.hid (HD.out.below d1)
  have HB := Lib.hid (bch HB.out d1)
  clear d1 a0 a3
  have a1 := HA.out.c1
  have a2 := HA.out.c2
  have a3 := HA.out.c3
  have tA : (textL rA.1).toArray = #[60, 97, 62] := by kernel_rfl
  rw [tA]
  go_wp2_with fail
  have o1 := one_below v1 (.cells #[.string ⟨#[109]⟩] 9)
  have HA := Lib.hid (HA.out.below o1)
  have HBB := Lib.hid (HBB.out.below o1)
  have HC := Lib.hid (HC.out.below o1)
  have HD := Lib.hid (HD.out.below o1)
  have HB := Lib.hid (bch HB.out o1)
  refine (rwords_any A2 (some ⟨v1.heap.size, 0, none⟩) l2 1 rA.2.1 rA.2.1 _ HA.out.rd.reads (words1 v1 [109]) (by decide) (by decide)).mono ?_
  simp only [decide_true]
  rintro en v2 ⟨rfl, q, hq⟩
  have o2 : Below (v1.alloc (.cells #[.string ⟨#[109]⟩] 9)).heap.size (v1.alloc (.cells #[.string ⟨#[109]⟩] 9)) v2 := by rw [hq]; exact drewN_below _ q
  have HA := Lib.hid (HA.out.below o2)
  have HBB := Lib.hid (HBB.out.below o2)
  have HC := Lib.hid (HC.out.below o2)
  have HD := Lib.hid (HD.out.below o2)
  have HB := Lib.hid (bch HB.out o2)
  clear o1 o2 hq
  clear a1 a2 a3
  have a0 := HBB.out.c0
  have a2 := HBB.out.c2
  have a3 := HBB.out.c3
  go_wp2_with fail
  have o1 := one_below v2 (.cells #[.int .i64 9, .string ⟨#[120]⟩] 86)
  have HA := Lib.hid (HA.out.below o1)
  have HBB := Lib.hid (HBB.out.below o1)
  have HC := Lib.hid (HC.out.below o1)
  have HD := Lib.hid (HD.out.below o1)
  have HB := Lib.hid (bch HB.out o1)
  refine (rnotes_any B3 (some ⟨v2.heap.size, 0, none⟩) m3 1 rB.2.2.1 rB.2.2.1 _ HBB.out.rd.notes (notes1 v2 9 [120]) (by decide) (by decide)).mono ?_
  simp only [decide_true]
  rintro en v3 ⟨rfl, q, hq⟩
  have o2 : Below (v2.alloc (.cells #[.int .i64 9, .string ⟨#[120]⟩] 86)).heap.size (v2.alloc (.cells #[.int .i64 9, .string ⟨#[120]⟩] 86)) v3 := by rw [hq]; exact drewN_below _ q
  have HA := Lib.hid (HA.out.below o2)
  have HBB := Lib.hid (HBB.out.below o2)
  have HC := Lib.hid (HC.out.below o2)
  have HD := Lib.hid (HD.out.below o2)
  have HB := Lib.hid (bch HB.out o2)
  clear o1 o2 hq
  clear a0 a2 a3
  have a0 := HC.out.c0
  go_wp2_with fail
  refine (text_any C1 n1 rC.1 v3 HC.out.rd.l mild_C (by decide)).mono ?_
  rintro en v4 ⟨rfl, d1⟩
  have HA := Lib.hid (HA.out.below d1)
  have HBB := Lib.hid (HBB.out.below d1)
  have HC := Lib.hid (HC.out.below d1)
  have HD := Lib.hid (HD.out.below d1)
  have HB := Lib.hid (bch HB.out d1)
  clear d1 a0
  have a1 := HC.out.c1
  have tC : (textL rC.1).toArray = #[98] := by kernel_rfl
  rw [tC]
  go_wp2_with fail
  have o1 := one_below v4 (.cells #[.string ⟨#[109]⟩, .string ⟨#[110]⟩] 9)
  have HA := Lib.hid (HA.out.below o1)
  have HBB := Lib.hid (HBB.out.below o1)
  have HC := Lib.hid (HC.out.below o1)
  have HD := Lib.hid (HD.out.below o1)
  have HB := Lib.hid (bch HB.out o1)
  refine (rwords_any C2 (some ⟨v4.heap.size, 0, none⟩) n2 2 rC.2.1 rC.2.1 _ HC.out.rd.reads (words2 v4 [109] [110]) (by decide) (by decide)).mono ?_
  simp only [decide_true]
  rintro en v5 ⟨rfl, q, hq⟩
  have o2 : Below (v4.alloc (.cells #[.string ⟨#[109]⟩, .string ⟨#[110]⟩] 9)).heap.size (v4.alloc (.cells #[.string ⟨#[109]⟩, .string ⟨#[110]⟩] 9)) v5 := by rw [hq]; exact drewN_below _ q
  have HA := Lib.hid (HA.out.below o2)
  have HBB := Lib.hid (HBB.out.below o2)
  have HC := Lib.hid (HC.out.below o2)
  have HD := Lib.hid (HD.out.below o2)
  have HB := Lib.hid (bch HB.out o2)
  clear o1 o2 hq
  clear a1
  have a2 := HC.out.c2
  go_wp2_with fail
  have o1 := one_below v5 (.cells #[.int .i64 4, .string ⟨#[110]⟩, .int .i64 2, .string ⟨#[49]⟩] 86)
  have HA := Lib.hid (HA.out.below o1)
  have HBB := Lib.hid (HBB.out.below o1)
  have HC := Lib.hid (HC.out.below o1)
  have HD := Lib.hid (HD.out.below o1)
  have HB := Lib.hid (bch HB.out o1)
  refine (rnotes_any C3 (some ⟨v5.heap.size, 0, none⟩) n3 2 rC.2.2.1 rC.2.2.1 _ HC.out.rd.notes (notes2 v5 4 2 [110] [49]) (by decide) (by decide)).mono ?_
  simp only [decide_true]
  rintro en v6 ⟨rfl, q, hq⟩
  have o2 : Below (v5.alloc (.cells #[.int .i64 4, .string ⟨#[110]⟩, .int .i64 2, .string ⟨#[49]⟩] 86)).heap.size (v5.alloc (.cells #[.int .i64 4, .string ⟨#[110]⟩, .int .i64 2, .string ⟨#[49]⟩] 86)) v6 := by rw [hq]; exact drewN_below _ q
  have HA := Lib.hid (HA.out.below o2)
  have HBB := Lib.hid (HBB.out.below o2)
  have HC := Lib.hid (HC.out.below o2)
  have HD := Lib.hid (HD.out.below o2)
  have HB := Lib.hid (bch HB.out o2)
  clear o1 o2 hq
  clear a2
  have a0 := HD.out.c0
  have a2 := HD.out.c2
  go_wp2_with fail
  have o1 := one_below v6 (.cells #[.int .i64 4, .string ⟨#[109]⟩] 86)
  have HA := Lib.hid (HA.out.below o1)
  have HBB := Lib.hid (HBB.out.below o1)
  have HC := Lib.hid (HC.out.below o1)
  have HD := Lib.hid (HD.out.below o1)
  have HB := Lib.hid (bch HB.out o1)
  refine (rnotes_any D3 (some ⟨v6.heap.size, 0, none⟩) p3 1 rD.2.2.1 rD.2.2.1 _ HD.out.rd.notes (notes1 v6 4 [109]) (by decide) (by decide)).mono ?_
  simp only [decide_true]
  rintro en v7 ⟨rfl, q, hq⟩
  have o2 : Below (v6.alloc (.cells #[.int .i64 4, .string ⟨#[109]⟩] 86)).heap.size (v6.alloc (.cells #[.int .i64 4, .string ⟨#[109]⟩] 86)) v7 := by rw [hq]; exact drewN_below _ q
  have HA := Lib.hid (HA.out.below o2)
  have HBB := Lib.hid (HBB.out.below o2)
  have HC := Lib.hid (HC.out.below o2)
  have HD := Lib.hid (HD.out.below o2)
  have HB := Lib.hid (bch HB.out o2)
  clear o1 o2 hq
  clear a0 a2
  go_wp2
  go_ret
  exact ⟨rfl, HB.out⟩
end Go.Proofs.YtmnbepapgghdaaaGreat

/-
  The walks of WireFiles, WireMaps and WireMost: for every input they return true; old memory stays.
-/
import Derived.Test.YthiojbfhodnlgaaDoorJ
namespace Go.Proofs.YthiojbfhodnlgaaDoor
open Go.RowKit

set_option maxRecDepth 100000 in
set_option maxHeartbeats 8000000 in
theorem wireFiles_any (A : Option Addr) (c : Nat) (fs : List Fl) (w : World) (T : Tabs w) (hr : Rd w A fs) (hfit : Hid (Fit fs)) (hl : fs.length ≤ 9223372036854775807) :
    Calls Tryd.prog 4 #[.slice A fs.length c] w fun e w' => e = .returned (.bool true) ∧ Below w.heap.size w w' := by
  have C := Lib.hid (map_any A c fs 40 4000 w hr hfit hl (by omega) (by omega))
  have hg := mapL_good fs 40 4000
  have HG := Lib.hid hg
  have hml : (mapL fs 40 4000).length ≤ 32 := hg.2.1
  have HM := Lib.hid (good_mild hg)
  have HP := Lib.hid (parse_files hg)
  have hbl : (filesL (mapL fs 40 4000)).length ≤ 199999 := by have := good_bytes _ hg.2.2; omega
  generalize mapL fs 40 4000 = ms at *
  clear hg
  have C5 := Lib.hid (fun (w : World) (T : Tabs w) => parse_any (filesL ms) w T hbl)
  rw [HP.out] at C5
  have C2 := Lib.hid (fun (A : Option Addr) (c : Nat) (w : World) (T : Tabs w) (h : Rd w A ms) => files_any A c ms w T h HM (by omega))
  have C3 := Lib.hid (fun (A : Option Addr) (c : Nat) (w : World) (h : Rd w A ms) => rfiles_any A c ms w h HM (by omega))
  generalize filesL ms = bs at *
  clear HP
  have T0 := T
  go_enter Tryd.func4, Tryd.ntmps4
  go_wp2_with fail
  refine C.out.mono ?_
  rintro e w1 ⟨A1, c1, rfl, ho1, hb⟩
  replace T0 := T0.below hb
  go_wp2_with fail
  refine (C2.out A1 c1 _ T0 ho1.rd).mono ?_
  rintro e w2 ⟨rfl, hb2⟩
  replace ho1 := ho1.below hb2
  replace T0 := T0.below hb2
  replace hb := bch hb hb2
  clear hb2
  go_wp2_with fail
  refine (C5.out _ T0).mono ?_
  rintro e w3 ⟨A2, c2, rfl, ho2, hb2⟩
  replace ho1 := ho1.below hb2
  replace T0 := T0.below hb2
  replace hb := bch hb hb2
  clear hb2
  go_wp2_with fail
  refine (C3.out A1 c1 _ ho1.rd).mono ?_
  rintro e w4 ⟨rfl, hb2⟩
  replace ho1 := ho1.below hb2
  replace ho2 := ho2.below hb2
  replace T0 := T0.below hb2
  replace hb := bch hb hb2
  clear hb2
  go_wp2_with fail
  refine (same_eq A1 A2 c1 c2 ms _ ho1.rd ho2.rd (by omega)).mono ?_
  rintro e w5 ⟨rfl, n2, rfl⟩
  replace T0 := T0.below (drewN_below w4 n2)
  replace hb := bch hb (drewN_below w4 n2)
  clear ho1 ho2
  generalize w4.drewN n2 = w5 at T0 hb ⊢
  go_wp2_with fail
  refine (fixed_any _ T0).mono ?_
  rintro e w6 ⟨rfl, hb2⟩
  go_wp2
  go_ret
  exact ⟨rfl, bch hb hb2⟩

theorem parse_no {s : List UInt8} (h : (parseL s).1 ≠ 0) : (parseL s).2 = [] := by
  rcases parse_ways s with ⟨_, e⟩ | ⟨ts, ha, ⟨_, e⟩ | ⟨_, _, e⟩ | ⟨k, r, e⟩⟩
  · rw [e]
  · rw [e]
  · rw [e]
  · rw [e] at h; exact absurd rfl h
set_option maxRecDepth 100000 in
set_option maxHeartbeats 8000000 in
theorem wireMaps_any (s0 : List UInt8) (w : World) (T : Tabs w) :
    Calls Tryd.prog 7 #[.string ⟨s0.toArray⟩] w fun e w' => e = .returned (.bool true) ∧ Below w.heap.size w w' := by
  obtain ⟨c, s, HS, hs, e1, e2⟩ := cut_facts s0 400 400 rfl
  have C5 := Lib.hid (parse_any s w T (by omega))
  by_cases h : (parseL s).1 = 0
  · obtain ⟨fs, hfs⟩ : ∃ fs, (parseL s).2 = fs := ⟨_, rfl⟩
    have hp : parseL s = (0, fs) := by rw [← hfs, ← h]
    obtain ⟨h1, h2⟩ := files_parse hp
    have HM := Lib.hid (parse_mild hp (by omega))
    rw [hp] at C5
    have C2 := Lib.hid (fun (A : Option Addr) (c : Nat) (w : World) (T : Tabs w) (h : Rd w A fs) => files_any A c fs w T h HM (by omega))
    rw [h1] at C2
    clear h hfs hp h1
    have i1 : (fs.length : Int) ≤ 32 := by omega
    have T0 := T
    go_enter Tryd.func7, Tryd.ntmps7
    go_wp2_with fail
    refine C5.out.mono ?_
    rintro e w1 ⟨A1, c1, rfl, ho1, hb⟩
    replace T0 := T0.below hb
    go_wp2_with fail
    refine (C2.out A1 c1 _ T0 ho1.rd).mono ?_
    rintro e w2 ⟨rfl, hb2⟩
    replace T0 := T0.below hb2
    replace hb := bch hb hb2
    clear hb2 ho1
    go_wp2_with fail
    refine (fixed_any _ T0).mono ?_
    rintro e w6 ⟨rfl, hb2⟩
    go_wp2
    go_ret
    exact ⟨rfl, bch hb hb2⟩
  · rw [parse_no h] at C5
    generalize (parseL s).1 = y at *
    have q : (y != 0) = true := by simpa using h
    clear h
    have T0 := T
    go_enter Tryd.func7, Tryd.ntmps7
    go_wp2_with fail
    refine C5.out.mono ?_
    rintro e w1 ⟨A1, c1, rfl, ho1, hb⟩
    replace T0 := T0.below hb
    clear ho1
    go_wp2_with fail
    refine (fixed_any _ T0).mono ?_
    rintro e w6 ⟨rfl, hb2⟩
    go_wp2
    go_ret
    exact ⟨rfl, bch hb hb2⟩

theorem max_run (a k : Int) (c : Nat) (hc : max a k = c) (ts : Array TypeId) (t : TypeId) (w : World) : (Builtin.max_ ts t #[.int .i64 a, .int .i64 k]).run Tryd.prog w = .ok (.int .i64 c) w := by
  by_cases h : a < k
  · have : k = c := by omega
    subst this
    simp [Builtin.max_, Builtin.max2]
    omega
  · have : a = c := by omega
    subst this
    simp [Builtin.max_, Builtin.max2]
    omega
set_option maxRecDepth 100000 in
set_option maxHeartbeats 8000000 in
theorem wireMost_any (s0 : List UInt8) (most : Int) (w : World) (T : Tabs w) :
    Calls Tryd.prog 8 #[.string ⟨s0.toArray⟩, .int .i64 most] w fun e w' => e = .returned (.bool true) ∧ Below w.heap.size w w' := by
  obtain ⟨c, s, HS, hs, e1, e2⟩ := cut_facts s0 200 200 rfl
  obtain ⟨M, hM⟩ : ∃ M, most.toNat = M := ⟨_, rfl⟩
  have e3 := max_run 0 most M (by omega)
  have C7 := Lib.hid (fun (w : World) (T : Tabs w) => wput_any s w T (by omega))
  have hpl := wput_mild (s := s) (by omega)
  have C1 := Lib.hid (fun (w : World) (T : Tabs w) => get_any (wputL s) 0 most w T (by omega))
  by_cases h : s.length ≤ M
  · have hg : gotL ((wputL s).drop 0) most.toNat = (0, s, []) := by rw [List.drop_zero, hM]; have := got_put s [] M (by omega) h; rwa [List.append_nil] at this
    have hR := getR_ok (most := most) (Nat.zero_le (wputL s).length) hg
    rw [show (((0 : Nat) : Int)) = 0 from rfl] at hR
    rw [hR] at C1
    simp only [List.length_nil, Nat.sub_zero] at C1
    generalize wputL s = pl at *
    clear hg hR hM
    have i1 : (s.length : Int) ≤ (M : Int) := by omega
    have T0 := T
    go_enter Tryd.func8, Tryd.ntmps8
    go_wp2_with fail
    refine (C7.out _ T0).mono ?_
    rintro e w1 ⟨rfl, hb⟩
    replace T0 := T0.below hb
    go_wp2_with fail
    refine (C1.out _ T0).mono ?_
    rintro e w2 ⟨rfl, hb2⟩
    replace T0 := T0.below hb2
    replace hb := bch hb hb2
    clear hb2
    go_wp2_with fail
    refine (C7.out _ T0).mono ?_
    rintro e w3 ⟨rfl, hb2⟩
    replace T0 := T0.below hb2
    replace hb := bch hb hb2
    clear hb2
    go_wp2_with fail
    refine (fixed_any _ T0).mono ?_
    rintro e w6 ⟨rfl, hb2⟩
    go_wp2
    go_ret
    exact ⟨rfl, bch hb hb2⟩
  · have hE : getE (wputL s) 0 most = 3 := by
      have := getE_in (s := wputL s) (k := 0) (most := most) (Nat.zero_le _)
      rw [show (((0 : Nat) : Int)) = 0 from rfl] at this
      rw [this, List.drop_zero, hM]
      have := got_put_big s [] M (by omega) (by omega)
      rw [List.append_nil] at this
      rw [this]
    have hR := getR_bad (s := wputL s) (p := 0) (most := most) (by rw [hE]; decide)
    rw [hE] at hR
    rw [hR] at C1
    generalize wputL s = pl at *
    clear hE hR hM
    have i1 : (M : Int) < (s.length : Int) := by omega
    have T0 := T
    go_enter Tryd.func8, Tryd.ntmps8
    go_wp2_with fail
    refine (C7.out _ T0).mono ?_
    rintro e w1 ⟨rfl, hb⟩
    replace T0 := T0.below hb
    go_wp2_with fail
    refine (C1.out _ T0).mono ?_
    rintro e w2 ⟨rfl, hb2⟩
    replace T0 := T0.below hb2
    replace hb := bch hb hb2
    clear hb2
    go_wp2_with fail
    refine (fixed_any _ T0).mono ?_
    rintro e w6 ⟨rfl, hb2⟩
    go_wp2
    go_ret
    exact ⟨rfl, bch hb hb2⟩
end Go.Proofs.YthiojbfhodnlgaaDoor

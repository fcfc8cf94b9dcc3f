/-
  The contract of one step (try), whatever it is; the walk of StoreDoes: for every byte and every list of steps it returns true; old memory stays.
-/
import Derived.Test.YtmggpockikcjjaaGreatDoorSU
import Derived.Test.YtmggpockikcjjaaGreatDoorSV
import Derived.Test.YtmggpockikcjjaaGreatDoorSX
import Derived.Test.YtmggpockikcjjaaGreatDoorSY
namespace Go.Proofs.YtmggpockikcjjaaGreatDoor
open Go.RowKit
open Dsk (DS Tx Wt Kp DiskAt NoB Ok newS crashS limitS RdB)

/-- A step that came in: its files, whether they are raw ones, its limit, whether there is a crash, and what that keeps. -/
structure StepV where
  A : Option Addr
  fs : List Fl
  c : Nat
  raw : Bool
  lim : Int
  cr : Bool
  B : Option Addr
  ks : List Bool
  cB : Nat
instance : Inhabited StepV := ⟨⟨none, [], 0, false, 0, false, none, [], 0⟩⟩
def scellsV (x : StepV) : List Value := [.slice x.A x.fs.length x.c, .bool x.raw, .int .i64 x.lim, .bool x.cr, .slice x.B x.ks.length x.cB]
def RdP (w : World) (A : Option Addr) (xs : List StepV) : Prop :=
  0 < xs.length → ∃ b o, A = some ⟨b, o, none⟩ ∧ ∀ i x, xs[i]? = some x → w.cell? ⟨b, o + i * 5, none⟩ = some (.slice x.A x.fs.length x.c) ∧ w.cell? ⟨b, o + i * 5 + 1, none⟩ = some (.bool x.raw) ∧ w.cell? ⟨b, o + i * 5 + 2, none⟩ = some (.int .i64 x.lim) ∧ w.cell? ⟨b, o + i * 5 + 3, none⟩ = some (.bool x.cr) ∧ w.cell? ⟨b, o + i * 5 + 4, none⟩ = some (.slice x.B x.ks.length x.cB)
theorem RdP.below {w w' : World} {A : Option Addr} {xs : List StepV} (h : RdP w A xs) (hb : Below w.heap.size w w') : RdP w' A xs := fun h0 => by
  obtain ⟨b, o, e, hc⟩ := h h0
  refine ⟨b, o, e, fun i x hi => ?_⟩
  obtain ⟨c0, c1, c2, c3, c4⟩ := hc i x hi
  exact ⟨cell_below hb c0, cell_below hb c1, cell_below hb c2, cell_below hb c3, cell_below hb c4⟩
structure StepOk (W : World) (x : StepV) : Prop where
  rd : Rd W x.A x.fs
  fit : Fit x.fs
  len : x.fs.length ≤ 9223372036854775807
  cap : x.fs.length ≤ x.c
  rdB : RdB W x.B x.ks
  ks : x.ks.length ≤ 9223372036854775807
  l1 : -9223372036854775808 ≤ x.lim
  l2 : x.lim ≤ 9223372036854775807
theorem try_any (q s n : Nat) (F : Nat → Prop) (st : DS) (now : List Fl) (An : Option Addr) (cn : Nat) (x : StepV) (w0 w : World) (T : Tabs w0) (hL : LS w0 w q s F n now st) (hl : st.lim = none) (hc : st.cnt + halfN n + 1 < 1000) (hN : RdA w F q An now) (ok : StepOk w0 x) :
    Calls Tryz.prog 9 #[.pointer (some ⟨q, 0, none⟩), .pointer (some ⟨s, 0, none⟩), .slice An now.length cn, .agg #[.slice x.A x.fs.length x.c, .bool x.raw, .int .i64 x.lim, .bool x.cr, .slice x.B x.ks.length x.cB]] w (TryPost w0 s n st) := by
  obtain ⟨Af, fs, cf, raw, lim, cr, B, ks, cB⟩ := x
  cases raw
  · by_cases hx : 64 * halfN n < (filesL (mapL fs 12 150)).length
    · exact try_map7 q s n F st now _ fs An Af B cn cf cB lim cr ks w0 w T hL hl hc hN ok.rd (Lib.hid ok.fit) ok.len ok.cap ok.rdB ok.ks ok.l1 ok.l2 rfl ⟨mapL_good _ _ _, hx⟩
    · exact try_map0 q s n F st now _ fs An Af B cn cf cB lim cr ks w0 w T hL hl hc hN ok.rd (Lib.hid ok.fit) ok.len ok.cap ok.rdB ok.ks ok.l1 ok.l2 rfl ⟨mapL_good _ _ _, by omega⟩
  · cases hr : rightB (fs.take 4)
    · exact try_raw5 q s n F st now _ fs An Af B cn cf cB lim cr ks w0 w T hL hl hc hN ok.rd (Lib.hid ok.fit) ok.len ok.cap ok.rdB ok.ks ok.l1 ok.l2 rfl hr
    · by_cases hx : 64 * halfN n < (filesL (fs.take 4)).length
      · exact try_raw7 q s n F st now _ fs An Af B cn cf cB lim cr ks w0 w T hL hl hc hN ok.rd (Lib.hid ok.fit) ok.len ok.cap ok.rdB ok.ks ok.l1 ok.l2 rfl ⟨right_good hr, hx⟩
      · exact try_raw0 q s n F st now _ fs An Af B cn cf cB lim cr ks w0 w T hL hl hc hN ok.rd (Lib.hid ok.fit) ok.len ok.cap ok.rdB ok.ks ok.l1 ok.l2 rfl ⟨right_good hr, by omega⟩

set_option maxRecDepth 100000 in
set_option maxHeartbeats 4000000 in
theorem storeDoes_nat (A1 : Option Addr) (c1 : Nat) (u : Nat) (xs : List StepV) (w : World) (T : Tabs w) (hr1 : RdP w A1 xs) (hok : ∀ y ∈ xs, StepOk w y) (hu : u < 256) :
    Calls Tryz.prog 3 #[.int .u8 u, .slice A1 xs.length c1] w fun e w' => e = .returned (.bool true) ∧ Below w.heap.size w w' := by
  obtain ⟨n, hn⟩ : ∃ n, 4 + u % 16 = n := ⟨_, rfl⟩
  have n4 : 4 ≤ n := by omega
  have n19 : n ≤ 19 := by omega
  have f1 : (4 : Int) + (u : Int) % 16 = (n : Int) := by omega
  have hh : halfN n ≤ 8 := by unfold halfN; omega
  have HT := Lib.hid T
  have C1 := Lib.hid (ls_on n w T n4 (by omega))
  have H0 := Lib.hid (And.intro hr1 hok)
  have R1 := Lib.hid (room_any n)
  have R2 := Lib.hid (rroom_any n)
  have rs : roomZ n ≤ 131008 := by unfold roomZ roomN halfN; simp only [Int.toNat_natCast]; split <;> omega
  generalize roomZ n = rz at *
  clear T hr1 hok hn
  go_enter Tryz.func3, Tryz.ntmps3
  go_wp2_with fail
  refine C1.out.mono ?_
  rintro e w1 ⟨q, s, F, rfl, hL1⟩
  have L1 := Lib.hid hL1
  clear hL1 C1
  have L2 := Lib.hid (L1.out.below (one_below w1 (.cells #[] 37)))
  go_wp2_with fail
  go_loopw [5, 7, 8] (fun vs vl vi wr => ∃ (i q : Nat) (F : Nat → Prop) (st : DS) (cur : List Fl) (Al : Option Addr) (cl : Nat), i ≤ xs.length ∧ i ≤ 14 ∧ vs = .pointer (some ⟨q, 0, none⟩) ∧ vl = .slice Al cur.length cl ∧ vi = .int .i64 i ∧ cur.length ≤ 32 ∧ Hid (LS w wr q s F n cur st ∧ st.lim = none ∧ st.cnt ≤ i * 9 ∧ RdA wr F q Al cur)) (fun _ _ vi _ => 14 - (intOf vi).toNat)
  case atStart => exact ⟨0, q, F, newS n, [], some ⟨w1.heap.size, 0, none⟩, 0, Nat.zero_le _, by omega, rfl, rfl, rfl, by simp, Lib.hid ⟨L2.out, rfl, Nat.le_refl _, RdA.empty _ _ _ _⟩⟩
  case round =>
    obtain ⟨i, q, F, st, cur, Al, cl, hi, hi14, rfl, rfl, rfl, hcl, HI⟩ := hrel
    clear L1 L2
    by_cases hlt : i < xs.length ∧ i < 14
    · obtain ⟨hlt, h14⟩ := hlt
      obtain ⟨y, hy⟩ : ∃ y, xs[i]? = some y := ⟨_, List.getElem?_eq_getElem hlt⟩
      obtain ⟨b, o, rfl, hcell⟩ := H0.out.1.below HI.out.1.bel (by omega)
      obtain ⟨y0, y1, y2, y3, y4⟩ := hcell i y hy
      have OK := Lib.hid (H0.out.2 y (List.mem_of_getElem? hy))
      have C2 := Lib.hid (try_any q s n F st cur Al cl y w wr HT.out HI.out.1 HI.out.2.1 (by have := HI.out.2.2.1; omega) HI.out.2.2.2 OK.out)
      have i1 : (i : Int) < (xs.length : Int) := by omega
      have i2 : (i : Int) < 14 := by omega
      clear hcell hy
      go_wp2_with fail
      refine C2.out.mono ?_
      rintro e w2 ⟨q2, F2, st2, fs2, A2, c2, rfl, hL2, hl2, hc2, hR2⟩
      have H2 := Lib.hid (And.intro hL2 (And.intro hl2 (And.intro hc2 hR2)))
      have hf2 := load_len hL2
      clear hL2 hl2 hc2 hR2 C2 y0 y1 y2 y3 y4
      go_wp2_with fail
      go_roundw
      case rel => exact ⟨i + 1, q2, F2, st2, fs2, A2, c2, by omega, by omega, rfl, rfl, by go_num, hf2, Lib.hid ⟨H2.out.1, H2.out.2.1, by have h3 := H2.out.2.2.1; have h4 := HI.out.2.2.1; omega, H2.out.2.2.2⟩⟩
      case measure => simp [intOf]; omega
    · have hways : (i < xs.length ∧ i = 14) ∨ ¬ i < xs.length := by omega
      clear hlt
      rcases hways with ⟨hw1, rfl⟩ | hw1
      all_goals
        go_wp2_with fail
        refine (R1.out wr).mono ?_
        rintro e w3 ⟨rfl, rfl⟩
        go_wp2_with fail
        refine (R2.out _).mono ?_
        rintro e w3 ⟨rfl, rfl⟩
        go_wp2_with fail
        refine (fixed_any _ (HT.out.below HI.out.1.bel)).mono ?_
        rintro e w4 ⟨rfl, hb4⟩
        go_wp2
        go_ret
        exact ⟨rfl, bch HI.out.1.bel hb4⟩
theorem storeDoes_any (A1 : Option Addr) (c1 : Nat) (x0 : Int) (xs : List StepV) (w : World) (T : Tabs w) (hr1 : RdP w A1 xs) (hok : ∀ y ∈ xs, StepOk w y) (hx : (Lit.int .u8 x0).wf = true) :
    Calls Tryz.prog 3 #[.int .u8 x0, .slice A1 xs.length c1] w fun e w' => e = .returned (.bool true) ∧ Below w.heap.size w w' := by
  have e1 : IntKind.u8.min = 0 := by rfl
  have e2 : IntKind.u8.max = 255 := by rfl
  simp [Lit.wf, e1, e2] at hx
  obtain ⟨u, rfl⟩ : ∃ u : Nat, x0 = u := ⟨x0.toNat, by omega⟩
  exact storeDoes_nat A1 c1 u xs w T hr1 hok (by omega)
end Go.Proofs.YtmggpockikcjjaaGreatDoor

/-
  The contract of Commit: what can't be committed is told so; else all or nothing is there, and where the disk stops ErrDead is told.
-/
import Derived.Test.YtmggpockikcjjaaGreatDoorSG
import Derived.Defers
import Derived.Recover
namespace Go.Proofs.YtmggpockikcjjaaGreatDoor
open Go.RowKit
open Dsk (DS Tx Wt Kp DiskAt NoB)

theorem assert8 (w : World) : (Instr.typeAssert (.iface 38 (.int .i64 8)) 20 38 false).run Tryz.prog w = .ok (.int .i64 8) w := by kernel_rfl
theorem ifne (v : Value) (w : World) : (binOp BinOp.neq 20 (.iface 38 v) .nilIface).run Tryz.prog w = .ok (.bool true) w := by kernel_rfl
theorem ifeq (w : World) : (binOp BinOp.neq 20 .nilIface .nilIface).run Tryz.prog w = .ok (.bool false) w := by kernel_rfl
theorem catch_panicking (p : Addr) (x : Int) (older : List PanicEntry) (w : World) (hc : w.cell? p = some (.int .i64 x)) (hz : w.frozen? p = false) :
    CallsD Tryz.prog 27 #[.pointer (some p)] (.panicking ({ v := .iface 38 (.int .i64 8), recovered := false } :: older)) w fun e u' w' =>
      e = .returned (.tuple #[]) ∧ u' = .panicking ({ v := .iface 38 (.int .i64 8), recovered := true } :: older) ∧ w' = w.setCell p (.int .i64 8) := by
  refine callsD_of_wpS Tryz.func27 rfl fun c₀ cs hu => ?_
  apply wpS_seq
  apply wpS_region
  simp [wpOpsS, go_sem, recoverD, hu, Tryz.ntmps27, Exit.thenS]
  rw [show (#[Value.pointer (some p)] ++ ((Array.replicate 6 undef).setIfInBounds 1 (Value.iface 38 (Value.int IntKind.i64 8))).setIfInBounds 0 (Value.iface 38 (Value.int IntKind.i64 8))) = #[Value.pointer (some p), Value.iface 38 (Value.int IntKind.i64 8), Value.iface 38 (Value.int IntKind.i64 8), undef, undef, undef, undef] from rfl]
  have h1 := assert8
  have h2 := ifne (.int .i64 8)
  refine wpS_of_wp ?_
  go_wp2
  simp [bodyPostS, results, Tryz.results27]
theorem catch_idle (p : Addr) (w : World) :
    CallsD Tryz.prog 27 #[.pointer (some p)] .returning w fun e u' w' => e = .returned (.tuple #[]) ∧ u' = .returning ∧ w' = w := by
  refine callsD_of_wpS Tryz.func27 rfl fun c₀ cs hu => ?_
  apply wpS_seq
  apply wpS_region
  simp [wpOpsS, go_sem, recoverD, hu, Tryz.ntmps27, Exit.thenS]
  rw [show (#[Value.pointer (some p)] ++ ((Array.replicate 6 undef).setIfInBounds 1 Value.nilIface).setIfInBounds 0 Value.nilIface) = #[Value.pointer (some p), Value.nilIface, Value.nilIface, undef, undef, undef, undef] from rfl]
  have h2 := ifeq
  refine wpS_of_wp ?_
  go_wp2
  cases c₀
  simp_all [bodyPostS, results, Tryz.results27]

theorem SAt.within {w : World} {q s : Nat} {F : Nat → Prop} {n : Nat} {fs : List Fl} {st : DS} (h : SAt w q s F n fs st) : SAt w q s (fun x => F x ∧ x < w.heap.size) n fs st := by
  obtain ⟨hd, hnq, hlo, hqlo, n4, n64, hn, hp, a, k, hH, bq⟩ := h
  exact ⟨hd.within, fun x => hnq x.1, fun x hx => hlo x hx.1, hqlo, n4, n64, hn, hp, a, k, hH, bq⟩
theorem room_is {n : Nat} (h4 : 4 ≤ n) (h64 : n ≤ 64) : roomZ n = 64 * halfN n := by
  rw [roomZ_high (by omega) n (by omega)]
theorem told_cell {w : World} {b : Nat} {x : Int} (h : w.heap[b]? = some (.cells #[.int .i64 x] 38)) : w.cell? ⟨b, 0, none⟩ = some (.int .i64 x) ∧ w.frozen? ⟨b, 0, none⟩ = false := ⟨Dsk.cell_of h 0, Dsk.frozen_of h 0⟩

theorem res13 (tmps : Array Value) (b : Nat) (x : Int) (w : World) (ht : tmps.getD 4 undef = .pointer (some ⟨b, 0, none⟩)) (hc : w.cell? ⟨b, 0, none⟩ = some (.int .i64 x)) : (results Tryz.f13 tmps).run Tryz.prog w = .ok (.int .i64 x) w := by
  have ht' : tmps[4]?.getD undef = .pointer (some ⟨b, 0, none⟩) := by simpa using ht
  simp [results, Tryz.results13, ht', go_sem, hc]
set_option maxRecDepth 100000 in
set_option maxHeartbeats 4000000 in
theorem commit_form (q : Nat) (A : Option Addr) (c : Nat) (new : List Fl) (w : World) (hr : Rd w A new) (hlen : new.length ≤ 100000) (hfit : Fit new) (hx : rightB new = false) :
    Calls Tryz.prog 13 #[.pointer (some ⟨q, 0, none⟩), .slice A new.length c] w fun e w' => e = .returned (.int .i64 5) ∧ Below w.heap.size w w' := by
  have C := Lib.hid (right_any A c new (w.alloc (.cells #[.int .i64 0] 38)) (hr.alloc _) hlen hfit)
  rw [hx] at C
  have b0 := Lib.hid (Dsk.blk_new w (.cells #[.int .i64 0] 38))
  have HB0 := Lib.hid (one_below w (.cells #[.int .i64 0] 38))
  clear hr hfit hx
  have hmf : ∀ (fn : Fn) (first cap : Array Value) (w : World), (Instr.makeFunc fn first cap).run Tryz.prog w = .ok (.func fn first cap) w := fun _ _ _ _ => rfl
  go_enter_defers Tryz.func13, Tryz.ntmps13
  go_wp2_with fail
  refine C.out.mono ?_
  rintro e w1 ⟨rfl, hb1⟩
  have b1 := blk_below hb1 b0.out
  obtain ⟨c1, f1⟩ := told_cell b1
  have HB1 := Lib.hid (bch HB0.out hb1)
  have B2 : Hid ((w1.setCell ⟨w.heap.size, 0, none⟩ (.int .i64 5)).cell? ⟨w.heap.size, 0, none⟩ = some (.int .i64 5)) := (told_cell (x := 5) (Dsk.blk_set b1 0 (.int .i64 5))).1
  clear hb1 b1 HB0 b0 C
  go_wp2
  exact ⟨_, res13 _ _ 5 _ rfl B2.out, rfl, HB1.out.setCell (Nat.le_refl _) _⟩

/-- What Commit leaves, of a map that may be committed. -/
def ComPost (w : World) (q s : Nat) (F : Nat → Prop) (n : Nat) (old new : List Fl) (st0 : DS) (e : Ending) (w' : World) : Prop :=
  ∃ x : Int, e = .returned (.int .i64 x) ∧ Kp (fun y => F y ∨ y = q) w w' ∧ ∃ F' st', (∀ y, F' y → F y ∨ w.heap.size ≤ y) ∧ st'.cnt ≤ st0.cnt + halfN n + 1 ∧
    ((x = 0 ∧ SAt w' q s F' n new st' ∧ (st0.lim = none → st'.lim = none) ∧ st0.lim ≠ some 0) ∨
     (x = 8 ∧ DiskAt w' s F' st' ∧ st'.n = n ∧ st0.lim ≠ none ∧ Torn n old new st' ∧ (st0.lim = some 0 → st' = st0)))
theorem SAt.kpq {w w' : World} {q s : Nat} {F G : Nat → Prop} {n : Nat} {fs : List Fl} {st : DS} (h : SAt w q s F n fs st) (hk : Kp G w w') (hG : ∀ x, F x ∨ x = q → ¬ G x) : SAt w' q s F n fs st := by
  obtain ⟨hd, hnq, hlo, hqlo, n4, n64, hn, hp, a, k, hH, bq⟩ := h
  exact ⟨hd.kp hk (fun x hx => hG x (.inl hx)), hnq, hlo, hqlo, n4, n64, hn, hp, a, k, hH, hk.keep bq (hG q (.inr rfl))⟩

set_option maxRecDepth 100000 in
set_option maxHeartbeats 4000000 in
theorem commit_full (q s n : Nat) (F : Nat → Prop) (st0 : DS) (old new : List Fl) (A : Option Addr) (c : Nat) (w : World) (T : Tabs w) (hS : SAt w q s F n old st0) (hr : Rd w A new) (hg : Good new) (hx : 64 * halfN n < (filesL new).length) :
    Calls Tryz.prog 13 #[.pointer (some ⟨q, 0, none⟩), .slice A new.length c] w fun e w' => e = .returned (.int .i64 7) ∧ Below w.heap.size w w' := by
  have hlen : new.length ≤ 32 := hg.2.1
  have C := Lib.hid (right_any A c new (w.alloc (.cells #[.int .i64 0] 38)) (hr.alloc _) (by omega) hg.fit)
  rw [rightB_good hg] at C
  have C2 := Lib.hid (fun (w : World) (T : Tabs w) (h : Rd w A new) => files_any A c new w T h (Lib.hid (good_mild hg)) (by omega))
  have hbl : (filesL new).length ≤ 199999 := by have := good_bytes _ hg.2.2; omega
  generalize filesL new = text at *
  have hro := room_is hS.n4 hS.n64
  have hnum := hS.num
  have b0 := Lib.hid (Dsk.blk_new w (.cells #[.int .i64 0] 38))
  have HB0 := Lib.hid (one_below w (.cells #[.int .i64 0] 38))
  have HR := Lib.hid hr
  have HS := Lib.hid hS
  have HT := Lib.hid T
  have hgt : ((64 * halfN n : Nat) : Int) < (text.length : Int) := by omega
  clear hr hg hS T
  have hmf : ∀ (fn : Fn) (first cap : Array Value) (w : World), (Instr.makeFunc fn first cap).run Tryz.prog w = .ok (.func fn first cap) w := fun _ _ _ _ => rfl
  go_enter_defers Tryz.func13, Tryz.ntmps13
  go_wp2_with fail
  refine C.out.mono ?_
  rintro e w1 ⟨rfl, hb1⟩
  have HB1 := Lib.hid (bch HB0.out hb1)
  have b1 := Lib.hid (blk_below hb1 b0.out)
  clear hb1 b0 HB0 C
  go_wp2_with fail
  refine (C2.out w1 (HT.out.below HB1.out) (HR.out.below HB1.out)).mono ?_
  rintro e w2 ⟨rfl, hb2⟩
  have HB2 := Lib.hid (bch HB1.out hb2)
  have b2 := Lib.hid (blk_below hb2 b1.out)
  have HS2 := Lib.hid (HS.out.below HB2.out)
  obtain ⟨hh, kk, hH, bq⟩ := HS2.out.is
  have c0 : w2.cell? ⟨q, 0, none⟩ = some (.pointer (some ⟨s, 0, none⟩)) := Dsk.cell_of bq 0
  have C3 := Lib.hid (Dsk.len_disk HS2.out.disk)
  rw [hnum] at C3
  have C4 := Lib.hid (room_any n w2)
  rw [hro] at C4
  clear hb2 b1 HB1 C2 hH bq
  go_wp2_with fail
  refine C3.out.mono ?_
  rintro e w2 ⟨rfl, rfl⟩
  go_wp2_with fail
  refine C4.out.mono ?_
  rintro e w2 ⟨rfl, rfl⟩
  obtain ⟨c1, f1⟩ := told_cell b2.out
  have B2 : Hid ((w2.setCell ⟨w.heap.size, 0, none⟩ (.int .i64 7)).cell? ⟨w.heap.size, 0, none⟩ = some (.int .i64 7)) := (told_cell (x := 7) (Dsk.blk_set b2.out 0 (.int .i64 7))).1
  clear C3 C4
  go_wp2
  exact ⟨_, res13 _ _ 7 _ rfl B2.out, rfl, HB2.out.setCell (Nat.le_refl _) _⟩

set_option maxRecDepth 100000 in
set_option maxHeartbeats 4000000 in
theorem commit_good (q s n : Nat) (F : Nat → Prop) (st0 : DS) (old new : List Fl) (A : Option Addr) (c : Nat) (w : World) (T : Tabs w) (hS0 : SAt w q s F n old st0) (hr : Rd w A new) (hg : Good new) (hx : (filesL new).length ≤ 64 * halfN n) (hc : st0.cnt + halfN n + 1 < 1000) :
    Calls Tryz.prog 13 #[.pointer (some ⟨q, 0, none⟩), .slice A new.length c] w (ComPost w q s F n old new st0) := by
  have hS := hS0.within
  obtain ⟨F0, hF0⟩ : ∃ F0 : Nat → Prop, (fun x => F x ∧ x < w.heap.size) = F0 := ⟨_, rfl⟩
  rw [hF0] at hS
  have HF0 := Lib.hid (show ∀ x, F0 x → F x ∧ x < w.heap.size from fun x hx => by rw [← hF0] at hx; exact hx)
  have hlen : new.length ≤ 32 := hg.2.1
  have C := Lib.hid (right_any A c new (w.alloc (.cells #[.int .i64 0] 38)) (hr.alloc _) (by omega) hg.fit)
  rw [rightB_good hg] at C
  have C2 := Lib.hid (fun (w : World) (T : Tabs w) (h : Rd w A new) => files_any A c new w T h (Lib.hid (good_mild hg)) (by omega))
  have hbl : (filesL new).length ≤ 199999 := by have := good_bytes _ hg.2.2; omega
  obtain ⟨text, htx⟩ : ∃ text, filesL new = text := ⟨_, rfl⟩
  have C5 := Lib.hid (fun (w : World) (T : Tabs w) (h : SAt w q s F0 n old st0) => replace_any q s n F0 st0 old new text w T h htx hg (by rw [← htx]; exact hx) hc)
  rw [htx] at C2 hbl hx
  have hro := room_is hS.n4 hS.n64
  have hnum := hS.num
  have b0 := Lib.hid (Dsk.blk_new w (.cells #[.int .i64 0] 38))
  have HB0 := Lib.hid (one_below w (.cells #[.int .i64 0] 38))
  have HR := Lib.hid hr
  have HS := Lib.hid hS
  have HT := Lib.hid T
  have hqw : q < w.heap.size := by obtain ⟨_, _, _, bq⟩ := hS.is; exact Dsk.lt_of_blk bq
  have hgt : ¬ ((64 * halfN n : Nat) : Int) < (text.length : Int) := by omega
  clear hr hg hS T hS0 hF0 htx
  have hmf : ∀ (fn : Fn) (first cap : Array Value) (w : World), (Instr.makeFunc fn first cap).run Tryz.prog w = .ok (.func fn first cap) w := fun _ _ _ _ => rfl
  go_enter_defers Tryz.func13, Tryz.ntmps13
  go_wp2_with fail
  refine C.out.mono ?_
  rintro e w1 ⟨rfl, hb1⟩
  have HB1 := Lib.hid (bch HB0.out hb1)
  have b1 := Lib.hid (blk_below hb1 b0.out)
  clear hb1 b0 HB0 C
  go_wp2_with fail
  refine (C2.out w1 (HT.out.below HB1.out) (HR.out.below HB1.out)).mono ?_
  rintro e w2 ⟨rfl, hb2⟩
  have HB2 := Lib.hid (bch HB1.out hb2)
  have b2 := Lib.hid (blk_below hb2 b1.out)
  have HS2 := Lib.hid (HS.out.below HB2.out)
  obtain ⟨hh, kk, hH, bq⟩ := HS2.out.is
  have c0 : w2.cell? ⟨q, 0, none⟩ = some (.pointer (some ⟨s, 0, none⟩)) := Dsk.cell_of bq 0
  have C3 := Lib.hid (Dsk.len_disk HS2.out.disk)
  rw [hnum] at C3
  have C4 := Lib.hid (room_any n w2)
  rw [hro] at C4
  clear hb2 b1 HB1 C2 hH bq
  go_wp2_with fail
  refine C3.out.mono ?_
  rintro e w2 ⟨rfl, rfl⟩
  go_wp2_with fail
  refine C4.out.mono ?_
  rintro e w2 ⟨rfl, rfl⟩
  have T2 := Lib.hid (HT.out.below HB2.out)
  clear C3 C4 c0
  go_wp2_with fail
  refine (C5.out w2 T2.out HS2.out).mono ?_
  rintro e w3 ⟨hk3, F3, st3, hF3, hcnt, hway⟩
  have ht3 : w3.heap[w.heap.size]? = some (.cells #[.int .i64 0] 38) := hk3.keep b2.out (fun x => by rcases x with x | x; have := (HF0.out _ x).2; omega; omega)
  have H3 := Lib.hid (And.intro hk3 (And.intro hF3 hcnt))
  obtain ⟨c3, f3⟩ := told_cell ht3
  have HT3 := Lib.hid ht3
  clear hk3 hF3 hcnt ht3 C5 HS2 T2
  rcases hway with ⟨rfl, hw⟩ | ⟨rfl, hw⟩
  · have HW := Lib.hid hw
    clear hw
    have B4 : (w3.setCell ⟨w.heap.size, 0, none⟩ (.int .i64 0)).cell? ⟨w.heap.size, 0, none⟩ = some (.int .i64 0) := (told_cell (x := 0) (Dsk.blk_set HT3.out 0 (.int .i64 0))).1
    have HB4 := Lib.hid B4
    clear B4
    go_wp2
    refine leaves_cons (f := 27) (args := #[.pointer (some ⟨w.heap.size, 0, none⟩)]) (by simp) (by simp [go_sem]) ?_
    refine (catch_idle ⟨w.heap.size, 0, none⟩ _).mono ?_
    rintro e u' w'' ⟨rfl, rfl, rfl⟩
    have hs2 := HB2.out.size
    have ht2 := Dsk.lt_of_blk b2.out
    have nt : ¬ F3 w.heap.size := fun x => by
      rcases H3.out.2.1 _ x with p | p
      · have := (HF0.out _ p).2; omega
      · omega
    have hkp : Kp (fun y => F y ∨ y = q) w (w3.setCell ⟨w.heap.size, 0, none⟩ (.int .i64 0)) :=
      ((Kp.of_below HB2.out (fun y => F y ∨ y = q)).trans H3.out.1 (fun y _ hy => by rcases hy with hy | hy; exact .inl (HF0.out y hy).1; exact .inr hy)).setCell (.inr (Nat.le_refl _)) _
    have hk4 : Kp (· = w.heap.size) w3 (w3.setCell ⟨w.heap.size, 0, none⟩ (.int .i64 0)) := (Kp.refl (· = w.heap.size) w3).setCell (p := ⟨w.heap.size, 0, none⟩) (.inl rfl) _
    have hsub : ∀ y, F3 y → F y ∨ w.heap.size ≤ y := fun y hy => by
      rcases H3.out.2.1 y hy with p | p
      · exact .inl (HF0.out y p).1
      · exact .inr (by omega)
    exact ⟨_, res13 _ _ 0 _ rfl HB4.out, 0, rfl, hkp, F3, st3, hsub, H3.out.2.2, .inl ⟨rfl, HW.out.1.kpq hk4 (fun x hx e => by subst e; rcases hx with hx | hx; exact nt hx; omega), HW.out.2⟩⟩
  · have HW := Lib.hid hw
    clear hw
    have B4 : (w3.setCell ⟨w.heap.size, 0, none⟩ (.int .i64 8)).cell? ⟨w.heap.size, 0, none⟩ = some (.int .i64 8) := (told_cell (x := 8) (Dsk.blk_set HT3.out 0 (.int .i64 8))).1
    have HB4 := Lib.hid B4
    clear B4
    go_wp2
    refine leaves_cons (f := 27) (args := #[.pointer (some ⟨w.heap.size, 0, none⟩)]) (by simp) (by simp [go_sem]) ?_
    refine (catch_panicking ⟨w.heap.size, 0, none⟩ 0 [] w3 c3 f3).mono ?_
    rintro e u' w'' ⟨rfl, rfl, rfl⟩
    have hs2 := HB2.out.size
    have ht2 := Dsk.lt_of_blk b2.out
    have nt : ¬ F3 w.heap.size := fun x => by
      rcases H3.out.2.1 _ x with p | p
      · have := (HF0.out _ p).2; omega
      · omega
    have hkp : Kp (fun y => F y ∨ y = q) w (w3.setCell ⟨w.heap.size, 0, none⟩ (.int .i64 8)) :=
      ((Kp.of_below HB2.out (fun y => F y ∨ y = q)).trans H3.out.1 (fun y _ hy => by rcases hy with hy | hy; exact .inl (HF0.out y hy).1; exact .inr hy)).setCell (.inr (Nat.le_refl _)) _
    have hk4 : Kp (· = w.heap.size) w3 (w3.setCell ⟨w.heap.size, 0, none⟩ (.int .i64 8)) := (Kp.refl (· = w.heap.size) w3).setCell (p := ⟨w.heap.size, 0, none⟩) (.inl rfl) _
    have hsub : ∀ y, F3 y → F y ∨ w.heap.size ≤ y := fun y hy => by
      rcases H3.out.2.1 y hy with p | p
      · exact .inl (HF0.out y p).1
      · exact .inr (by omega)
    exact ⟨_, res13 _ _ 8 _ rfl HB4.out, 8, rfl, hkp, F3, st3, hsub, H3.out.2.2, .inr ⟨rfl, HW.out.1.kp hk4 (fun x hx e => by subst e; exact nt hx), HW.out.2⟩⟩
end Go.Proofs.YtmggpockikcjjaaGreatDoor

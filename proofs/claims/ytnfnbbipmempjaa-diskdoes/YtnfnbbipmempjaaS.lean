/-
  The contract of Do: one operation on a disk and on the document's disk, side by side: both tell and leave the same.
-/
import Derived.Test.YtnfnbbipmempjaaR
import Derived.Laws.BitsLemmas
namespace Go.Proofs.Ytnfnbbipmempjaa
open Go.RowKit

theorem and7_run (n : Int) : ∃ m : Int, (0 ≤ m ∧ m < 8) ∧ bits .and .i64 n 7 = m := by
  have h7 : (BitVec.ofInt 64 7).toNat = 2 ^ 3 - 1 := by decide
  have key : (BitVec.ofInt 64 n &&& BitVec.ofInt 64 7).toNat = (n % ((2 ^ 64 : Nat) : Int)).toNat % 2 ^ 3 := by
    rw [BitVec.toNat_and, BitVec.toNat_ofInt, h7, Nat.and_two_pow_sub_one_eq_mod]
  refine ⟨n % 8, by omega, ?_⟩
  show IntKind.i64.wrap ((BitVec.ofInt 64 n &&& BitVec.ofInt 64 7).toNat : Nat) = n % 8
  rw [key, IntKind.wrap_i64]
  omega
theorem DRP.rdB {G : Nat → Prop} {w0 w : World} {F0 : Nat → Prop} {d r : Nat} {sd sr : DS} (h : DRP G w0 w F0 d r sd sr) {B : Option Addr} {ks : List Bool} (hr : RdB w0 B ks) (hB : 0 < ks.length → ∀ b, rowB B = some b → ¬ F0 b ∧ b < w0.heap.size) : RdB w B ks :=
  hr.kp' h.1 (fun h0 b hb => (hB (by simpa [bcells] using h0) b hb).1)
theorem DRP.crashR {G : Nat → Prop} {w0 w : World} {F0 : Nat → Prop} {d r : Nat} {sd sr : DS} (h : DRP G w0 w F0 d r sd sr) (B : Option Addr) (cB : Nat) (ks : List Bool) (hr : RdB w0 B ks) (hks : ks.length ≤ 9223372036854775807) (hB : 0 < ks.length → ∀ b, rowB B = some b → ¬ F0 b ∧ b < w0.heap.size) :
    Calls Try.prog 16 #[.pointer (some ⟨r, 0, none⟩), .slice B ks.length cB] w (fun e w' => e = .returned (.tuple #[]) ∧ DRP G w0 w' F0 d r sd (crashS sr ks) ∧ ∀ x, G x → w'.heap[x]? = w.heap[x]?) :=
  h.stepR fun F hd hF => rcrash_disk B cB r ks F sr w hd (h.rdB hr hB) hks (fun h0 b hb hf => by
    obtain ⟨z1, z2⟩ := hB h0 b hb
    rcases hF b hf with q | q
    · exact z1 q
    · omega)
theorem DRP.crashD {G : Nat → Prop} {w0 w : World} {F0 : Nat → Prop} {d r : Nat} {sd sr : DS} (h : DRP G w0 w F0 d r sd sr) (B : Option Addr) (cB : Nat) (ks : List Bool) (hr : RdB w B ks) (hks : ks.length ≤ 9223372036854775807) :
    Calls Try.prog 15 #[.pointer (some ⟨d, 0, none⟩), .slice B ks.length cB] w (fun e w' => e = .returned (.tuple #[]) ∧ DRP G w0 w' F0 d r (crashS sd ks) sr ∧ ∀ x, G x → w'.heap[x]? = w.heap[x]?) :=
  h.stepD fun F hd => crash_disk B cB d ks F sd w hd hr hks
theorem DRP.pend {G : Nat → Prop} {w0 w : World} {F0 : Nat → Prop} {d r : Nat} {sd sr : DS} (h : DRP G w0 w F0 d r sd sr) : Calls Try.prog 19 #[.pointer (some ⟨d, 0, none⟩)] w fun e w' => e = .returned (.int .i64 sd.pend.length) ∧ w' = w := by
  obtain ⟨_, _, F, ⟨Fd, Fr, h1, _⟩, _⟩ := h
  exact pending_disk h1
theorem DRP.len {G : Nat → Prop} {w0 w : World} {F0 : Nat → Prop} {d r : Nat} {sd sr : DS} (h : DRP G w0 w F0 d r sd sr) : Calls Try.prog 22 #[.pointer (some ⟨d, 0, none⟩)] w fun e w' => e = .returned (.int .i64 sd.n) ∧ w' = w := by
  obtain ⟨_, _, F, ⟨Fd, Fr, h1, _⟩, _⟩ := h
  exact len_disk h1
theorem DRP.cells {G : Nat → Prop} {w0 w : World} {F0 : Nat → Prop} {d r : Nat} {sd sr : DS} (h : DRP G w0 w F0 d r sd sr) : (∃ L cL, w.cell? ⟨r, 0, none⟩ = some (.slice L sr.n cL)) ∧ ∃ W cW, w.cell? ⟨r, 1, none⟩ = some (.slice W sr.pend.length cW) := by
  obtain ⟨_, _, F, ⟨Fd, Fr, _, h2, _⟩, _⟩ := h
  exact h2.cells
theorem DRP.okD {G : Nat → Prop} {w0 w : World} {F0 : Nat → Prop} {d r : Nat} {sd sr : DS} (h : DRP G w0 w F0 d r sd sr) : Ok sd := by
  obtain ⟨_, _, F, h1, _⟩ := h
  exact h1.okD
theorem write_n (st : DS) (i0 : Int) (t : Tx) : (writeS st i0 t).n = st.n ∧ (writeS st i0 t).cnt ≤ st.cnt + 1 := by
  unfold writeS
  split
  · split
    · split
      · exact ⟨rfl, Nat.le_refl _⟩
      · exact ⟨rfl, Nat.le_succ _⟩
    · exact ⟨rfl, Nat.le_succ _⟩
  · exact ⟨rfl, Nat.le_succ _⟩
theorem sync_n (st : DS) : (syncS st).n = st.n ∧ (syncS st).cnt ≤ st.cnt + 1 := by
  unfold syncS
  split
  · exact ⟨rfl, Nat.le_succ _⟩
  · exact ⟨rfl, Nat.le_succ _⟩
def DoPost (d r : Nat) (F : Nat → Prop) (st : DS) (w : World) (e : Ending) (w' : World) : Prop := e = .returned (.int .i64 1) ∧ ∃ st', DRP (· = w.heap.size) w w' F d r st' st' ∧ st'.n = st.n ∧ st'.cnt ≤ st.cnt + 1

set_option maxRecDepth 100000 in
set_option maxHeartbeats 4000000 in
theorem do_any (d r : Nat) (F : Nat → Prop) (st : DS) (w : World) (h : DR w d r F st st) (K i0 : Int) (s : Tx) (B : Option Addr) (ks : List Bool) (cB : Nat) (hi1 : -9223372036854775808 ≤ i0) (hi2 : i0 ≤ 9223372036854775807) (hs : s.length ≤ 9223372036854775807)
    (hr : RdB w B ks) (hks : ks.length ≤ 9223372036854775807) (hB : 0 < ks.length → ∀ b, rowB B = some b → ¬ F b ∧ b < w.heap.size) (hc : st.cnt < 1000) :
    Calls Try.prog 13 #[.pointer (some ⟨d, 0, none⟩), .pointer (some ⟨r, 0, none⟩), .agg #[.int .i64 K, .int .i64 i0, .string ⟨s.toArray⟩, .slice B ks.length cB]] w (DoPost d r F st w) := by
  obtain ⟨m, hm, eA⟩ := and7_run K
  obtain ⟨c, t, HT, ht, e1, e2⟩ := cut_facts s 70 70 rfl
  have H0 := Lib.hid (DRP.start h (.cells #[.int .i64 K, .int .i64 i0, .string ⟨s.toArray⟩, .slice B ks.length cB] 36))
  have BX := Lib.hid (blk_new w (.cells #[.int .i64 K, .int .i64 i0, .string ⟨s.toArray⟩, .slice B ks.length cB] 36))
  have HR := Lib.hid hr
  have HB := Lib.hid hB
  clear h hr hB HT
  have hm2 : (m = 0 ∨ m = 1 ∨ m = 2) ∨ m = 3 ∨ m = 4 ∨ m = 5 ∨ (m = 6 ∨ m = 7) := by omega
  clear hm
  rcases hm2 with hm | hm | hm | hm | hm
  · obtain ⟨S, hS⟩ : ∃ S, writeS st i0 t = S := ⟨_, rfl⟩
    obtain ⟨Z, hZ⟩ : ∃ Z, writeE st i0 t = Z := ⟨_, rfl⟩
    have HN := Lib.hid (write_n st i0 t)
    have CA := Lib.hid (fun w9 sr (h9 : DRP (· = w.heap.size) w w9 F d r st sr) => h9.stepD (fun G hd => write_disk i0 d t G st w9 hd hc (by omega)))
    have CB := Lib.hid (fun w9 sd (h9 : DRP (· = w.heap.size) w w9 F d r sd st) => h9.stepR (fun G hd _ => rwrite_disk i0 r t G st w9 hd hc (by omega)))
    rw [hS] at HN
    rw [hS, hZ] at CA CB
    clear hS hZ
    have qz : (Z != Z) = false := by simp
    rcases hm with rfl | rfl | rfl
    all_goals
      go_enter Try.func13, Try.ntmps13
      go_wp2_with fail
      generalize w.alloc (.cells #[.int .i64 K, .int .i64 i0, .string ⟨s.toArray⟩, .slice B ks.length cB] 36) = w0 at *
      have H1 : Hid (DRP (· = w.heap.size) w w0.drew F d r st st) := H0.out.drew
      have c1 : w0.cell? ⟨w.heap.size, 1, none⟩ = some (.int .i64 i0) := cell_of BX.out 1
      go_region_held3 (fun w' => w'.cell? ⟨w.heap.size, 1, none⟩ = some (.int .i64 i0))
        (first
          | go_keep
          | exact cA
          | exact cB)
        (first
          | (go_at_call 17; (with_reducible refine (CA.out _ _ H1.out).mono ?_); rintro e wA ⟨rfl, hA, gA⟩; have bA := (gA _ rfl).trans BX.out; have cA : wA.cell? ⟨w.heap.size, 1, none⟩ = some (.int .i64 i0) := cell_of bA 1)
          | (go_at_call 25; (with_reducible refine (CB.out _ _ hA).mono ?_); rintro e wB ⟨rfl, hB, gB⟩; have bB := (gB _ rfl).trans bA; have cB : wB.cell? ⟨w.heap.size, 1, none⟩ = some (.int .i64 i0) := cell_of bB 1))
      have HZ := Lib.hid hB
      have BZ := Lib.hid bB
      clear hA gA bA hB gB bB H1 CA CB c1 cA
      have c1 := cB
      clear cB
      obtain ⟨T, hT⟩ : ∃ T, readS S i0 = T := ⟨_, rfl⟩
      obtain ⟨E, hE⟩ : ∃ E, readE S i0 = E := ⟨_, rfl⟩
      have C1 := Lib.hid (HZ.out.readD i0)
      have C2 := Lib.hid (HZ.out.readR i0)
      rw [hT, hE] at C1 C2
      have PD := Lib.hid (fun n => (HZ.out.drewN n).pend)
      have LD := Lib.hid (fun n => (HZ.out.drewN n).len)
      obtain ⟨⟨L, cL, cr0⟩, W, cW, cr1⟩ := HZ.out.cells
      have hok := HZ.out.okD
      have hn4 := hok.n
      have hp4 : S.pend.length ≤ 1000 := by have := hok.len; have := hok.cnt; omega
      obtain ⟨k, hk⟩ : ∃ k, S.pend.length = k := ⟨_, rfl⟩
      obtain ⟨n, hn⟩ : ∃ n, S.n = n := ⟨_, rfl⟩
      rw [hk] at PD cr1 hp4
      rw [hn] at LD cr0 hn4
      have q1 : ((k : Int) != (k : Int)) = false := by simp
      have q2 : ((n : Int) != (n : Int)) = false := by simp
      have q3 : (E != E) = false := by simp
      clear hT hE hok hk hn
      go_wp2_with fail
      refine C1.out.mono ?_
      rintro e w7 ⟨rfl, rfl⟩
      clear C1
      go_wp2_with fail
      refine C2.out.mono ?_
      rintro e w8 ⟨rfl, rfl⟩
      clear C2 c1 BZ
      go_wp2_with fail
      go_quiet (first | (go_at_call 19; exact Calls.quiet_of_same (PD.out _)) | (go_at_call 22; exact Calls.quiet_of_same (LD.out _)))
      go_wp2
      go_ret
      exact ⟨rfl, S, HZ.out.drewN _, HN.out.1, HN.out.2⟩
  · subst hm
    obtain ⟨S, hS⟩ : ∃ S, syncS st = S := ⟨_, rfl⟩
    obtain ⟨Z, hZ⟩ : ∃ Z, syncE st = Z := ⟨_, rfl⟩
    have HN := Lib.hid (sync_n st)
    have CA := Lib.hid (fun w9 sr (h9 : DRP (· = w.heap.size) w w9 F d r st sr) => h9.stepD (fun G hd => sync_disk d G st w9 hd))
    have CB := Lib.hid (fun w9 sd (h9 : DRP (· = w.heap.size) w w9 F d r sd st) => h9.stepR (fun G hd _ => rsync_disk r G st w9 hd))
    rw [hS] at HN
    rw [hS, hZ] at CA CB
    clear hS hZ
    have qz : (Z != Z) = false := by simp
    go_enter Try.func13, Try.ntmps13
    go_wp2_with fail
    generalize w.alloc (.cells #[.int .i64 K, .int .i64 i0, .string ⟨s.toArray⟩, .slice B ks.length cB] 36) = w0 at *
    refine (CA.out _ _ H0.out).mono ?_
    rintro e wA ⟨rfl, hA, gA⟩
    have HA := Lib.hid hA
    have BA := Lib.hid ((gA _ rfl).trans BX.out)
    clear hA gA CA
    go_wp2_with fail
    refine (CB.out _ _ HA.out).mono ?_
    rintro e wB ⟨rfl, hB, gB⟩
    have HZ := Lib.hid hB
    have BZ := Lib.hid ((gB _ rfl).trans BA.out)
    clear hB gB CB HA BA
    have c1 : wB.cell? ⟨w.heap.size, 1, none⟩ = some (.int .i64 i0) := cell_of BZ.out 1
    obtain ⟨T, hT⟩ : ∃ T, readS S i0 = T := ⟨_, rfl⟩
    obtain ⟨E, hE⟩ : ∃ E, readE S i0 = E := ⟨_, rfl⟩
    have C1 := Lib.hid (HZ.out.readD i0)
    have C2 := Lib.hid (HZ.out.readR i0)
    rw [hT, hE] at C1 C2
    have PD := Lib.hid (fun n => (HZ.out.drewN n).pend)
    have LD := Lib.hid (fun n => (HZ.out.drewN n).len)
    obtain ⟨⟨L, cL, cr0⟩, W, cW, cr1⟩ := HZ.out.cells
    have hok := HZ.out.okD
    have hn4 := hok.n
    have hp4 : S.pend.length ≤ 1000 := by have := hok.len; have := hok.cnt; omega
    obtain ⟨k, hk⟩ : ∃ k, S.pend.length = k := ⟨_, rfl⟩
    obtain ⟨n, hn⟩ : ∃ n, S.n = n := ⟨_, rfl⟩
    rw [hk] at PD cr1 hp4
    rw [hn] at LD cr0 hn4
    have q1 : ((k : Int) != (k : Int)) = false := by simp
    have q2 : ((n : Int) != (n : Int)) = false := by simp
    have q3 : (E != E) = false := by simp
    clear hT hE hok hk hn
    go_wp2_with fail
    refine C1.out.mono ?_
    rintro e w7 ⟨rfl, rfl⟩
    clear C1
    go_wp2_with fail
    refine C2.out.mono ?_
    rintro e w8 ⟨rfl, rfl⟩
    clear C2 c1 BZ
    go_wp2_with fail
    go_quiet (first | (go_at_call 19; exact Calls.quiet_of_same (PD.out _)) | (go_at_call 22; exact Calls.quiet_of_same (LD.out _)))
    go_wp2
    go_ret
    exact ⟨rfl, S, HZ.out.drewN _, HN.out.1, HN.out.2⟩
  · subst hm
    obtain ⟨S, hS⟩ : ∃ S, limitS st i0 = S := ⟨_, rfl⟩
    have HN : Hid (S.n = st.n ∧ S.cnt ≤ st.cnt + 1) := by rw [← hS]; exact Lib.hid ⟨rfl, Nat.le_succ _⟩
    have CA := Lib.hid (fun w9 sr (h9 : DRP (· = w.heap.size) w w9 F d r st sr) => h9.stepD (fun G hd => limit_disk d i0 G st w9 hd hi1 hi2))
    have CB := Lib.hid (fun w9 sd (h9 : DRP (· = w.heap.size) w w9 F d r sd st) => h9.stepR (fun G hd _ => rlimit_disk r i0 G st w9 hd hi2))
    rw [hS] at CA CB
    clear hS
    go_enter Try.func13, Try.ntmps13
    go_wp2_with fail
    generalize w.alloc (.cells #[.int .i64 K, .int .i64 i0, .string ⟨s.toArray⟩, .slice B ks.length cB] 36) = w0 at *
    refine (CA.out _ _ H0.out).mono ?_
    rintro e wA ⟨rfl, hA, gA⟩
    have HA := Lib.hid hA
    have BA := Lib.hid ((gA _ rfl).trans BX.out)
    have c1 : wA.cell? ⟨w.heap.size, 1, none⟩ = some (.int .i64 i0) := cell_of BA.out 1
    clear hA gA CA
    go_wp2_with fail
    refine (CB.out _ _ HA.out).mono ?_
    rintro e wB ⟨rfl, hB, gB⟩
    have HZ := Lib.hid hB
    have BZ := Lib.hid ((gB _ rfl).trans BA.out)
    clear hB gB CB HA BA c1
    have c1 : wB.cell? ⟨w.heap.size, 1, none⟩ = some (.int .i64 i0) := cell_of BZ.out 1
    obtain ⟨T, hT⟩ : ∃ T, readS S i0 = T := ⟨_, rfl⟩
    obtain ⟨E, hE⟩ : ∃ E, readE S i0 = E := ⟨_, rfl⟩
    have C1 := Lib.hid (HZ.out.readD i0)
    have C2 := Lib.hid (HZ.out.readR i0)
    rw [hT, hE] at C1 C2
    have PD := Lib.hid (fun n => (HZ.out.drewN n).pend)
    have LD := Lib.hid (fun n => (HZ.out.drewN n).len)
    obtain ⟨⟨L, cL, cr0⟩, W, cW, cr1⟩ := HZ.out.cells
    have hok := HZ.out.okD
    have hn4 := hok.n
    have hp4 : S.pend.length ≤ 1000 := by have := hok.len; have := hok.cnt; omega
    obtain ⟨k, hk⟩ : ∃ k, S.pend.length = k := ⟨_, rfl⟩
    obtain ⟨n, hn⟩ : ∃ n, S.n = n := ⟨_, rfl⟩
    rw [hk] at PD cr1 hp4
    rw [hn] at LD cr0 hn4
    have q1 : ((k : Int) != (k : Int)) = false := by simp
    have q2 : ((n : Int) != (n : Int)) = false := by simp
    have q3 : (E != E) = false := by simp
    clear hT hE hok hk hn
    go_wp2_with fail
    refine C1.out.mono ?_
    rintro e w7 ⟨rfl, rfl⟩
    clear C1
    go_wp2_with fail
    refine C2.out.mono ?_
    rintro e w8 ⟨rfl, rfl⟩
    clear C2 c1 BZ
    go_wp2_with fail
    go_quiet (first | (go_at_call 19; exact Calls.quiet_of_same (PD.out _)) | (go_at_call 22; exact Calls.quiet_of_same (LD.out _)))
    go_wp2
    go_ret
    exact ⟨rfl, S, HZ.out.drewN _, HN.out.1, HN.out.2⟩
  · subst hm
    obtain ⟨S, hS⟩ : ∃ S, crashS st ks = S := ⟨_, rfl⟩
    have HN : Hid (S.n = st.n ∧ S.cnt ≤ st.cnt + 1) := by rw [← hS]; exact Lib.hid ⟨rfl, Nat.le_succ _⟩
    have CA := Lib.hid (fun w9 sr (h9 : DRP (· = w.heap.size) w w9 F d r st sr) => h9.crashD B cB ks (h9.rdB HR.out HB.out) hks)
    have CB := Lib.hid (fun w9 sd (h9 : DRP (· = w.heap.size) w w9 F d r sd st) => h9.crashR B cB ks HR.out hks HB.out)
    rw [hS] at CA CB
    clear hS
    go_enter Try.func13, Try.ntmps13
    go_wp2_with fail
    generalize w.alloc (.cells #[.int .i64 K, .int .i64 i0, .string ⟨s.toArray⟩, .slice B ks.length cB] 36) = w0 at *
    refine (CA.out _ _ H0.out).mono ?_
    rintro e wA ⟨rfl, hA, gA⟩
    have HA := Lib.hid hA
    have BA := Lib.hid ((gA _ rfl).trans BX.out)
    have c3 : wA.cell? ⟨w.heap.size, 3, none⟩ = some (.slice B ks.length cB) := cell_of BA.out 3
    clear hA gA CA
    go_wp2_with fail
    refine (CB.out _ _ HA.out).mono ?_
    rintro e wB ⟨rfl, hB, gB⟩
    have HZ := Lib.hid hB
    have BZ := Lib.hid ((gB _ rfl).trans BA.out)
    clear hB gB CB HA BA c3
    have c1 : wB.cell? ⟨w.heap.size, 1, none⟩ = some (.int .i64 i0) := cell_of BZ.out 1
    obtain ⟨T, hT⟩ : ∃ T, readS S i0 = T := ⟨_, rfl⟩
    obtain ⟨E, hE⟩ : ∃ E, readE S i0 = E := ⟨_, rfl⟩
    have C1 := Lib.hid (HZ.out.readD i0)
    have C2 := Lib.hid (HZ.out.readR i0)
    rw [hT, hE] at C1 C2
    have PD := Lib.hid (fun n => (HZ.out.drewN n).pend)
    have LD := Lib.hid (fun n => (HZ.out.drewN n).len)
    obtain ⟨⟨L, cL, cr0⟩, W, cW, cr1⟩ := HZ.out.cells
    have hok := HZ.out.okD
    have hn4 := hok.n
    have hp4 : S.pend.length ≤ 1000 := by have := hok.len; have := hok.cnt; omega
    obtain ⟨k, hk⟩ : ∃ k, S.pend.length = k := ⟨_, rfl⟩
    obtain ⟨n, hn⟩ : ∃ n, S.n = n := ⟨_, rfl⟩
    rw [hk] at PD cr1 hp4
    rw [hn] at LD cr0 hn4
    have q1 : ((k : Int) != (k : Int)) = false := by simp
    have q2 : ((n : Int) != (n : Int)) = false := by simp
    have q3 : (E != E) = false := by simp
    clear hT hE hok hk hn
    go_wp2_with fail
    refine C1.out.mono ?_
    rintro e w7 ⟨rfl, rfl⟩
    clear C1
    go_wp2_with fail
    refine C2.out.mono ?_
    rintro e w8 ⟨rfl, rfl⟩
    clear C2 c1 BZ
    go_wp2_with fail
    go_quiet (first | (go_at_call 19; exact Calls.quiet_of_same (PD.out _)) | (go_at_call 22; exact Calls.quiet_of_same (LD.out _)))
    go_wp2
    go_ret
    exact ⟨rfl, S, HZ.out.drewN _, HN.out.1, HN.out.2⟩
  · obtain ⟨S, hS⟩ : ∃ S, st = S := ⟨_, rfl⟩
    have HN : Hid (S.n = st.n ∧ S.cnt ≤ st.cnt + 1) := by rw [← hS]; exact Lib.hid ⟨rfl, Nat.le_succ _⟩
    have HZ : Hid (DRP (· = w.heap.size) w (w.alloc (.cells #[.int .i64 K, .int .i64 i0, .string ⟨s.toArray⟩, .slice B ks.length cB] 36)) F d r S S) := by rw [← hS]; exact H0
    have BZ := BX
    have c1 : (w.alloc (.cells #[.int .i64 K, .int .i64 i0, .string ⟨s.toArray⟩, .slice B ks.length cB] 36)).cell? ⟨w.heap.size, 1, none⟩ = some (.int .i64 i0) := cell_of BZ.out 1
    clear hS
    rcases hm with rfl | rfl
    all_goals
      go_enter Try.func13, Try.ntmps13
      go_wp2_with fail
      generalize w.alloc (.cells #[.int .i64 K, .int .i64 i0, .string ⟨s.toArray⟩, .slice B ks.length cB] 36) = w0 at *
      obtain ⟨T, hT⟩ : ∃ T, readS S i0 = T := ⟨_, rfl⟩
      obtain ⟨E, hE⟩ : ∃ E, readE S i0 = E := ⟨_, rfl⟩
      have C1 := Lib.hid (HZ.out.readD i0)
      have C2 := Lib.hid (HZ.out.readR i0)
      rw [hT, hE] at C1 C2
      have PD := Lib.hid (fun n => (HZ.out.drewN n).pend)
      have LD := Lib.hid (fun n => (HZ.out.drewN n).len)
      obtain ⟨⟨L, cL, cr0⟩, W, cW, cr1⟩ := HZ.out.cells
      have hok := HZ.out.okD
      have hn4 := hok.n
      have hp4 : S.pend.length ≤ 1000 := by have := hok.len; have := hok.cnt; omega
      obtain ⟨k, hk⟩ : ∃ k, S.pend.length = k := ⟨_, rfl⟩
      obtain ⟨n, hn⟩ : ∃ n, S.n = n := ⟨_, rfl⟩
      rw [hk] at PD cr1 hp4
      rw [hn] at LD cr0 hn4
      have q1 : ((k : Int) != (k : Int)) = false := by simp
      have q2 : ((n : Int) != (n : Int)) = false := by simp
      have q3 : (E != E) = false := by simp
      clear hT hE hok hk hn
      refine C1.out.mono ?_
      rintro e w7 ⟨rfl, rfl⟩
      clear C1
      go_wp2_with fail
      refine C2.out.mono ?_
      rintro e w8 ⟨rfl, rfl⟩
      clear C2 c1 BZ
      go_wp2_with fail
      go_quiet (first | (go_at_call 19; exact Calls.quiet_of_same (PD.out _)) | (go_at_call 22; exact Calls.quiet_of_same (LD.out _)))
      go_wp2
      go_ret
      exact ⟨rfl, S, HZ.out.drewN _, HN.out.1, HN.out.2⟩
end Go.Proofs.Ytnfnbbipmempjaa

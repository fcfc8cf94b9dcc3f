/-
  Contracts of package disk's small functions: has, Len, Pending, Read, use, Limit, put, New.
-/
import Derived.Test.YtmggpockikcjjaaGreatDoorDA
import Derived.OwnWalk
namespace Go.Proofs.YtmggpockikcjjaaGreatDoor.Dsk
open Go.RowKit

theorem has_any (i0 : Int) (b n : Nat) (w : World) (c2 : w.cell? ⟨b, 2, none⟩ = some (.int .i64 n)) :
    Calls Tryz.prog 59 #[.pointer (some ⟨b, 0, none⟩), .int .i64 i0] w fun e w' => e = .returned (.bool (decide (0 ≤ i0) && decide (i0 < n))) ∧ w' = w := by
  by_cases h : 0 ≤ i0
  · go_enter Tryz.func59, Tryz.ntmps59
    go_wp2
    go_ret
    exact ⟨by simp [h], rfl⟩
  · go_enter Tryz.func59, Tryz.ntmps59
    go_wp2
    go_ret
    exact ⟨by simp; omega, rfl⟩
theorem len_any (b n : Nat) (w : World) (c2 : w.cell? ⟨b, 2, none⟩ = some (.int .i64 n)) :
    Calls Tryz.prog 22 #[.pointer (some ⟨b, 0, none⟩)] w fun e w' => e = .returned (.int .i64 n) ∧ w' = w := by
  go_enter Tryz.func22, Tryz.ntmps22
  go_wp2
  go_ret
  exact ⟨rfl, rfl⟩
theorem pending_any (b k c : Nat) (A : Option Addr) (w : World) (c5 : w.cell? ⟨b, 5, none⟩ = some (.slice A k c)) :
    Calls Tryz.prog 23 #[.pointer (some ⟨b, 0, none⟩)] w fun e w' => e = .returned (.int .i64 k) ∧ w' = w := by
  go_enter Tryz.func23, Tryz.ntmps23
  go_wp2
  go_ret
  exact ⟨rfl, rfl⟩
theorem limit_any (b : Nat) (n : Int) (x y : Value) (w : World) (c0 : w.cell? ⟨b, 0, none⟩ = some x) (c1 : w.cell? ⟨b, 1, none⟩ = some y) (f0 : w.frozen? ⟨b, 0, none⟩ = false) (f1 : w.frozen? ⟨b, 1, none⟩ = false) :
    Calls Tryz.prog 20 #[.pointer (some ⟨b, 0, none⟩), .int .i64 n] w fun e w' => e = .returned (.tuple #[]) ∧ w' = (w.setCell ⟨b, 0, none⟩ (.bool true)).setCell ⟨b, 1, none⟩ (.int .i64 n) := by
  go_enter Tryz.func20, Tryz.ntmps20
  go_wp2
  go_end0
  exact ⟨rfl, rfl⟩
def UsePost (b : Nat) (set : Bool) (left : Int) (w : World) (e : Ending) (w' : World) : Prop :=
  (set = false ∧ e = .returned (.bool true) ∧ w' = w) ∨ (set = true ∧ left < 1 ∧ e = .returned (.bool false) ∧ w' = w) ∨ (set = true ∧ 1 ≤ left ∧ e = .returned (.bool true) ∧ w' = w.setCell ⟨b, 1, none⟩ (.int .i64 (left - 1)))
theorem use_any (b : Nat) (set : Bool) (left : Int) (w : World) (c0 : w.cell? ⟨b, 0, none⟩ = some (.bool set)) (c1 : w.cell? ⟨b, 1, none⟩ = some (.int .i64 left)) (f1 : w.frozen? ⟨b, 1, none⟩ = false) (h1 : -9223372036854775808 ≤ left) (h2 : left ≤ 9223372036854775807) :
    Calls Tryz.prog 58 #[.pointer (some ⟨b, 0, none⟩)] w (UsePost b set left w) := by
  cases set
  · go_enter Tryz.func58, Tryz.ntmps58
    go_wp2
    go_ret
    exact .inl ⟨rfl, rfl, rfl⟩
  · by_cases h : left < 1
    · go_enter Tryz.func58, Tryz.ntmps58
      go_wp2
      go_ret
      exact .inr (.inl ⟨rfl, h, rfl, rfl⟩)
    · have hw : IntKind.i64.wrap (left - 1) = left - 1 := IntWalk.i64_in _ (by omega)
      go_enter Tryz.func58, Tryz.ntmps58
      go_wp2
      go_ret
      exact .inr (.inr ⟨rfl, by omega, rfl, by rfl⟩)
theorem put_any (m N j : Nat) (s : Tx) (f : Nat → Option Tx) (w : World) (hm : MapIs w m N f) (hj : j < 4096) (hs : s.length ≤ 64) (hN : N ≤ 100000) :
    Calls Tryz.prog 52 #[.map (some m), .agg #[.int .i64 j, .string ⟨s.toArray⟩]] w fun e w' => e = .returned (.tuple #[]) ∧ MapIs w' m (N + 1) (fun i => if j = i then some s else f i) ∧ Kp (· = m) w w' := by
  obtain ⟨w', hrun, hm', hg⟩ := (hm.alloc (.cells #[.int .i64 j, .string ⟨s.toArray⟩] 75)).store hj hs hN
  have H := Lib.hid (And.intro hm' (((Kp.refl (· = m) w).alloc (.cells #[.int .i64 j, .string ⟨s.toArray⟩] 75)).grown hg (fun k hk => .inl (Option.some.inj hk).symm)))
  clear hm' hg hm
  go_enter Tryz.func52, Tryz.ntmps52
  go_wp2
  go_end0
  exact ⟨rfl, H.out.1, H.out.2⟩

theorem dcell {w : World} {b n m1 m2 k c : Nat} {set : Bool} {left : Int} {A : Option Addr} (h : w.heap[b]? = some (.cells (dcells set left n m1 m2 A k c) 73)) :
    (w.cell? ⟨b, 0, none⟩ = some (.bool set) ∧ w.cell? ⟨b, 1, none⟩ = some (.int .i64 left) ∧ w.cell? ⟨b, 2, none⟩ = some (.int .i64 n) ∧ w.cell? ⟨b, 3, none⟩ = some (.map (some m1)) ∧ w.cell? ⟨b, 4, none⟩ = some (.map (some m2)) ∧ w.cell? ⟨b, 5, none⟩ = some (.slice A k c)) ∧ ∀ i, w.frozen? ⟨b, i, none⟩ = false :=
  ⟨⟨cell_of h 0, cell_of h 1, cell_of h 2, cell_of h 3, cell_of h 4, cell_of h 5⟩, frozen_of h⟩

set_option maxHeartbeats 400000 in
theorem read_any (i0 : Int) (s : Nat) (F : Nat → Prop) (st : DS) (w : World) (h : DiskAt w s F st) :
    Calls Tryz.prog 49 #[.pointer (some ⟨s, 0, none⟩), .int .i64 i0] w fun e w' => e = .returned (.tuple #[.string ⟨(readS st i0).toArray⟩, .int .i64 (readE st i0)]) ∧ w' = w := by
  obtain ⟨set, left, m1, m2, A, c, f1, f2, N1, N2, d⟩ := h
  obtain ⟨⟨_, _, c2, c3, c4, _⟩, _⟩ := dcell d.blk
  have C := has_any i0 s st.n w c2
  rw [show (decide (0 ≤ i0) && decide (i0 < st.n)) = hasB st i0 from rfl] at C
  have HC := Lib.hid C
  clear C
  cases hb : hasB st i0
  · rw [hb] at HC
    have e1 : readS st i0 = [] := by simp [readS, hb]
    have e2 : readE st i0 = 1 := by simp [readE, hb]
    rw [e1, e2]
    clear e1 e2 d c3 c4 hb
    go_enter Tryz.func49, Tryz.ntmps49
    go_wp2_with fail
    refine HC.out.mono ?_
    rintro e w' ⟨rfl, rfl⟩
    go_wp2
    go_ret2
    exact ⟨rfl, rfl⟩
  · rw [hb] at HC
    obtain ⟨h1, h2⟩ := hasB_is hb
    have hn := d.ok.n
    obtain ⟨i, rfl⟩ : ∃ i : Nat, i0 = i := ⟨i0.toNat, by omega⟩
    rw [Int.toNat_natCast] at h2
    have e2 : readE st i = 0 := by simp [readE, hb]
    have e1 : readS st i = doL st.base st.pend i := by simp [readS, hb]
    have L1 := d.syn.look (i := i) (by omega)
    have L2 := d.ahd.look_ok (i := i) (by omega)
    rw [d.la i] at L2
    rw [← d.bs i] at L1
    unfold doL at e1
    rw [e1, e2]
    clear e1 e2 d hb h1 h2 hn
    cases hl : lastOf st.pend i with
    | none =>
      rw [hl] at L2
      rw [Option.getD_none]
      generalize st.base i = t at *
      clear hl
      simp only [Option.getD_none, Option.isSome_none] at L2
      go_enter Tryz.func49, Tryz.ntmps49
      go_wp2_with fail
      refine HC.out.mono ?_
      rintro e w' ⟨rfl, rfl⟩
      go_wp2
      go_ret2
      exact ⟨rfl, rfl⟩
    | some t =>
      rw [hl] at L2
      rw [Option.getD_some]
      clear hl L1
      simp only [Option.getD_some, Option.isSome_some] at L2
      go_enter Tryz.func49, Tryz.ntmps49
      go_wp2_with fail
      refine HC.out.mono ?_
      rintro e w' ⟨rfl, rfl⟩
      go_wp2
      go_ret2
      exact ⟨rfl, rfl⟩

theorem new_bad (i0 : Int) (w : World) (h : ¬ (1 ≤ i0 ∧ i0 ≤ 4096)) :
    Calls Tryz.prog 21 #[.int .i64 i0] w fun e w' => e = .returned (.tuple #[.pointer none, .int .i64 1]) ∧ w' = w := by
  by_cases h1 : i0 < 1
  · go_enter Tryz.func21, Tryz.ntmps21
    go_wp2
    go_ret2
    exact ⟨rfl, rfl⟩
  · have h2 : 4096 < i0 := by omega
    go_enter Tryz.func21, Tryz.ntmps21
    go_wp2
    go_ret2
    exact ⟨rfl, rfl⟩
theorem new_any (n : Nat) (w : World) (h1 : 1 ≤ n) (h2 : n ≤ 4096) :
    Calls Tryz.prog 21 #[.int .i64 n] w fun e w' => e = .returned (.tuple #[.pointer (some ⟨w.heap.size + 2, 0, none⟩), .int .i64 0]) ∧ Below w.heap.size w w' ∧ DiskAt w' (w.heap.size + 2) (fun x => w.heap.size ≤ x ∧ x < w'.heap.size) (newS n) := by
  have hmm := @run_makeMap Tryz.prog
  go_enter Tryz.func21, Tryz.ntmps21
  go_wp2
  go_ret2
  refine ⟨by simp, ?_, ?_⟩
  · exact (((Below.refl _ w).alloc (Nat.le_refl _) _).alloc (by simp) _).alloc (by simp; omega) _
  · refine ⟨false, 0, w.heap.size, w.heap.size + 1, none, 0, fun _ => none, fun _ => none, 0, 0, ?_⟩
    have hs1 : (w.alloc (.map #[] 0)).heap.size = w.heap.size + 1 := by simp
    have hs2 : ((w.alloc (.map #[] 0)).alloc (.map #[] 0)).heap.size = w.heap.size + 2 := by simp
    have b1 := MapIs.made w
    have b2 := MapIs.made (w.alloc (.map #[] 0))
    rw [hs1] at b2
    refine ⟨?_, .inl ⟨rfl, rfl⟩, by omega, by omega, (b1.alloc _).alloc _, b2.alloc _, by omega, fun _ => rfl, fun _ => rfl, World.ownsRow_nil _ _ _ _, by simp, by simp; omega, by simp, fun b hb => by simp [rowB] at hb, by simp [newS], by simp [newS], Ok.new n h2⟩
    have := blk_new ((w.alloc (.map #[] 0)).alloc (.map #[] 0)) (.cells (dcells false 0 n w.heap.size (w.heap.size + 1) none 0 0) 73)
    rw [hs2] at this
    exact this
end Go.Proofs.YtmggpockikcjjaaGreatDoor.Dsk

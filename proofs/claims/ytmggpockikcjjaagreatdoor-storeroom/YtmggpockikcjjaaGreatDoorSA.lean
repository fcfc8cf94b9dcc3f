/-
  Contracts of store.must, store.half, store.Room and the document's Room.
-/
import Derived.Test.YtmggpockikcjjaaGreatDoorDF
import Derived.Test.YtmggpockikcjjaaGreatDoorSM
import Derived.WalkSpells
namespace Go.Proofs.YtmggpockikcjjaaGreatDoor
open Go.RowKit

def pan8 : List PanicEntry := [{ v := .iface 38 (.int .i64 8), recovered := false }]
theorem must_ok (w : World) : Calls Tryz.prog 40 #[.int .i64 0] w fun e w' => e = .returned (.tuple #[]) ∧ w' = w := by
  go_enter Tryz.func40, Tryz.ntmps40
  go_wp2
  go_end0
  exact ⟨rfl, rfl⟩
theorem must_dead (w : World) : Calls Tryz.prog 40 #[.int .i64 8] w fun e w' => e = .panicked pan8 ∧ w' = w := by
  go_enter Tryz.func40, Tryz.ntmps40
  go_wp2
  exact ⟨rfl, rfl, rfl⟩
theorem half_le {m : Nat} (h : m ≤ 4096) : halfN m ≤ 2047 := by unfold halfN; omega
theorem half_any (n : Nat) (w : World) (h2 : 2 ≤ n) (h : n ≤ 4096) : Calls Tryz.prog 24 #[.int .i64 n] w fun e w' => e = .returned (.int .i64 (halfN n)) ∧ w' = w := by
  have e1 : ((n : Int) - 2).tdiv 2 = ((halfN n : Nat) : Int) := by
    rw [Int.tdiv_eq_ediv_of_nonneg (by omega)]; unfold halfN; omega
  have hk := half_le h
  generalize halfN n = k at *
  go_enter Tryz.func24, Tryz.ntmps24
  go_wp2
  go_ret
  exact ⟨by first | rfl | (rw [← e1]; rfl) | (simp [e1]), rfl⟩
def roomZ (x : Int) : Nat := roomN x.toNat
theorem roomZ_low {x : Int} (h : x < 4) : roomZ x = 0 := by unfold roomZ roomN; rw [if_pos (by omega)]
theorem roomZ_high {x : Int} (h : 4 ≤ x) (m : Nat) (hm : min x 4096 = m) : roomZ x = 64 * halfN m := by
  unfold roomZ roomN; rw [if_neg (by omega), show min x.toNat 4096 = m by omega]
theorem min_run0 (a k : Int) (c : Nat) (hc : min a k = c) (ts : Array TypeId) (t : TypeId) (w : World) : (Builtin.min_ ts t #[.int .i64 a, .int .i64 k]).run Tryz.prog w = .ok (.int .i64 c) w := by
  by_cases h : k < a
  · have : k = c := by omega
    subst this
    simp [Builtin.min_, Builtin.min2]
    omega
  · have : a = c := by omega
    subst this
    simp [Builtin.min_, Builtin.min2]
    omega
theorem room_any (x : Int) (w : World) : Calls Tryz.prog 10 #[.int .i64 x] w fun e w' => e = .returned (.int .i64 (roomZ x)) ∧ w' = w := by
  by_cases h : x < 4
  · rw [roomZ_low h]
    go_enter Tryz.func10, Tryz.ntmps10
    go_wp2
    go_ret
    exact ⟨rfl, rfl⟩
  · obtain ⟨m, hm⟩ : ∃ m : Nat, min x 4096 = m := ⟨(min x 4096).toNat, by omega⟩
    rw [roomZ_high (by omega) m hm]
    have e1 := min_run0 x 4096 m hm
    have C := Lib.hid (half_any m w (by omega) (by omega))
    have hk := half_le (m := m) (by omega)
    generalize halfN m = k at *
    clear hm
    go_enter Tryz.func10, Tryz.ntmps10
    go_wp2_with fail
    refine C.out.mono ?_
    rintro e w' ⟨rfl, rfl⟩
    go_wp2
    go_ret
    exact ⟨by rfl, rfl⟩
theorem rroom_any (x : Int) (w : World) : Calls Tryz.prog 11 #[.int .i64 x] w fun e w' => e = .returned (.int .i64 (roomZ x)) ∧ w' = w := by
  by_cases h : x < 4
  · rw [roomZ_low h]
    go_enter Tryz.func11, Tryz.ntmps11
    go_wp2
    go_ret
    exact ⟨rfl, rfl⟩
  · obtain ⟨m, hm⟩ : ∃ m : Nat, min x 4096 = m := ⟨(min x 4096).toNat, by omega⟩
    rw [roomZ_high (by omega) m hm]
    have e1 := min_run0 x 4096 m hm
    have hk := half_le (m := m) (by omega)
    have h2 : 2 ≤ m := by omega
    have h3 : m ≤ 4096 := by omega
    have e2 : ((m : Int) - 2).tdiv 2 = ((halfN m : Nat) : Int) := by
      rw [Int.tdiv_eq_ediv_of_nonneg (by omega)]; unfold halfN; omega
    generalize halfN m = k at *
    clear hm
    go_enter Tryz.func11, Tryz.ntmps11
    go_wp2
    go_ret
    exact ⟨by first | rfl | (rw [← e2]; rfl) | (simp [e2]), rfl⟩
end Go.Proofs.YtmggpockikcjjaaGreatDoor

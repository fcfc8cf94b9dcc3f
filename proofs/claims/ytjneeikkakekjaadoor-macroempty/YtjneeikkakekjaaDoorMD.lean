/-
  Contracts of the document's own answers of layer 7: Lists, Named.
-/
import Derived.Test.YtjneeikkakekjaaDoorMC
import Derived.BigQuiet
namespace Go.Proofs.YtjneeikkakekjaaDoor
open Go.RowKit

theorem quiet_draws {P : Program} {f : FuncId} {args : Array Value} {w : World} {n : Nat} {v : Value}
    (h : Calls P f args (w.drewN n) fun e w' => e = .returned v ∧ ∃ m, w' = (w.drewN n).drewN m) : Calls P f args (w.drewN n) fun e w'' => e = .returned v ∧ ∃ m, w'' = w.drewN m :=
  h.mono fun _ _ ⟨he, _, hm⟩ => ⟨he, _, hm.trans (World.drewN_drewN _ _ _)⟩
set_option maxRecDepth 100000 in
set_option maxHeartbeats 2000000 in
theorem rlists_any (A B : Option Addr) (c d : Nat) (fs gs : List (List Tok)) (w : World) (hr : RdL w A fs) (hq : RdL w B gs) (hc : fs.length ≤ 10000) (hd : gs.length ≤ 10000) (hf : Hid (∀ l ∈ fs, l.length ≤ 200000)) (hg : Hid (∀ l ∈ gs, l.length ≤ 200000)) :
    Calls Tryd.prog 15 #[.slice A fs.length c, .slice B gs.length d] w fun e w' => e = .returned (.bool (decide (fs = gs))) ∧ ∃ n, w' = w.drewN n := by
  by_cases hl : fs.length = gs.length
  · have q : ((fs.length : Int) != (gs.length : Int)) = false := by simp [hl]
    have HL := Lib.hid hl
    clear hl
    go_enter Tryd.func15, Tryd.ntmps15
    go_wp2
    go_loopw [5] (fun i wr => ∃ k m : Nat, k ≤ fs.length ∧ i = .int .i64 k ∧ fs.take k = gs.take k ∧ wr = w.drewN m) (fun i _ => fs.length - (intOf i).toNat)
    case atStart => exact ⟨0, 0, Nat.zero_le _, rfl, by simp, rfl⟩
    case round =>
      obtain ⟨k, m, hk, rfl, hall, hwr⟩ := hrel
      have Hall := Lib.hid hall
      have HW := Lib.hid hwr
      replace hr : RdL wr A fs := by rw [hwr]; exact hr
      replace hq : RdL wr B gs := by rw [hwr]; exact hq
      clear hall hwr
      by_cases hlt : k < fs.length
      · have hlt2 : k < gs.length := by rw [← HL.out]; exact hlt
        obtain ⟨b, o, rfl, hcell⟩ := hr (by omega)
        obtain ⟨b2, o2, rfl, hcell2⟩ := hq (by omega)
        obtain ⟨x, hx⟩ : ∃ x, fs[k]? = some x := ⟨_, List.getElem?_eq_getElem hlt⟩
        obtain ⟨y, hy⟩ : ∃ y, gs[k]? = some y := ⟨_, List.getElem?_eq_getElem hlt2⟩
        obtain ⟨X, cx, c1, rx⟩ := hcell k x hx
        obtain ⟨Y, cy, e1, ry⟩ := hcell2 k y hy
        have lx := hf.out x (List.mem_of_getElem? hx)
        have ly := hg.out y (List.mem_of_getElem? hy)
        have SS := Lib.hid (fun n => same_any X Y cx cy x y (wr.drewN n) rx ry lx ly)
        have HX := Lib.hid hx
        have HY := Lib.hid hy
        clear hx hcell hr hy hcell2 hq rx ry
        have i1 : (k : Int) < (fs.length : Int) := by omega
        have i2 : (k : Int) < (gs.length : Int) := by omega
        by_cases hxy : x = y
        · have HE := Lib.hid hxy
          rw [decide_eq_true hxy] at SS
          clear hxy
          go_wp2_with fail
          go_quiet ((go_at_call 20; exact quiet_draws (SS.out _)))
          go_wp2
          go_roundw
          case rel => exact ⟨k + 1, _, by omega, by go_num, eq_step HX.out HY.out HE.out Hall.out, by rw [HW.out, World.drewN_drewN]⟩
          case measure => simp [intOf]; omega
        · have HE := Lib.hid hxy
          rw [decide_eq_false hxy] at SS
          clear hxy
          go_wp2_with fail
          go_quiet ((go_at_call 20; exact quiet_draws (SS.out _)))
          go_wp2
          go_ret
          exact ⟨ret_bool (eq_stop HX.out HY.out HE.out), _, by rw [HW.out, World.drewN_drewN]⟩
      · go_wp2
        go_ret
        exact ⟨ret_bool (eq_end (by omega) (by rw [← HL.out]; omega) Hall.out), _, HW.out⟩
  · have q : ((fs.length : Int) != (gs.length : Int)) = true := by simp; omega
    have HL := Lib.hid hl
    clear hl
    go_enter Tryd.func15, Tryd.ntmps15
    go_wp2
    go_ret
    exact ⟨ret_bool (eq_len HL.out), 0, rfl⟩
/-- A macro's name. -/
def nameB (s : By) : Bool := s.all ltr && decide (1 ≤ s.length ∧ s.length ≤ 20)
theorem name_stop {s : By} {k : Nat} {c : UInt8} (h : s[k]? = some c) (hc : ltr c = false) : nameB s = false := by
  unfold nameB
  cases hv : s.all ltr with
  | false => rfl
  | true =>
    rw [List.all_eq_true] at hv
    have := hv c (List.mem_of_getElem? h)
    rw [hc] at this; cases this
set_option maxRecDepth 100000 in
set_option maxHeartbeats 2000000 in
theorem rnamed_any (s : ByteArray) (w : World) (hs : s.size ≤ 4611686018427387904) :
    Calls Tryd.prog 49 #[.string s] w fun e w' => e = .returned (.bool (nameB s.data.toList)) ∧ w = w' := by
  obtain ⟨V, hV⟩ : ∃ V, nameB s.data.toList = V := ⟨_, rfl⟩
  rw [hV]
  have HV := Lib.hid hV
  clear hV
  go_enter Tryd.func49, Tryd.ntmps49
  go_wp2
  go_loop [3] (fun i => ∃ k : Nat, k ≤ s.size ∧ i = .int .i64 k ∧ Hid ((s.data.toList.take k).all ltr = true)) (fun i => s.size - (intOf i).toNat)
  case atStart => exact ⟨0, Nat.zero_le _, rfl, Lib.hid rfl⟩
  case round =>
    obtain ⟨k, hk, rfl, HA⟩ := hrel
    by_cases hlt : k < s.size
    · have HS := take_step s k hlt
      have hat : s.data.toList[k]? = some s[k] := List.getElem?_eq_getElem (by rw [size_list]; exact hlt)
      have hli := ltr_int s[k]
      obtain ⟨x, hx⟩ : ∃ x : Int, (s[k].toNat : Int) = x := ⟨_, rfl⟩
      rw [hx] at hli
      have i1 : (k : Int) < (s.size : Int) := by omega
      rcases ltr_ways x with ⟨h1, h2, h⟩ | ⟨h1, h⟩ | ⟨h1, h2, h⟩ | ⟨h1, h2, h⟩ | ⟨h1, h⟩
      all_goals
        rw [h] at hli
        try (have d1 : decide (x ≤ 122) = false := decide_eq_false (by omega))
        try (have d2 : decide (x ≤ 90) = false := decide_eq_false (by omega))
      · have HN := Lib.hid (show (s.data.toList.take (k + 1)).all ltr = true by rw [HS, List.all_append, HA.out]; simp [hli])
        clear HS hat hli HA h
        go_wp2
        go_round
        case rel => exact ⟨k + 1, by omega, by go_num, HN⟩
        case measure => simp [intOf]; omega
      · have HE := Lib.hid ((name_stop hat hli).symm.trans HV.out)
        clear HS hat hli HA h
        go_wp2
        go_ret
        exact ⟨ret_bool HE.out, rfl⟩
      · have HE := Lib.hid ((name_stop hat hli).symm.trans HV.out)
        clear HS hat hli HA h
        go_wp2
        go_ret
        exact ⟨ret_bool HE.out, rfl⟩
      · have HN := Lib.hid (show (s.data.toList.take (k + 1)).all ltr = true by rw [HS, List.all_append, HA.out]; simp [hli])
        clear HS hat hli HA h
        go_wp2
        go_round
        case rel => exact ⟨k + 1, by omega, by go_num, HN⟩
        case measure => simp [intOf]; omega
      · have HE := Lib.hid ((name_stop hat hli).symm.trans HV.out)
        clear HS hat hli HA h
        go_wp2
        go_ret
        exact ⟨ret_bool HE.out, rfl⟩
    · have hfin := HA.out
      rw [List.take_of_length_le (by rw [size_list]; omega)] at hfin
      have i1 : ¬ (k : Int) < (s.size : Int) := by omega
      have HE := Lib.hid (show decide (1 ≤ s.size ∧ s.size ≤ 20) = V by rw [← HV.out]; unfold nameB; rw [hfin, size_list]; simp)
      clear hfin HA
      by_cases h1 : 1 ≤ s.size
      · by_cases h2 : s.size ≤ 20
        · rw [decide_eq_true ⟨h1, h2⟩] at HE
          go_wp2
          go_ret
          exact ⟨ret_bool ((decide_eq_true (by omega)).trans HE.out), rfl⟩
        · rw [decide_eq_false (fun h => h2 h.2)] at HE
          go_wp2
          go_ret
          exact ⟨ret_bool ((decide_eq_false (by omega)).trans HE.out), rfl⟩
      · rw [decide_eq_false (fun h => h1 h.1)] at HE
        go_wp2
        go_ret
        exact ⟨ret_bool HE.out, rfl⟩
end Go.Proofs.YtjneeikkakekjaaDoor

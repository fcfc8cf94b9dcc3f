/-
  The walk of WireOnce: for every input it returns true; old memory stays.
-/
import Derived.Test.YthiojbfhodnlgaaDoorL
import Derived.BigQuiet
import Derived.Deep.RegionHeld3
namespace Go.Proofs.YthiojbfhodnlgaaDoor
open Go.RowKit

/-- One operation of a drawn region taken first, where its slot is known. -/
theorem takeD {P : Program} {ops : Array Oper} {Q : Exit → Act → World → Prop} {md : Region.Mode} {S : World → Prop} {i d : Nat} {oi : Oper} {v : Value} {fuel : Nat} {listed : Array Bool} {a : Act} {w : World} (hi : ops[i]? = some oi) (hd : oi.dst = some d)
    (hs : Region.noSelect ops = true) (hf : Region.free md ops listed i = true) (hr : (Region.ready md ops listed).contains i = true)
    (hQ : ∀ c a w, Q (.panic c) (a.put (some d) v) w → Q (.panic c) a w) (hy : YieldsIf P ops S oi v a) (hS : S w)
    (h : wpAnyH P md ops Q S fuel (listed.setIfInBounds i true) (a.put (some d) v) w) : wpAnyH P md ops Q S (fuel + 1) listed a w :=
  wpAnyH_take hi hs hf hr (by rw [hd]; exact hQ) hy hS (by rw [hd]; exact h)

/-- What the law asks of two texts and their bytes. -/
theorem once_free {s t d : List UInt8} (hs : s.length ≤ 999999) (ht : t.length ≤ 999999) (h : s ≠ t) (hd : (wputL t).take (wputL s).length = d) : d ≠ wputL s := by
  intro e
  refine h (wput_free (x := (wputL t).drop (wputL s).length) hs ht ?_)
  rw [← e, ← hd]
  have hl : (wputL t).take (wputL s).length = wputL s := by rw [hd, e]
  rw [hl]
  conv => lhs; rw [← List.take_append_drop (wputL s).length (wputL t), hl]

set_option maxRecDepth 100000 in
set_option maxHeartbeats 8000000 in
theorem wireOnce_any (s0 t0 : List UInt8) (n : Nat) (w : World) (T : Tabs w) (hn : n < 256) :
    Calls Tryd.prog 6 #[.string ⟨s0.toArray⟩, .string ⟨t0.toArray⟩, .int .u8 n] w fun e w' => e = .returned (.bool true) ∧ Below w.heap.size w w' := by
  obtain ⟨c, s, HS, hs, e1, e2⟩ := cut_facts s0 200 200 rfl
  obtain ⟨c', t, HT, ht, e3, e4⟩ := cut_facts t0 200 200 rfl
  have C1 := Lib.hid (get_any s 0 999999 w T (by omega))
  have C7 := Lib.hid (fun (w : World) (T : Tabs w) => wput_any s w T (by omega))
  have C8 := Lib.hid (fun (w : World) (T : Tabs w) => wput_any t w T (by omega))
  have l3 := wput_len3 s
  have m3 := wput_len3 t
  have lm := wput_mild (s := s) (by omega)
  have mm := wput_mild (s := t) (by omega)
  obtain ⟨j, hj⟩ : ∃ j, n % (wputL s).length = j := ⟨_, rfl⟩
  have hjl : j < (wputL s).length := by rw [← hj]; exact Nat.mod_lt _ (by omega)
  obtain ⟨q, hq⟩ : ∃ q, (wputL s).take j = q := ⟨_, rfl⟩
  have hql : q.length ≤ 2000000 := by rw [← hq, List.length_take]; omega
  have e5 := cut_str (wputL s) q j (by omega) hq
  have C9 := Lib.hid (fun (w : World) (T : Tabs w) => get_any q 0 999999 w T (by omega))
  have hE9 : getE q 0 999999 = 6 := by
    have := getE_in (s := q) (k := 0) (most := 999999) (Nat.zero_le _)
    rw [show (((0 : Nat) : Int)) = 0 from rfl] at this
    rw [this, List.drop_zero, ← hq, show (999999 : Int).toNat = 999999 from rfl, got_cut s j 999999 (by omega) (by omega) hjl]
  have hR9 := getR_bad (s := q) (p := 0) (most := 999999) (by rw [hE9]; decide)
  rw [hE9] at hR9
  rw [hR9] at C9
  have hji : (n : Int) % ((wputL s).length : Int) = (j : Int) := by rw [← hj]; omega
  obtain ⟨d, hd⟩ : ∃ d, (wputL t).take (wputL s).length = d := ⟨_, rfl⟩
  have HF := Lib.hid (fun h : s ≠ t => once_free (by omega) (by omega) h hd)
  have HI := Lib.hid (fun h : s ≠ t => fun e : wputL s = wputL t => h (wput_inj (by omega) (by omega) e))
  have E6 := Lib.hid (fun h : (wputL s).length ≤ (wputL t).length => cut_str (wputL t) d (wputL s).length h hd)
  have HEQ := Lib.hid (fun h : s = t => congrArg wputL h)
  have hG : (gotL s 999999).1 = 0 ∨ (gotL s 999999).1 ≠ 0 := Classical.em _
  have hgd : gotL (s.drop 0) (999999 : Int).toNat = gotL s 999999 := by rw [List.drop_zero]; rfl
  rcases hG with hG | hG
  · obtain ⟨u, hu⟩ : ∃ u, (gotL s 999999).2.1 = u := ⟨_, rfl⟩
    obtain ⟨r, hr⟩ : ∃ r, (gotL s 999999).2.2 = r := ⟨_, rfl⟩
    have hg : gotL s 999999 = (0, u, r) := by rw [← hu, ← hr, ← hG]
    obtain ⟨g1, g2, _⟩ := got_is hg
    have hR := getR_ok (most := 999999) (Nat.zero_le s.length) (hgd.trans hg)
    rw [show (((0 : Nat) : Int)) = 0 from rfl] at hR
    rw [hR] at C1
    obtain ⟨K, hK⟩ : ∃ K, s.length - r.length = K := ⟨_, rfl⟩
    rw [hK] at C1
    have hl := congrArg List.length g1
    rw [List.length_append] at hl
    have u3 := wput_len3 u
    have hK2 : K = (wputL u).length := by omega
    have e7 := cut_str s (wputL u) K (by omega) (by rw [hK2, g1]; simp)
    have CU := Lib.hid (fun (w : World) (T : Tabs w) => wput_any u w T g2)
    have i1 : (1 : Int) ≤ (K : Int) := by omega
    have i2 : (K : Int) ≤ (s.length : Int) := by omega
    have d1 : decide ((K : Int) < 1) = false := decide_eq_false (by omega)
    have d2 : decide (s.length < K) = false := decide_eq_false (by omega)
    clear hK2 hK hu hr hg g1 g2 hR hl u3 hG hgd
    generalize wputL u = pu at *
    have d3 : (pu != pu) = false := by simp
    have d4 : (pu == pu) = true := by simp
    generalize wputL s = pa at *
    generalize wputL t = pb at *
    clear hj hq hd hE9 hR9
    have T0 := T
    go_enter Tryd.func6, Tryd.ntmps6
    go_wp2_with fail
    refine C1.out.mono ?_
    rintro e w1 ⟨rfl, hb⟩
    replace T0 := T0.below hb
    go_wp2_with fail
    refine wp_region_held_drew (S := fun _ => True) (by kernel_rfl) trivial (fun hHeld => ?_)
    refine takeD (i := 0) (d := 31) (v := .int .i64 0) rfl (by kernel_rfl) (by kernel_rfl) (by kernel_rfl) (by kernel_rfl) (fun _ _ _ h => h) (Or.inl ⟨by kernel_rfl, fun w _ => by go_simp⟩) trivial ?_
    simp only [Act.put, List.setIfInBounds_toArray, List.set_cons_zero, List.set_cons_succ]
    refine takeD (i := 1) (d := 32) (v := .bool true) rfl (by kernel_rfl) (by kernel_rfl) (by kernel_rfl) (by kernel_rfl) (fun _ _ _ h => h) (Or.inl ⟨by kernel_rfl, fun w _ => by go_simp⟩) trivial ?_
    simp only [Act.put, List.setIfInBounds_toArray, List.set_cons_zero, List.set_cons_succ]
    refine takeD (i := 2) (d := 33) (v := .bool true) rfl (by kernel_rfl) (by kernel_rfl) (by kernel_rfl) (by kernel_rfl) (fun _ _ _ h => h) (Or.inl ⟨by kernel_rfl, fun w _ => by go_simp⟩) trivial ?_
    simp only [Act.put, List.setIfInBounds_toArray, List.set_cons_zero, List.set_cons_succ]
    refine takeD (i := 3) (d := 34) (v := .int .i64 K) rfl (by kernel_rfl) (by kernel_rfl) (by kernel_rfl) (by kernel_rfl) (fun _ _ _ h => h) (Or.inl ⟨by kernel_rfl, fun w _ => by go_simp⟩) trivial ?_
    simp only [Act.put, List.setIfInBounds_toArray, List.set_cons_zero, List.set_cons_succ]
    refine takeD (i := 4) (d := 35) (v := .bool false) rfl (by kernel_rfl) (by kernel_rfl) (by kernel_rfl) (by kernel_rfl) (fun _ _ _ h => h) (Or.inl ⟨by kernel_rfl, fun w _ => by go_simp⟩) trivial ?_
    simp only [Act.put, List.setIfInBounds_toArray, List.set_cons_zero, List.set_cons_succ]
    refine takeD (i := 5) (d := 36) (v := .bool false) rfl (by kernel_rfl) (by kernel_rfl) (by kernel_rfl) (by kernel_rfl) (fun _ _ _ h => h) (Or.inl ⟨by kernel_rfl, fun w _ => by go_simp⟩) trivial ?_
    simp only [Act.put, List.setIfInBounds_toArray, List.set_cons_zero, List.set_cons_succ]
    refine takeD (i := 6) (d := 37) (v := .int .i64 K) rfl (by kernel_rfl) (by kernel_rfl) (by kernel_rfl) (by kernel_rfl) (fun _ _ _ h => h) (Or.inl ⟨by kernel_rfl, fun w _ => by go_simp⟩) trivial ?_
    simp only [Act.put, List.setIfInBounds_toArray, List.set_cons_zero, List.set_cons_succ]
    refine takeD (i := 7) (d := 38) (v := .string ⟨s.toArray⟩) rfl (by kernel_rfl) (by kernel_rfl) (by kernel_rfl) (by kernel_rfl) (fun _ _ _ h => h) (Or.inl ⟨by kernel_rfl, fun w _ => by go_simp⟩) trivial ?_
    simp only [Act.put, List.setIfInBounds_toArray, List.set_cons_zero, List.set_cons_succ]
    refine takeD (i := 8) (d := 39) (v := .int .i64 s.length) rfl (by kernel_rfl) (by kernel_rfl) (by kernel_rfl) (by kernel_rfl) (fun _ _ _ h => h) (Or.inl ⟨by kernel_rfl, fun w _ => by go_simp⟩) trivial ?_
    simp only [Act.put, List.setIfInBounds_toArray, List.set_cons_zero, List.set_cons_succ]
    refine takeD (i := 9) (d := 40) (v := .bool false) rfl (by kernel_rfl) (by kernel_rfl) (by kernel_rfl) (by kernel_rfl) (fun _ _ _ h => h) (Or.inl ⟨by kernel_rfl, fun w _ => by go_simp⟩) trivial ?_
    simp only [Act.put, List.setIfInBounds_toArray, List.set_cons_zero, List.set_cons_succ]
    refine takeD (i := 10) (d := 41) (v := .bool false) rfl (by kernel_rfl) (by kernel_rfl) (by kernel_rfl) (by kernel_rfl) (fun _ _ _ h => h) (Or.inl ⟨by kernel_rfl, fun w _ => by go_simp⟩) trivial ?_
    simp only [Act.put, List.setIfInBounds_toArray, List.set_cons_zero, List.set_cons_succ]
    refine takeD (i := 11) (d := 42) (v := .bool false) rfl (by kernel_rfl) (by kernel_rfl) (by kernel_rfl) (by kernel_rfl) (fun _ _ _ h => h) (Or.inl ⟨by kernel_rfl, fun w _ => by go_simp⟩) trivial ?_
    simp only [Act.put, List.setIfInBounds_toArray, List.set_cons_zero, List.set_cons_succ]
    refine takeD (i := 12) (d := 43) (v := .string ⟨u.toArray⟩) rfl (by kernel_rfl) (by kernel_rfl) (by kernel_rfl) (by kernel_rfl) (fun _ _ _ h => h) (Or.inl ⟨by kernel_rfl, fun w _ => by go_simp⟩) trivial ?_
    simp only [Act.put, List.setIfInBounds_toArray, List.set_cons_zero, List.set_cons_succ]
    refine takeD (i := 14) (d := 45) (v := .string ⟨s.toArray⟩) rfl (by kernel_rfl) (by kernel_rfl) (by kernel_rfl) (by kernel_rfl) (fun _ _ _ h => h) (Or.inl ⟨by kernel_rfl, fun w _ => by go_simp⟩) trivial ?_
    simp only [Act.put, List.setIfInBounds_toArray, List.set_cons_zero, List.set_cons_succ]
    refine takeD (i := 15) (d := 46) (v := .int .i64 K) rfl (by kernel_rfl) (by kernel_rfl) (by kernel_rfl) (by kernel_rfl) (fun _ _ _ h => h) (Or.inl ⟨by kernel_rfl, fun w _ => by go_simp⟩) trivial ?_
    simp only [Act.put, List.setIfInBounds_toArray, List.set_cons_zero, List.set_cons_succ]
    refine takeD (i := 16) (d := 47) (v := .string ⟨pu.toArray⟩) rfl (by kernel_rfl) (by kernel_rfl) (by kernel_rfl) (by kernel_rfl) (fun _ _ _ h => h) (Or.inl ⟨by kernel_rfl, fun w _ => by go_simp⟩) trivial ?_
    simp only [Act.put, List.setIfInBounds_toArray, List.set_cons_zero, List.set_cons_succ]
    refine wpAnyH_ready (rs := [13]) (by kernel_rfl) (by simp) ?_
    refine AllReadyH.cons rfl (fun K0 hK => ?_) AllReadyH.nil
    rw [if_pos (by kernel_rfl)]
    simp only [List.getElem_toArray, List.getElem_cons_succ, List.getElem_cons_zero]
    go_wp2_with fail
    refine (CU.out _ (T0.below (below_drew w1))).mono ?_
    rintro e wA ⟨rfl, hba⟩
    go_wp2_with fail
    refine hK.out _ _ trivial (fun _ => ?_)
    clear hK
    try simp only [Act.put, List.setIfInBounds_toArray, List.set_cons_zero, List.set_cons_succ]
    refine takeD (i := 17) (d := 48) (v := .bool false) rfl (by kernel_rfl) (by kernel_rfl) (by kernel_rfl) (by kernel_rfl) (fun _ _ _ h => h) (Or.inl ⟨by kernel_rfl, fun w _ => by go_simp⟩) trivial ?_
    simp only [Act.put, List.setIfInBounds_toArray, List.set_cons_zero, List.set_cons_succ]
    refine takeD (i := 18) (d := 49) (v := .bool false) rfl (by kernel_rfl) (by kernel_rfl) (by kernel_rfl) (by kernel_rfl) (fun _ _ _ h => h) (Or.inl ⟨by kernel_rfl, fun w _ => by go_simp⟩) trivial ?_
    simp only [Act.put, List.setIfInBounds_toArray, List.set_cons_zero, List.set_cons_succ]
    refine takeD (i := 19) (d := 50) (v := .bool false) rfl (by kernel_rfl) (by kernel_rfl) (by kernel_rfl) (by kernel_rfl) (fun _ _ _ h => h) (Or.inl ⟨by kernel_rfl, fun w _ => by go_simp⟩) trivial ?_
    simp only [Act.put, List.setIfInBounds_toArray, List.set_cons_zero, List.set_cons_succ]
    refine takeD (i := 20) (d := 51) (v := .bool false) rfl (by kernel_rfl) (by kernel_rfl) (by kernel_rfl) (by kernel_rfl) (fun _ _ _ h => h) (Or.inl ⟨by kernel_rfl, fun w _ => by go_simp⟩) trivial ?_
    simp only [Act.put, List.setIfInBounds_toArray, List.set_cons_zero, List.set_cons_succ]
    refine takeD (i := 21) (d := 52) (v := .int .i64 0) rfl (by kernel_rfl) (by kernel_rfl) (by kernel_rfl) (by kernel_rfl) (fun _ _ _ h => h) (Or.inl ⟨by kernel_rfl, fun w _ => by go_simp⟩) trivial ?_
    simp only [Act.put, List.setIfInBounds_toArray, List.set_cons_zero, List.set_cons_succ]
    refine takeD (i := 22) (d := 53) (v := .bool false) rfl (by kernel_rfl) (by kernel_rfl) (by kernel_rfl) (by kernel_rfl) (fun _ _ _ h => h) (Or.inl ⟨by kernel_rfl, fun w _ => by go_simp⟩) trivial ?_
    simp only [Act.put, List.setIfInBounds_toArray, List.set_cons_zero, List.set_cons_succ]
    refine takeD (i := 23) (d := 54) (v := .bool false) rfl (by kernel_rfl) (by kernel_rfl) (by kernel_rfl) (by kernel_rfl) (fun _ _ _ h => h) (Or.inl ⟨by kernel_rfl, fun w _ => by go_simp⟩) trivial ?_
    simp only [Act.put, List.setIfInBounds_toArray, List.set_cons_zero, List.set_cons_succ]
    refine takeD (i := 24) (d := 55) (v := undef) rfl (by kernel_rfl) (by kernel_rfl) (by kernel_rfl) (by kernel_rfl) (fun _ _ _ h => h) (Or.inr ⟨by kernel_rfl, rfl⟩) trivial ?_
    simp only [Act.put, List.setIfInBounds_toArray, List.set_cons_zero, List.set_cons_succ]
    refine takeD (i := 25) (d := 56) (v := undef) rfl (by kernel_rfl) (by kernel_rfl) (by kernel_rfl) (by kernel_rfl) (fun _ _ _ h => h) (Or.inr ⟨by kernel_rfl, rfl⟩) trivial ?_
    simp only [Act.put, List.setIfInBounds_toArray, List.set_cons_zero, List.set_cons_succ]
    refine takeD (i := 26) (d := 57) (v := undef) rfl (by kernel_rfl) (by kernel_rfl) (by kernel_rfl) (by kernel_rfl) (fun _ _ _ h => h) (Or.inr ⟨by kernel_rfl, rfl⟩) trivial ?_
    simp only [Act.put, List.setIfInBounds_toArray, List.set_cons_zero, List.set_cons_succ]
    refine takeD (i := 27) (d := 58) (v := undef) rfl (by kernel_rfl) (by kernel_rfl) (by kernel_rfl) (by kernel_rfl) (fun _ _ _ h => h) (Or.inr ⟨by kernel_rfl, rfl⟩) trivial ?_
    simp only [Act.put, List.setIfInBounds_toArray, List.set_cons_zero, List.set_cons_succ]
    refine takeD (i := 28) (d := 59) (v := undef) rfl (by kernel_rfl) (by kernel_rfl) (by kernel_rfl) (by kernel_rfl) (fun _ _ _ h => h) (Or.inr ⟨by kernel_rfl, rfl⟩) trivial ?_
    simp only [Act.put, List.setIfInBounds_toArray, List.set_cons_zero, List.set_cons_succ]
    refine takeD (i := 29) (d := 60) (v := undef) rfl (by kernel_rfl) (by kernel_rfl) (by kernel_rfl) (by kernel_rfl) (fun _ _ _ h => h) (Or.inr ⟨by kernel_rfl, rfl⟩) trivial ?_
    simp only [Act.put, List.setIfInBounds_toArray, List.set_cons_zero, List.set_cons_succ]
    refine takeD (i := 30) (d := 61) (v := .bool false) rfl (by kernel_rfl) (by kernel_rfl) (by kernel_rfl) (by kernel_rfl) (fun _ _ _ h => h) (Or.inl ⟨by kernel_rfl, fun w _ => by go_simp⟩) trivial ?_
    simp only [Act.put, List.setIfInBounds_toArray, List.set_cons_zero, List.set_cons_succ]
    refine takeD (i := 31) (d := 62) (v := .bool false) rfl (by kernel_rfl) (by kernel_rfl) (by kernel_rfl) (by kernel_rfl) (fun _ _ _ h => h) (Or.inl ⟨by kernel_rfl, fun w _ => by go_simp⟩) trivial ?_
    simp only [Act.put, List.setIfInBounds_toArray, List.set_cons_zero, List.set_cons_succ]
    refine wpAnyH_done (by kernel_rfl) ?_ _
    replace T0 := T0.below (bch (below_drew w1) hba)
    replace hb := bch hb (bch (below_drew w1) hba)
    clear hba hHeld
    go_wp2_with fail
    refine (C7.out _ T0).mono ?_
    rintro e w2 ⟨rfl, hb2⟩
    replace T0 := T0.below hb2
    replace hb := bch hb hb2
    clear hb2
    go_wp2_with fail
    refine (C8.out _ T0).mono ?_
    rintro e w3 ⟨rfl, hb2⟩
    replace T0 := T0.below hb2
    replace hb := bch hb hb2
    clear hb2
    go_wp2_with fail
    refine (C9.out _ T0).mono ?_
    rintro e w4 ⟨rfl, hb2⟩
    replace T0 := T0.below hb2
    replace hb := bch hb hb2
    clear hb2
    by_cases hst : s = t
    · obtain rfl := hst
      have hab := HEQ.out rfl
      subst hab
      clear HEQ HF HI E6
      go_wp2_with fail
      refine (fixed_any _ T0).mono ?_
      rintro e w6 ⟨rfl, hb2⟩
      go_wp2
      go_ret
      exact ⟨rfl, bch hb hb2⟩
    · have y1 : (s == t) = false := by simpa using hst
      have y2 : (pa == pb) = false := by simpa using HI.out hst
      have y3 : (d != pa) = true := by simpa using HF.out hst
      have y4 : (d == pa) = false := by simpa using HF.out hst
      have y5 : d ≠ pa := HF.out hst
      clear HEQ HF HI hst
      by_cases hab : pb.length < pa.length
      · have i7 : (pb.length : Int) < (pa.length : Int) := by omega
        clear E6
        go_wp2_with fail
        refine (fixed_any _ T0).mono ?_
        rintro e w6 ⟨rfl, hb2⟩
        go_wp2
        go_ret
        exact ⟨rfl, bch hb hb2⟩
      · have e6 := E6.out (by omega)
        have i7 : (pa.length : Int) ≤ (pb.length : Int) := by omega
        clear E6
        go_wp2_with fail
        refine (fixed_any _ T0).mono ?_
        rintro e w6 ⟨rfl, hb2⟩
        go_wp2
        go_ret
        exact ⟨rfl, bch hb hb2⟩
  · have hE : getE s 0 999999 = (gotL s 999999).1 := by
      have := getE_in (s := s) (k := 0) (most := 999999) (Nat.zero_le _)
      rw [show (((0 : Nat) : Int)) = 0 from rfl] at this
      rw [this, hgd]
    have hR := getR_bad (s := s) (p := 0) (most := 999999) (by rw [hE]; exact hG)
    rw [hE] at hR
    rw [hR] at C1
    generalize (gotL s 999999).1 = x at *
    have x1 : (x == 0) = false := by simpa using hG
    have x2 : (x != 0) = true := by simpa using hG
    clear hE hR hG hgd
    generalize wputL s = pa at *
    generalize wputL t = pb at *
    clear hj hq hd hE9 hR9
    have T0 := T
    go_enter Tryd.func6, Tryd.ntmps6
    go_wp2_with fail
    refine C1.out.mono ?_
    rintro e w1 ⟨rfl, hb⟩
    replace T0 := T0.below hb
    go_wp2_with fail
    go_quiet (fail)
    replace T0 := T0.below (drewN_below w1 nq)
    replace hb := bch hb (drewN_below w1 nq)
    go_wp2_with fail
    refine (C7.out _ T0).mono ?_
    rintro e w2 ⟨rfl, hb2⟩
    replace T0 := T0.below hb2
    replace hb := bch hb hb2
    clear hb2
    go_wp2_with fail
    refine (C8.out _ T0).mono ?_
    rintro e w3 ⟨rfl, hb2⟩
    replace T0 := T0.below hb2
    replace hb := bch hb hb2
    clear hb2
    go_wp2_with fail
    refine (C9.out _ T0).mono ?_
    rintro e w4 ⟨rfl, hb2⟩
    replace T0 := T0.below hb2
    replace hb := bch hb hb2
    clear hb2
    by_cases hst : s = t
    · obtain rfl := hst
      have hab := HEQ.out rfl
      subst hab
      clear HEQ HF HI E6
      go_wp2_with fail
      refine (fixed_any _ T0).mono ?_
      rintro e w6 ⟨rfl, hb2⟩
      go_wp2
      go_ret
      exact ⟨rfl, bch hb hb2⟩
    · have y1 : (s == t) = false := by simpa using hst
      have y2 : (pa == pb) = false := by simpa using HI.out hst
      have y3 : (d != pa) = true := by simpa using HF.out hst
      have y4 : (d == pa) = false := by simpa using HF.out hst
      have y5 : d ≠ pa := HF.out hst
      clear HEQ HF HI hst
      by_cases hab : pb.length < pa.length
      · have i7 : (pb.length : Int) < (pa.length : Int) := by omega
        clear E6
        go_wp2_with fail
        refine (fixed_any _ T0).mono ?_
        rintro e w6 ⟨rfl, hb2⟩
        go_wp2
        go_ret
        exact ⟨rfl, bch hb hb2⟩
      · have e6 := E6.out (by omega)
        have i7 : (pa.length : Int) ≤ (pb.length : Int) := by omega
        clear E6
        go_wp2_with fail
        refine (fixed_any _ T0).mono ?_
        rintro e w6 ⟨rfl, hb2⟩
        go_wp2
        go_ret
        exact ⟨rfl, bch hb hb2⟩
end Go.Proofs.YthiojbfhodnlgaaDoor

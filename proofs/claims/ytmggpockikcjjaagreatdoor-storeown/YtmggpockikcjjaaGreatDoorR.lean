/-
  Contracts of wire.read, wire.number and wire.Get over the translation: the text at a place and the place behind it, or what is wrong.
-/
import Derived.Test.YtmggpockikcjjaaGreatDoorS
namespace Go.Proofs.YtmggpockikcjjaaGreatDoor
open Go.RowKit

theorem size_any (s : List UInt8) (p : Nat) (w : World) (hp : p ≤ s.length) (hs : s.length ≤ 4611686018427387904) :
    Calls Tryz.prog 79 #[.string ⟨s.toArray⟩, .int .i64 p] w fun e w' => e = .returned (numR s.length (numG false false 0 (s.drop p))) ∧ w = w' := size_B ⟨s.toArray⟩ p w hp hs
theorem numR_bad {len : Nat} {x : Int × Nat × List UInt8} (h : x.1 ≠ 0) : numR len x = .tuple #[.int .i64 0, .int .i64 0, .iface 110 (.agg #[.int .i64 x.1])] := by unfold numR flt; rw [if_neg h]
theorem numR_ok {len n : Nat} {r : List UInt8} : numR len (0, n, r) = .tuple #[.int .i64 n, .int .i64 ((len - r.length : Nat)), .nilIface] := by unfold numR; rw [if_pos rfl]
theorem num_suffix {s r : List UInt8} {k n : Nat} (h : numG false false 0 (s.drop k) = (0, n, r)) : r = s.drop (s.length - r.length) ∧ r.length < s.length ∧ n ≤ 999999 := by
  obtain ⟨h1, h2⟩ := numG_is h
  have hl := congrArg List.length h1
  rw [List.length_drop, List.length_append, List.length_cons] at hl
  have h3 : r = s.drop (k + ((Lib.decDigits n).length + 1)) := by
    rw [← List.drop_drop, h1, List.drop_append]
    simp
  refine ⟨?_, by omega, h2⟩
  rw [show s.length - r.length = k + ((Lib.decDigits n).length + 1) by omega]
  exact h3

/-! ### What is told of a text at a place -/
theorem getE_arg {s : List UInt8} {p most : Int} (h : p < 0 ∨ (s.length : Int) < p) : getE s p most = 1 := by unfold getE; rw [if_pos h]
theorem getE_in {s : List UInt8} {k : Nat} {most : Int} (h : k ≤ s.length) : getE s k most = (gotL (s.drop k) most.toNat).1 := by unfold getE; rw [if_neg (by omega)]; rfl
theorem getT_in {s : List UInt8} {k : Nat} {most : Int} (h : k ≤ s.length) : getT s k most = (gotL (s.drop k) most.toNat).2.1 := by unfold getT; rw [if_neg (by omega)]; rfl
def readR (s : List UInt8) (p most : Int) : Value := if getE s p most = 0 then .tuple #[.string ⟨(getT s p most).toArray⟩, .int .i64 (getP s p most), .nilIface] else .tuple #[.string ⟨#[]⟩, .int .i64 0, flt (getE s p most)]
theorem readR_bad {s : List UInt8} {p most e : Int} (h : getE s p most = e) (h0 : e ≠ 0) : readR s p most = .tuple #[.string ⟨#[]⟩, .int .i64 0, .iface 110 (.agg #[.int .i64 e])] := by
  unfold readR flt; rw [if_neg (by rw [h]; exact h0), h]
theorem readR_ok {s u r : List UInt8} {k : Nat} {most : Int} (hk : k ≤ s.length) (h : gotL (s.drop k) most.toNat = (0, u, r)) : readR s k most = .tuple #[.string ⟨u.toArray⟩, .int .i64 ((s.length - r.length : Nat)), .nilIface] := by
  have h1 : getE s k most = 0 := by rw [getE_in hk, h]
  unfold readR
  rw [if_pos h1, getT_in hk, h]
  unfold getP
  rw [if_pos h1]
  simp only [Int.toNat_natCast, h]
theorem ret_got {s r : List UInt8} {F n T k : Nat} {most : Int} {V : Value} (hV : readR s k most = V) (hk : k ≤ s.length) (hr : r = s.drop F) (_hF : F ≤ s.length) (hT : F + n = T) (hl : T < s.length)
    (h : gotL (s.drop k) most.toNat = (0, r.take n, r.drop (n + 1))) : Ending.returned (.tuple #[.string ((⟨s.toArray⟩ : ByteArray).extract F T), .int .i64 ((T : Int) + 1), .nilIface]) = .returned V := by
  rw [← hV, readR_ok hk h]
  have e1 : ((s.length - (r.drop (n + 1)).length : Nat) : Int) = (T : Int) + 1 := by
    rw [hr, List.length_drop, List.length_drop]; omega
  rw [e1]
  have e2 : (⟨s.toArray⟩ : ByteArray).extract F T = ⟨(r.take n).toArray⟩ := by
    apply ByteArray.ext
    simp only [ByteArray.data_extract, List.extract_toArray, List.extract_eq_take_drop]
    rw [hr, ← hT, show F + n - F = n by omega]
  rw [e2]
theorem ret_bad {s : List UInt8} {p most e : Int} {V : Value} (hV : readR s p most = V) (h : getE s p most = e) (h0 : e ≠ 0) : Ending.returned (.tuple #[.string ⟨#[]⟩, .int .i64 0, .iface 110 (.agg #[.int .i64 e])]) = .returned V := by
  rw [← hV, readR_bad h h0]
theorem at_suffix {s r : List UInt8} {F n T : Nat} {c : UInt8} (hr : r = s.drop F) (hT : F + n = T) (hl : T < (⟨s.toArray⟩ : ByteArray).size) (hc : c = (⟨s.toArray⟩ : ByteArray)[T]) : r[n]? = some c := by
  rw [hr, List.getElem?_drop, hT, hc]
  exact List.getElem?_eq_getElem hl

set_option maxRecDepth 100000 in
set_option maxHeartbeats 2000000 in
theorem read_any (s : List UInt8) (p most : Int) (w : World) (hs : s.length ≤ 4611686018427387904) :
    Calls Tryz.prog 68 #[.string ⟨s.toArray⟩, .int .i64 p, .int .i64 most] w fun e w' => e = .returned (readR s p most) ∧ w = w' := by
  generalize hV : readR s p most = V
  have HV := Lib.hid hV
  clear hV
  by_cases hp0 : p < 0
  · go_enter Tryz.func68, Tryz.ntmps68
    go_wp2
    go_ret3
    exact ⟨ret_bad HV.out (getE_arg (.inl hp0)) (by decide), rfl⟩
  by_cases hp1 : (s.length : Int) < p
  · go_enter Tryz.func68, Tryz.ntmps68
    go_wp2
    go_ret3
    exact ⟨ret_bad HV.out (getE_arg (.inr hp1)) (by decide), rfl⟩
  obtain ⟨k, rfl⟩ : ∃ k : Nat, p = k := ⟨p.toNat, by omega⟩
  have hk : k ≤ s.length := by omega
  have C := Lib.hid (size_any s k w hk hs)
  have HW := Lib.hid (got_ways (s.drop k) most.toNat)
  have hk' : (k : Int) ≤ (s.length : Int) := by omega
  clear hp0 hp1
  rcases HW.out with ⟨h, e⟩ | ⟨n, r, hn, hw⟩
  · have HE := Lib.hid e
    have H0 := Lib.hid h
    have C2 := C.out
    rw [numR_bad h] at C2
    generalize hE : (numG false false 0 (s.drop k)).1 = E at *
    have C3 := Lib.hid C2
    clear C2 C h e hE HW
    go_enter Tryz.func68, Tryz.ntmps68
    go_wp2_with fail
    refine C3.out.mono ?_
    rintro e w' ⟨rfl, rfl⟩
    go_wp2
    go_ret3
    exact ⟨ret_bad HV.out ((getE_in hk).trans (by rw [HE.out])) H0.out, rfl⟩
  · have C2 := C.out
    rw [hn, numR_ok] at C2
    obtain ⟨hr, hrl, hn9⟩ := num_suffix hn
    obtain ⟨F, hF⟩ : ∃ F, s.length - r.length = F := ⟨_, rfl⟩
    obtain ⟨M, hM⟩ : ∃ M, most.toNat = M := ⟨_, rfl⟩
    have hmx : max most 0 = (M : Int) := by omega
    have hFl : F + r.length = s.length := by omega
    rw [hF] at C2 hr
    have C3 := Lib.hid C2
    have HR := Lib.hid hr
    have HM := Lib.hid hM
    have HFl := Lib.hid hFl
    obtain ⟨T, hT⟩ : ∃ T, F + n = T := ⟨_, rfl⟩
    have HT := Lib.hid hT
    have hTi : (F : Int) + (n : Int) = (T : Int) := by omega
    have hF9 : F ≤ 4611686018427387904 := by omega
    have hT9 : T ≤ 4611686019427387904 := by omega
    clear C2 C hn HW hF hr hM hFl hT
    rcases hw with ⟨hm, e⟩ | ⟨hm, hl, e⟩ | ⟨hm, c, h1, h2, e⟩ | ⟨hm, h1, e⟩
    · have HE := Lib.hid e
      have i1 : (M : Int) < (n : Int) := by have := HM.out; omega
      clear e hm
      go_enter Tryz.func68, Tryz.ntmps68
      go_wp2_with fail
      refine C3.out.mono ?_
      rintro e w' ⟨rfl, rfl⟩
      go_wp2
      all_goals (go_ret3; exact ⟨ret_bad HV.out ((getE_in hk).trans (by rw [HE.out])) (by decide), rfl⟩)
    · have HE := Lib.hid e
      have i1 : (n : Int) ≤ (M : Int) := by have := HM.out; omega
      have i2 : (s.length : Int) ≤ (T : Int) := by have := HFl.out; have := HT.out; omega
      clear e hm hl
      go_enter Tryz.func68, Tryz.ntmps68
      go_wp2_with fail
      refine C3.out.mono ?_
      rintro e w' ⟨rfl, rfl⟩
      go_wp2
      all_goals (go_ret3; exact ⟨ret_bad HV.out ((getE_in hk).trans (by rw [HE.out])) (by decide), rfl⟩)
    · have HE := Lib.hid e
      have hl : n < r.length := by
        rcases Nat.lt_or_ge n r.length with q | q
        · exact q
        · rw [List.getElem?_eq_none q] at h1; cases h1
      have i1 : (n : Int) ≤ (M : Int) := by have := HM.out; omega
      have hTl : T < s.length := by have := HFl.out; have := HT.out; omega
      have hTl' : T < (⟨s.toArray⟩ : ByteArray).size := hTl
      have i2 : (T : Int) < (s.length : Int) := by omega
      have hc : (⟨s.toArray⟩ : ByteArray)[T] = c := by
        have := at_suffix HR.out HT.out hTl' rfl
        rw [h1] at this; simpa using this.symm
      have q44 : (((⟨s.toArray⟩ : ByteArray)[T].toNat : Int) != 44) = true := by
        rw [hc]
        have : c.toNat ≠ 44 := fun h => h2 (UInt8.toNat_inj.1 h)
        simp; omega
      clear e hm hl h1 h2 hc
      go_enter Tryz.func68, Tryz.ntmps68
      go_wp2_with fail
      refine C3.out.mono ?_
      rintro e w' ⟨rfl, rfl⟩
      go_wp2
      all_goals (go_ret3; exact ⟨ret_bad HV.out ((getE_in hk).trans (by rw [HE.out])) (by decide), rfl⟩)
    · have HE := Lib.hid e
      have hl : n < r.length := by
        rcases Nat.lt_or_ge n r.length with q | q
        · exact q
        · rw [List.getElem?_eq_none q] at h1; cases h1
      have i1 : (n : Int) ≤ (M : Int) := by have := HM.out; omega
      have hTl : T < s.length := by have := HFl.out; have := HT.out; omega
      have hTl' : T < (⟨s.toArray⟩ : ByteArray).size := hTl
      have i2 : (T : Int) < (s.length : Int) := by omega
      have i3 : (F : Int) ≤ (T : Int) := by omega
      have hc : (⟨s.toArray⟩ : ByteArray)[T] = 44 := by
        have := at_suffix HR.out HT.out hTl' rfl
        rw [h1] at this; simpa using this.symm
      have q44 : (((⟨s.toArray⟩ : ByteArray)[T].toNat : Int) != 44) = false := by
        rw [hc]; rfl
      clear e hm hl h1 hc
      go_enter Tryz.func68, Tryz.ntmps68
      go_wp2_with fail
      refine C3.out.mono ?_
      rintro e w' ⟨rfl, rfl⟩
      go_wp2
      all_goals (go_ret3; exact ⟨ret_got HV.out hk HR.out (by have := HFl.out; omega) HT.out hTl HE.out, rfl⟩)

theorem number_nil (w : World) : Calls Tryz.prog 48 #[.nilIface] w fun e w' => e = .returned (.int .i64 0) ∧ Below w.heap.size w w' := by
  go_enter Tryz.func48, Tryz.ntmps48
  go_wp2_with fail
  refine (as_nil _ _).mono ?_
  rintro e w' ⟨rfl, rfl⟩
  go_wp2
  go_ret
  exact ⟨rfl, one_below _ _⟩
end Go.Proofs.YtmggpockikcjjaaGreatDoor

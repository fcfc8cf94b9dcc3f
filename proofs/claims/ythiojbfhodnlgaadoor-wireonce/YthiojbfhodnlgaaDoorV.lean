/-
  Contract of the document's answer's Get: the text at a place and the place behind it, or what is wrong.
-/
import Derived.Test.YthiojbfhodnlgaaDoorU
namespace Go.Proofs.YthiojbfhodnlgaaDoor
open Go.RowKit

theorem rlength_any (s : List UInt8) (p : Nat) (w : World) (hp : p ≤ s.length) (hs : s.length ≤ 4611686018427387904) :
    Calls Tryd.prog 25 #[.string ⟨s.toArray⟩, .int .i64 p] w fun e w' => e = .returned (rnumR s.length (numG false false 0 (s.drop p))) ∧ w = w' := rlength_B ⟨s.toArray⟩ p w hp hs
theorem rnumR_bad {len : Nat} {x : Int × Nat × List UInt8} (h : x.1 ≠ 0) : rnumR len x = .tuple #[.int .i64 0, .int .i64 0, .int .i64 x.1] := by unfold rnumR; rw [if_neg h]
theorem rnumR_ok {len n : Nat} {r : List UInt8} : rnumR len (0, n, r) = .tuple #[.int .i64 n, .int .i64 ((len - r.length : Nat)), .int .i64 0] := by unfold rnumR; rw [if_pos rfl]
theorem ret_gbad {s : List UInt8} {p most e : Int} {V : Value} (hV : getR s p most = V) (h : getE s p most = e) (h0 : e ≠ 0) : Ending.returned (.tuple #[.string ⟨#[]⟩, .int .i64 0, .int .i64 e]) = .returned V := by
  rw [← hV, getR_bad (by rw [h]; exact h0), h]
theorem getR_ok {s u r : List UInt8} {k : Nat} {most : Int} (hk : k ≤ s.length) (h : gotL (s.drop k) most.toNat = (0, u, r)) : getR s k most = .tuple #[.string ⟨u.toArray⟩, .int .i64 ((s.length - r.length : Nat)), .int .i64 0] := by
  have h1 : getE s k most = 0 := by rw [getE_in hk, h]
  unfold getR
  rw [h1, getT_in hk, h]
  unfold getP
  rw [if_pos h1]
  simp only [Int.toNat_natCast, h]
theorem ret_ggot {s r : List UInt8} {F n T k : Nat} {most : Int} {V : Value} (hV : getR s k most = V) (hk : k ≤ s.length) (hr : r = s.drop F) (hF : F ≤ s.length) (hT : F + n = T) (hl : T < s.length)
    (h : gotL (s.drop k) most.toNat = (0, r.take n, r.drop (n + 1))) : Ending.returned (.tuple #[.string ((⟨s.toArray⟩ : ByteArray).extract F T), .int .i64 ((T : Int) + 1), .int .i64 0]) = .returned V := by
  have h2 := ret_got rfl hk hr hF hT hl h
  rw [← hV, getR_ok hk h]
  rw [readR_ok hk h] at h2
  simp only [Ending.returned.injEq, Value.tuple.injEq, Array.mk.injEq, List.cons.injEq, and_true] at h2 ⊢
  exact h2
set_option maxRecDepth 100000 in
set_option maxHeartbeats 2000000 in
theorem rget_any (s : List UInt8) (p most : Int) (w : World) (hs : s.length ≤ 4611686018427387904) :
    Calls Tryd.prog 10 #[.string ⟨s.toArray⟩, .int .i64 p, .int .i64 most] w fun e w' => e = .returned (getR s p most) ∧ w = w' := by
  generalize hV : getR s p most = V
  have HV := Lib.hid hV
  clear hV
  by_cases hp0 : p < 0
  · go_enter Tryd.func10, Tryd.ntmps10
    go_wp2
    go_ret3
    exact ⟨ret_gbad HV.out (getE_arg (.inl hp0)) (by decide), rfl⟩
  by_cases hp1 : (s.length : Int) < p
  · go_enter Tryd.func10, Tryd.ntmps10
    go_wp2
    go_ret3
    exact ⟨ret_gbad HV.out (getE_arg (.inr hp1)) (by decide), rfl⟩
  obtain ⟨k, rfl⟩ : ∃ k : Nat, p = k := ⟨p.toNat, by omega⟩
  have hk : k ≤ s.length := by omega
  have C := Lib.hid (rlength_any s k w hk hs)
  have HW := Lib.hid (got_ways (s.drop k) most.toNat)
  have hk' : (k : Int) ≤ (s.length : Int) := by omega
  clear hp0 hp1
  rcases HW.out with ⟨h, e⟩ | ⟨n, r, hn, hw⟩
  · have HE := Lib.hid e
    have H0 := Lib.hid h
    have C2 := C.out
    rw [rnumR_bad h] at C2
    generalize hE : (numG false false 0 (s.drop k)).1 = E at *
    have C3 := Lib.hid C2
    clear C2 C h e hE HW
    have qE : (E != 0) = true := by simpa using H0.out
    go_enter Tryd.func10, Tryd.ntmps10
    go_wp2_with fail
    refine C3.out.mono ?_
    rintro e w' ⟨rfl, rfl⟩
    go_wp2
    go_ret3
    exact ⟨ret_gbad HV.out ((getE_in hk).trans (by rw [HE.out])) H0.out, rfl⟩
  · have C2 := C.out
    rw [hn, rnumR_ok] at C2
    obtain ⟨hr, hrl, hn9⟩ := num_suffix hn
    obtain ⟨F, hF⟩ : ∃ F, s.length - r.length = F := ⟨_, rfl⟩
    obtain ⟨M, hM⟩ : ∃ M, most.toNat = M := ⟨_, rfl⟩
    have hmx : max most 0 = (M : Int) := by omega
    have hFl : F + r.length = s.length := by omega
    rw [hF] at C2 hr
    have C3 := Lib.hid C2
    have HR := Lib.hid hr
    have HM := Lib.hid hM
    have HFl := Lib.hid hFl
    obtain ⟨T, hT⟩ : ∃ T, F + n = T := ⟨_, rfl⟩
    have HT := Lib.hid hT
    have hTi : (F : Int) + (n : Int) = (T : Int) := by omega
    have hF9 : F ≤ 4611686018427387904 := by omega
    have hT9 : T ≤ 4611686019427387904 := by omega
    clear C2 C hn HW hF hr hM hFl hT
    rcases hw with ⟨hm, e⟩ | ⟨hm, hl, e⟩ | ⟨hm, c, h1, h2, e⟩ | ⟨hm, h1, e⟩
    · have HE := Lib.hid e
      have i1 : (M : Int) < (n : Int) := by have := HM.out; omega
      clear e hm
      go_enter Tryd.func10, Tryd.ntmps10
      go_wp2_with fail
      refine C3.out.mono ?_
      rintro e w' ⟨rfl, rfl⟩
      go_wp2
      all_goals (go_ret3; exact ⟨ret_gbad HV.out ((getE_in hk).trans (by rw [HE.out])) (by decide), rfl⟩)
    · have HE := Lib.hid e
      have i1 : (n : Int) ≤ (M : Int) := by have := HM.out; omega
      have i2 : (s.length : Int) ≤ (T : Int) := by have := HFl.out; have := HT.out; omega
      clear e hm hl
      go_enter Tryd.func10, Tryd.ntmps10
      go_wp2_with fail
      refine C3.out.mono ?_
      rintro e w' ⟨rfl, rfl⟩
      go_wp2
      all_goals (go_ret3; exact ⟨ret_gbad HV.out ((getE_in hk).trans (by rw [HE.out])) (by decide), rfl⟩)
    · have HE := Lib.hid e
      have hl : n < r.length := by
        rcases Nat.lt_or_ge n r.length with q | q
        · exact q
        · rw [List.getElem?_eq_none q] at h1; cases h1
      have i1 : (n : Int) ≤ (M : Int) := by have := HM.out; omega
      have hTl : T < s.length := by have := HFl.out; have := HT.out; omega
      have hTl' : T < (⟨s.toArray⟩ : ByteArray).size := hTl
      have i2 : (T : Int) < (s.length : Int) := by omega
      have hc : (⟨s.toArray⟩ : ByteArray)[T] = c := by
        have := at_suffix HR.out HT.out hTl' rfl
        rw [h1] at this; simpa using this.symm
      have q44 : (((⟨s.toArray⟩ : ByteArray)[T].toNat : Int) != 44) = true := by
        rw [hc]
        have : c.toNat ≠ 44 := fun h => h2 (UInt8.toNat_inj.1 h)
        simp; omega
      clear e hm hl h1 h2 hc
      go_enter Tryd.func10, Tryd.ntmps10
      go_wp2_with fail
      refine C3.out.mono ?_
      rintro e w' ⟨rfl, rfl⟩
      go_wp2
      all_goals (go_ret3; exact ⟨ret_gbad HV.out ((getE_in hk).trans (by rw [HE.out])) (by decide), rfl⟩)
    · have HE := Lib.hid e
      have hl : n < r.length := by
        rcases Nat.lt_or_ge n r.length with q | q
        · exact q
        · rw [List.getElem?_eq_none q] at h1; cases h1
      have i1 : (n : Int) ≤ (M : Int) := by have := HM.out; omega
      have hTl : T < s.length := by have := HFl.out; have := HT.out; omega
      have hTl' : T < (⟨s.toArray⟩ : ByteArray).size := hTl
      have i2 : (T : Int) < (s.length : Int) := by omega
      have i3 : (F : Int) ≤ (T : Int) := by omega
      have hc : (⟨s.toArray⟩ : ByteArray)[T] = 44 := by
        have := at_suffix HR.out HT.out hTl' rfl
        rw [h1] at this; simpa using this.symm
      have q44 : (((⟨s.toArray⟩ : ByteArray)[T].toNat : Int) != 44) = false := by
        rw [hc]; rfl
      clear e hm hl h1 hc
      go_enter Tryd.func10, Tryd.ntmps10
      go_wp2_with fail
      refine C3.out.mono ?_
      rintro e w' ⟨rfl, rfl⟩
      go_wp2
      all_goals (go_ret3; exact ⟨ret_ggot HV.out hk HR.out (by have := HFl.out; omega) HT.out hTl HE.out, rfl⟩)

end Go.Proofs.YthiojbfhodnlgaaDoor

/-
  The walk of DiskDoes: for every number, every list of operations and every byte it returns true; old memory stays.
-/
import Derived.Test.YtnfnbbipmempjaaT
namespace Go.Proofs.Ytnfnbbipmempjaa
open Go.RowKit

set_option maxRecDepth 100000 in
set_option maxHeartbeats 8000000 in
theorem diskDoes_bad (A : Option Addr) (cA : Nat) (n0 : Int) (l : List OpV) (cut : Int) (w : World) (hn : ¬ (1 ≤ n0 ∧ n0 ≤ 4096)) :
    Calls Try.prog 3 #[.int .i64 n0, .slice A l.length cA, .int .u8 cut] w fun e w' => e = .returned (.bool true) ∧ Below w.heap.size w w' := by
  have C1 := Lib.hid (new_bad n0 w hn)
  have C2 := Lib.hid (rnew_bad n0 w hn)
  clear hn
  go_enter Try.func3, Try.ntmps3
  go_wp2_with fail
  refine C1.out.mono ?_
  rintro e w1 ⟨rfl, rfl⟩
  go_wp2_with fail
  refine C2.out.mono ?_
  rintro e w1' ⟨rfl, rfl⟩
  clear C1 C2
  go_wp2_with fail
  refine (fixed_any _).mono ?_
  rintro e w2 ⟨rfl, hb⟩
  have HB := Lib.hid hb
  clear hb
  go_wp2
  go_ret
  exact ⟨rfl, HB.out⟩

theorem fin_below {w0 w1 w2 : World} (h1 : Below w0.heap.size w0 w1) (h2 : Below w1.heap.size w1 w2) : Below w0.heap.size w0 w2 := h1.trans (h2.mono h1.size)

set_option maxRecDepth 100000 in
set_option maxHeartbeats 8000000 in
theorem diskDoes_good (A : Option Addr) (cA n : Nat) (l : List OpV) (a : Nat) (w : World) (hr : RdO w A l) (hl : l.length ≤ 9223372036854775807) (ho : ∀ x ∈ l, OpOk w x) (h1 : 1 ≤ n) (h2 : n ≤ 4096) (ha : a < 256) :
    Calls Try.prog 3 #[.int .i64 n, .slice A l.length cA, .int .u8 a] w fun e w' => e = .returned (.bool true) ∧ Below w.heap.size w w' := by
  have HR := Lib.hid hr
  have HO := Lib.hid ho
  clear hr ho
  have C1 := Lib.hid (Base.new n w h1 h2)
  go_enter Try.func3, Try.ntmps3
  go_wp2_with fail
  refine C1.out.mono ?_
  rintro e w1 ⟨d, rfl, hm⟩
  have C2 := Lib.hid (Base.rnew hm h1 h2)
  clear hm C1
  go_wp2_with fail
  refine C2.out.mono ?_
  rintro e w2 ⟨r, rfl, hm⟩
  have C3 := Lib.hid hm.copyD
  clear hm C2
  go_wp2_with fail
  refine C3.out.mono ?_
  rintro e w3 ⟨c, rfl, hm⟩
  have C4 := Lib.hid (hm.copyR h1)
  clear hm C3
  go_wp2_with fail
  refine C4.out.mono ?_
  rintro e w4 ⟨q, rfl, hm⟩
  have H4 := Lib.hid hm
  clear hm C4
  go_wp2_with fail
  go_loopw [11, 12, 13] (fun vc vq vi wr => ∃ (k c q : Nat) (st sc : DS), k ≤ l.length ∧ k ≤ 40 ∧ vi = .int .i64 k ∧ vc = .pointer (some ⟨c, 0, none⟩) ∧ vq = .pointer (some ⟨q, 0, none⟩) ∧ Four w wr d r c q st sc sc ∧ st.n = n ∧ st.cnt ≤ k) (fun _ _ vi _ => l.length - (intOf vi).toNat)
  case atStart => exact ⟨0, c, q, newS n, newS n, Nat.zero_le _, by omega, rfl, rfl, rfl, H4.out, rfl, Nat.le_refl _⟩
  case round =>
    clear H4
    obtain ⟨k, c, q, st, sc, hk, hk40, rfl, rfl, rfl, hm, hn, hcnt⟩ := hrel
    have H4 := Lib.hid hm
    clear hm
    by_cases hlt : k < l.length ∧ k < 40
    · obtain ⟨hlt, h40⟩ := hlt
      obtain ⟨x, hx⟩ : ∃ x, l[k]? = some x := ⟨_, List.getElem?_eq_getElem hlt⟩
      have okx := HO.out x (List.mem_of_getElem? hx)
      have i1 : (k : Int) < (l.length : Int) := by omega
      have i40 : (k : Int) < 40 := by omega
      by_cases hcut : (k : Int) = (a : Int) % 40
      · have D1 := Lib.hid H4.out.base.copyD
        have qc : ((k : Int) == (a : Int) % 40) = true := by rw [beq_iff_eq]; exact hcut
        have HX := Lib.hid hx
        have OX := Lib.hid okx
        have HCU := Lib.hid hcut
        clear H4 hx okx hcut
        go_wp2_with fail
        refine D1.out.mono ?_
        rintro e w5 ⟨c5, rfl, hm⟩
        have D2 := Lib.hid (hm.copyR (by omega))
        clear hm D1
        go_wp2_with fail
        refine D2.out.mono ?_
        rintro e w6 ⟨q5, rfl, hm⟩
        have H4 := Lib.hid hm
        clear hm D2 qc
        obtain ⟨b, o, rfl, hcell⟩ := HR.out.below H4.out.below (by omega)
        obtain ⟨c0, c1, c2, c3⟩ := hcell k x HX.out
        have C := Lib.hid (H4.out.step x OX.out (by omega))
        obtain ⟨K, I, S, B, ks, cB⟩ := x
        simp only at c0 c1 c2 c3 C
        clear HX hcell OX H4
        go_wp2_with fail
        refine C.out.mono ?_
        rintro e w7 ⟨rfl, st', hm, hn', hc'⟩
        have H7 := Lib.hid hm
        clear hm C c0 c1 c2 c3
        go_wp2_with fail
        go_roundw
        case rel => exact ⟨k + 1, c5, q5, st', st, by omega, by omega, by go_num, rfl, rfl, H7.out, by omega, by omega⟩
        case measure => simp [intOf]; omega
      · have qc : ((k : Int) == (a : Int) % 40) = false := by rw [beq_eq_false_iff_ne]; exact hcut
        obtain ⟨b, o, rfl, hcell⟩ := HR.out.below H4.out.below (by omega)
        obtain ⟨c0, c1, c2, c3⟩ := hcell k x hx
        have C := Lib.hid (H4.out.step x okx (by omega))
        obtain ⟨K, I, S, B, ks, cB⟩ := x
        simp only at c0 c1 c2 c3 C
        have HCU := Lib.hid hcut
        clear hx hcell okx H4 hcut
        go_wp2_with fail
        refine C.out.mono ?_
        rintro e w7 ⟨rfl, st', hm, hn', hc'⟩
        have H7 := Lib.hid hm
        clear hm C c0 c1 c2 c3 qc
        go_wp2_with fail
        go_roundw
        case rel => exact ⟨k + 1, c, q, st', sc, by omega, by omega, by go_num, rfl, rfl, H7.out, by omega, by omega⟩
        case measure => simp [intOf]; omega
    · have hways : (k < l.length ∧ k = 40) ∨ ¬ k < l.length := by omega
      obtain ⟨L, cL, cr0⟩ := H4.out.len
      rw [hn] at cr0
      have S1 := Lib.hid H4.out.sameD
      have S2 := Lib.hid H4.out.sameC
      have CC := Lib.hid H4.out.crashC
      clear hlt hcnt H4
      by_cases h64 : n ≤ 64
      · have j64 : (n : Int) ≤ 64 := by omega
        have j65 : ¬ (64 : Int) < (n : Int) := by omega
        rcases hways with ⟨hw1, rfl⟩ | hw1
        all_goals
          go_wp2_with fail
          refine S1.out.mono ?_
          rintro e w5 ⟨rfl, rfl⟩
          clear S1
          go_wp2_with fail
          refine S2.out.mono ?_
          rintro e w5' ⟨rfl, rfl⟩
          clear S2
          go_wp2_with fail
          refine CC.out.mono ?_
          rintro e w6 ⟨rfl, hm⟩
          have CQ := Lib.hid hm.crashQ
          clear CC hm cr0
          go_wp2_with fail
          refine CQ.out.mono ?_
          rintro e w7 ⟨rfl, hm⟩
          obtain ⟨L7, cL7, cr7⟩ := hm.len
          rw [hn] at cr7
          have S3 := Lib.hid hm.sameC
          have HB7 := Lib.hid hm.below
          clear CQ hm
          go_wp2_with fail
          refine S3.out.mono ?_
          rintro e w7' ⟨rfl, rfl⟩
          clear S3 cr7
          go_wp2_with fail
          refine (fixed_any _).mono ?_
          rintro e w8 ⟨rfl, hb⟩
          have HB8 := Lib.hid (fin_below HB7.out hb)
          clear hb
          go_wp2
          go_ret
          exact ⟨rfl, HB8.out⟩
      · have j64 : ¬ (n : Int) ≤ 64 := by omega
        have j65 : (64 : Int) < (n : Int) := by omega
        rcases hways with ⟨hw1, rfl⟩ | hw1
        all_goals
          go_wp2_with fail
          refine CC.out.mono ?_
          rintro e w6 ⟨rfl, hm⟩
          have CQ := Lib.hid hm.crashQ
          clear CC hm cr0 S1 S2
          go_wp2_with fail
          refine CQ.out.mono ?_
          rintro e w7 ⟨rfl, hm⟩
          obtain ⟨L7, cL7, cr7⟩ := hm.len
          rw [hn] at cr7
          have HB7 := Lib.hid hm.below
          clear CQ hm
          go_wp2_with fail
          refine (fixed_any _).mono ?_
          rintro e w8 ⟨rfl, hb⟩
          have HB8 := Lib.hid (fin_below HB7.out hb)
          clear hb cr7
          go_wp2
          go_ret
          exact ⟨rfl, HB8.out⟩

theorem diskDoes_walk (A : Option Addr) (cA : Nat) (n0 : Int) (l : List OpV) (cut : Int) (w : World) (hr : RdO w A l) (hl : l.length ≤ 9223372036854775807) (ho : ∀ x ∈ l, OpOk w x) (hc : ∃ c : UInt8, cut = (c.toNat : Int)) :
    Calls Try.prog 3 #[.int .i64 n0, .slice A l.length cA, .int .u8 cut] w fun e w' => e = .returned (.bool true) ∧ Below w.heap.size w w' := by
  by_cases h : 1 ≤ n0 ∧ n0 ≤ 4096
  · obtain ⟨c, rfl⟩ := hc
    obtain ⟨n, rfl⟩ : ∃ n : Nat, n0 = n := ⟨n0.toNat, by omega⟩
    exact diskDoes_good A cA n l c.toNat w hr hl ho (by omega) (by omega) c.toNat_lt
  · exact diskDoes_bad A cA n0 l cut w h
end Go.Proofs.Ytnfnbbipmempjaa

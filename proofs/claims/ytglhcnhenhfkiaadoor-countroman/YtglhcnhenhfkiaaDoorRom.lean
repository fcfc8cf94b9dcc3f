/-
  The walk of CountRoman: for every int it returns true; the tables lie in memory; old memory stays as it was.
-/
import Derived.Test.YtglhcnhenhfkiaaDoorT7
import Derived.Test.YtglhcnhenhfkiaaDoorR
import Derived.BigQuiet
import Derived.Deep.QuietTactic
namespace Go.Proofs.YtglhcnhenhfkiaaDoor
open Go.RowKit Go.Sort
theorem cut_natR (n : Int) (m : Nat) (w : World) (h : cCut n = m) :
    Calls Tryd.prog 11 #[.int .i64 n] w fun e w' => e = .returned (.int .i64 m) ∧ w = w' :=
  (cut_any n w).mono fun _ _ hh => ⟨hh.1.trans (ret_int h), hh.2⟩
theorem text_natR (m : Nat) (style : Int) (l : List UInt8) (w : World) (T : Tabs w) (hm : m ≤ 999999) (hl : cTextN m style = l) :
    Calls Tryd.prog 13 #[.int .i64 m, .int .i64 style] w fun e w' => e = .returned (.string ⟨l.toArray⟩) ∧ Below w.heap.size w w' :=
  (textN_any m style m w T (cCut_id _ (by omega) (by omega)) hm).mono fun _ _ hh => ⟨hh.1.trans (ret_str hl), hh.2⟩
theorem ft4000 (w : World) (T : Tabs w) : Calls Tryd.prog 13 #[.int .i64 4000, .int .i64 2] w fun e w' => e = .returned (.string ⟨#[52, 48, 48, 48]⟩) ∧ Below w.heap.size w w' :=
  (text_any 4000 2 w T).mono fun _ _ h => ⟨h.1.trans (ret_str (b := [52, 48, 48, 48]) (by decide +kernel)), h.2⟩

set_option maxRecDepth 100000 in
set_option maxHeartbeats 1000000 in
theorem roman_zero (n : Int) (m : Nat) (w : World) (T : Tabs w) (Hm : Hid (cCut n = m)) (hm9 : m ≤ 999999) (h0 : Hid (m % 4000 = 0)) :
    Calls Tryd.prog 7 #[.int .i64 n] w fun e w' => e = .returned (.bool true) ∧ Below w.heap.size w w' := by
  have B : Below w.heap.size w w := Below.refl _ _
  have q0 : ((m : Int) % 4000 == 0) = true := by rw [beq_iff_eq]; have := h0.out; omega
  go_enter Tryd.func7, Tryd.ntmps7
  go_wp2_with fail
  refine (cut_natR n m _ Hm.out).mono ?_
  rintro e w' ⟨rfl, rfl⟩
  go_wp2_with fail
  refine (ft3 _ T).mono ?_
  rintro e w1 ⟨rfl, hb⟩
  replace B := B.trans (hb.mono B.size)
  replace T := T.below hb
  clear hb
  go_wp2_with fail
  refine (ft4000 _ T).mono ?_
  rintro e w2 ⟨rfl, hb⟩
  replace B := B.trans (hb.mono B.size)
  replace T := T.below hb
  clear hb
  go_wp2_with fail
  refine (fixed_any _ T).mono ?_
  rintro e w3 ⟨rfl, hb⟩
  go_wp2_with fail
  go_ret
  exact ⟨rfl, B.trans (hb.mono B.size)⟩

/-- The block of the four parts. -/
def Cells4 (w : World) (b r : Nat) : Prop := ∀ k, k < 4 → w.cell? ⟨b, k, none⟩ = some (.int .i64 (partV r k : Nat))
theorem cells4 (w : World) (r : Nat) : Cells4 (w.alloc (Obj.cells #[Value.int IntKind.i64 (partV r 0 : Nat), Value.int IntKind.i64 (partV r 1 : Nat), Value.int IntKind.i64 (partV r 2 : Nat), Value.int IntKind.i64 (partV r 3 : Nat)] 3)) w.heap.size r := by
  intro k hk
  obtain rfl | rfl | rfl | rfl : k = 0 ∨ k = 1 ∨ k = 2 ∨ k = 3 := by omega
  all_goals (rw [World.cell?_alloc_new]; rfl)
theorem cells_later {w w' : World} {b r : Nat} (hb : Below w.heap.size w w') (h : Cells4 w b r) : Cells4 w' b r := fun k hk => cell_later hb (h k hk)

theorem below_drawn (w : World) (k : Nat) : Below w.heap.size w (w.drewN k) := ⟨rfl, rfl, rfl, Nat.le_refl _, fun _ _ => rfl⟩
theorem rom_len2 (v : Nat) : (romL v).length ≤ 2 * v := by have := romP_len v 13 (by omega); unfold romL; omega
theorem romF_len (r : Nat) (hr : r ≤ 3999) : ∀ k, (romF r k).length ≤ 8000 * k
  | 0 => by simp [romF]
  | k + 1 => by
    have h1 := romF_len r hr k
    have h2 := rom_len2 (partV r k)
    have h3 := part_le r k hr
    simp only [romF, List.length_append]
    omega
theorem text1 (v : Nat) (h1 : 1 ≤ v) (h2 : v ≤ 3999) : cTextN v 1 = romL v := by
  unfold cTextN; rw [if_neg (by omega), if_pos ⟨rfl, h1, h2⟩]; rfl

set_option maxRecDepth 100000 in
set_option maxHeartbeats 1000000 in
theorem roman_some (n : Int) (m r : Nat) (p : List UInt8) (w : World) (T : Tabs w) (Hm : Hid (cCut n = m)) (hm9 : m ≤ 999999) (Hr : Hid ((m : Int) % 4000 = (r : Int))) (hr1 : 1 ≤ r) (hr2 : r ≤ 3999) (Hp : Hid (cTextN r 2 = p)) (hp9 : p.length ≤ 10000)
    (Hup : Hid (p.length = (romL r).length ∧ ∀ (k : Nat) (h1 : k < p.length) (h2 : k < (romL r).length), (((({ data := p.toArray } : ByteArray)[k]'h1).toNat : Int) != (((({ data := (romL r).toArray } : ByteArray)[k]'h2).toNat : Int) - 32) % 256) = false)) :
    Calls Tryd.prog 7 #[.int .i64 n] w fun e w' => e = .returned (.bool true) ∧ Below w.heap.size w w' := by
  have E0 := Lib.hid (show ((r : Int) / 1000 * 1000) = ((partV r 0 : Nat) : Int) by simp only [partV]; omega)
  have E1 := Lib.hid (show ((r : Int) / 100 % 10 * 100) = ((partV r 1 : Nat) : Int) by simp only [partV]; omega)
  have E2 := Lib.hid (show ((r : Int) / 10 % 10 * 10) = ((partV r 2 : Nat) : Int) by simp only [partV]; omega)
  have E3 := Lib.hid (show ((m : Int) % 10) = ((partV r 3 : Nat) : Int) by have := Hr.out; simp only [partV]; omega)
  have q0 : ((r : Int) == 0) = false := by rw [beq_eq_false_iff_ne]; omega
  have q0' : ((m : Int) % 4000 == 0) = false := by rw [Hr.out]; exact q0
  go_enter Tryd.func7, Tryd.ntmps7
  go_wp2_with fail
  refine (cut_natR n m _ Hm.out).mono ?_
  rintro e w' ⟨rfl, rfl⟩
  go_wp2_with fail
  rw [Hr.out]
  rw [E0.out, E1.out, E2.out, E3.out]
  have ba : Below w.heap.size w (w.alloc (Obj.cells #[Value.int IntKind.i64 (partV r 0 : Nat), Value.int IntKind.i64 (partV r 1 : Nat), Value.int IntKind.i64 (partV r 2 : Nat), Value.int IntKind.i64 (partV r 3 : Nat)] 3)) := (Below.refl _ _).alloc (Nat.le_refl _) _
  have hcells := cells4 w r
  have Tb := T.below ba
  generalize w.alloc (Obj.cells #[Value.int IntKind.i64 (partV r 0 : Nat), Value.int IntKind.i64 (partV r 1 : Nat), Value.int IntKind.i64 (partV r 2 : Nat), Value.int IntKind.i64 (partV r 3 : Nat)] 3) = wa at *
  have HC := Lib.hid hcells
  clear hcells E0 E1 E2 E3
  refine (text_natR r 2 p _ Tb (by omega) Hp.out).mono ?_
  rintro e w1 ⟨rfl, hb⟩
  have B1 := ba.trans (hb.mono ba.size)
  have T1 := Tb.below hb
  have HC1 := Lib.hid (cells_later hb HC.out)
  clear hb Tb HC ba
  go_wp2_with fail
  go_loopw [3, 6] (fun s i wr => ∃ k : Nat, k ≤ 4 ∧ i = .int .i64 k ∧ s = .string ⟨(romF r k).toArray⟩ ∧ Tabs wr ∧ Below w.heap.size w wr ∧ Hid (Cells4 wr w.heap.size r)) (fun _ i _ => 4 - (intOf i).toNat)
  case atStart => exact ⟨0, by omega, rfl, rfl, T1, B1, HC1⟩
  case round =>
    obtain ⟨k, hk, rfl, rfl, Tr, Br, HCr⟩ := hrel
    by_cases hlt : k < 4
    · have hc : wr.cell? ⟨w.heap.size, k, none⟩ = some (.int .i64 (partV r k)) := HCr.out k hlt
      have hv9 := part_le r k hr2
      have HF := Lib.hid (show romF r (k + 1) = romF r k ++ romL (partV r k) from rfl)
      have hfl := romF_len r hr2 k
      have hvl := rom_len2 (partV r k)
      generalize hv : partV r k = v at *
      have HV := Lib.hid hv
      clear hv
      generalize hsk : romF r k = sk at *
      clear hsk
      by_cases hpos : 1 ≤ v
      · have HT := Lib.hid (text1 v hpos hv9)
        generalize hlv : romL v = lv at *
        clear hlv
        have hpos' : (0 : Int) < v := by omega
        go_wp2_with fail
        refine (text_natR v 1 lv _ Tr (by omega) HT.out).mono ?_
        rintro e w2 ⟨rfl, hb⟩
        replace Br := Br.trans (hb.mono Br.size)
        have HC2 := Lib.hid (cells_later hb HCr.out)
        replace Tr := Tr.below hb
        clear hb HCr hc
        go_wp2_with fail
        go_roundw
        case rel => exact ⟨k + 1, by omega, by go_num, by rw [HF.out]; exact str_app _ _, Tr, Br, HC2⟩
        case measure => simp [intOf]; omega
      · obtain rfl : v = 0 := by omega
        go_wp2_with fail
        go_roundw
        case rel => exact ⟨k + 1, by omega, by go_num, by rw [HF.out, rom_zero, List.append_nil], Tr, Br, HCr⟩
        case measure => simp [intOf]; omega
    · obtain rfl : k = 4 := by omega
      have HS := Lib.hid (rom_parts r)
      clear HCr
      go_wp2_with fail
      rw [HS.out]
      refine (text_natR r 1 (romL r) _ Tr (by omega) (text1 r hr1 hr2)).mono ?_
      rintro e w2 ⟨rfl, hb⟩
      replace Br := Br.trans (hb.mono Br.size)
      replace Tr := Tr.below hb
      clear hb HS
      have hql := rom_len2 r
      have hup := Hup.out
      generalize romL r = q at *
      obtain ⟨hpq, hpb⟩ := hup
      have HB := Lib.hid hpb
      clear hpb Hup
      have q1 : ((p.length : Int) != (q.length : Int)) = false := by rw [hpq]; simp
      have hpq1 : p.length ≤ q.length := by omega
      have hpq2 : q.length ≤ p.length := by omega
      clear hpq
      go_wp2_with fail
      go_loopw [7] (fun i wr => ∃ k : Nat, k ≤ q.length ∧ i = .int .i64 k ∧ Tabs wr ∧ Below w.heap.size w wr) (fun i _ => q.length - (intOf i).toNat)
      case atStart => exact ⟨0, by omega, rfl, Tr, Br⟩
      case round =>
        obtain ⟨k, hk, rfl, Tk, Bk⟩ := hrel
        by_cases hlt2 : k < q.length
        · have hl1 : (k : Int) < (q.length : Int) := by omega
          have hl2 : (k : Int) < (p.length : Int) := by omega
          have hl3 : k < p.length := by omega
          have hb := HB.out k hl3 hlt2
          go_wp2_with fail
          go_quiet (fail)
          replace Tk := Tk.below (below_drawn wr nq)
          replace Bk := Bk.trans ((below_drawn wr nq).mono Bk.size)
          generalize wr.drewN nq = wq at *
          go_wp2_with fail
          go_roundw
          case rel => exact ⟨k + 1, by omega, by go_num, Tk, Bk⟩
          case measure => simp [intOf]; omega
        · go_wp2_with fail
          refine (fixed_any _ Tk).mono ?_
          rintro e w4 ⟨rfl, hb⟩
          go_wp2_with fail
          go_ret
          exact ⟨rfl, Bk.trans (hb.mono Bk.size)⟩
theorem rom_low (n k : Nat) (h : k ≤ 13) : ∀ b ∈ (romP n k).2, 97 ≤ b.toNat ∧ b.toNat ≤ 122 := by
  have key : ∀ k : Fin 13, ∀ b ∈ (numAt k).2, 97 ≤ b.toNat ∧ b.toNat ≤ 122 := by decide
  induction k with
  | zero => simp [romP]
  | succ k ih =>
    rw [romP_succ n k (by omega)]
    intro b hb
    simp only [romStep, List.mem_append, List.mem_flatten, List.mem_replicate] at hb
    rcases hb with hb | ⟨l, ⟨_, rfl⟩, hb⟩
    · exact ih (by omega) b hb
    · exact key ⟨k, by omega⟩ b hb
theorem up_all : ∀ x : Fin 256, 97 ≤ x.val → x.val ≤ 122 → (Lib.upperB (UInt8.ofNat x.val)).toNat = x.val - 32 := by decide +kernel
theorem up_one (b : UInt8) (h1 : 97 ≤ b.toNat) (h2 : b.toNat ≤ 122) : (Lib.upperB b).toNat = b.toNat - 32 := by
  have := up_all ⟨b.toNat, by omega⟩ h1 h2
  simpa using this
theorem byteAt (l : List UInt8) (k : Nat) (h : k < ({ data := l.toArray } : ByteArray).size) (h' : k < l.length) : ({ data := l.toArray } : ByteArray)[k]'h = l[k] := by
  show l.toArray[k]'_ = l[k]
  simp
theorem roman_any (n : Int) (w : World) (T : Tabs w) :
    Calls Tryd.prog 7 #[.int .i64 n] w fun e w' => e = .returned (.bool true) ∧ Below w.heap.size w w' := by
  have hn := cCut_bd n
  obtain ⟨m, hm⟩ : ∃ m : Nat, cCut n = m := ⟨(cCut n).toNat, by omega⟩
  by_cases h0 : m % 4000 = 0
  · exact roman_zero n m w T (Lib.hid hm) (by omega) (Lib.hid h0)
  · have e2 : cTextN (m % 4000) 2 = Lib.toUpperA (romL (m % 4000)) := by
      unfold cTextN; rw [if_pos ⟨rfl, by omega, by omega⟩]; rfl
    have hl := rom_len2 (m % 4000)
    refine roman_some n m (m % 4000) (Lib.toUpperA (romL (m % 4000))) w T (Lib.hid hm) (by omega) (Lib.hid (by omega)) (by omega) (by omega) (Lib.hid e2) (by simp [Lib.toUpperA]; omega) (Lib.hid ⟨by simp [Lib.toUpperA], fun k h1 h2 => ?_⟩)
    have hb := rom_low (m % 4000) 13 (by omega) ((romL (m % 4000))[k]) (List.getElem_mem h2)
    rw [byteAt _ k _ h1, byteAt _ k _ h2]
    have e : (Lib.toUpperA (romL (m % 4000)))[k] = Lib.upperB ((romL (m % 4000))[k]) := by simp [Lib.toUpperA]
    rw [e, up_one _ hb.1 hb.2, bne_eq_false_iff_eq]
    omega
end Go.Proofs.YtglhcnhenhfkiaaDoor

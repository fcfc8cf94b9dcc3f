/-
  The walk of CountTells: for every two ints and every list of texts it returns true; the tables lie in memory; old memory stays as it was.
-/
import Derived.Test.YtglhcnhenhfkiaaDoorF7
import Derived.Test.YtglhcnhenhfkiaaDoorT7
import Derived.BigQuiet
import Derived.Deep.QuietTactic
namespace Go.Proofs.YtglhcnhenhfkiaaDoor
open Go.RowKit Go.Sort

theorem add_same (a b x : Int) (o : Bool) (w : World) (hx : cAdd a b = x) (ho : cOver a b = o) :
    Calls Tryd.prog 9 #[.int .i64 a, .int .i64 b] w fun e w' => e = .returned (.tuple #[.int .i64 x, .bool o]) ∧ w = w' := by
  subst hx; subst ho; exact add_any a b w
theorem radd_same (a b x : Int) (o : Bool) (w : World) (hx : cAdd a b = x) (ho : cOver a b = o) :
    Calls Tryd.prog 10 #[.int .i64 a, .int .i64 b] w fun e w' => e = .returned (.tuple #[.int .i64 x, .bool o]) ∧ w = w' := by
  subst hx; subst ho; exact radd_any a b w
theorem cut_same (n x : Int) (w : World) (hx : cCut n = x) :
    Calls Tryd.prog 11 #[.int .i64 n] w fun e w' => e = .returned (.int .i64 x) ∧ w = w' := by
  subst hx; exact cut_any n w
theorem rcut_same (n x : Int) (w : World) (hx : cCut n = x) :
    Calls Tryd.prog 12 #[.int .i64 n] w fun e w' => e = .returned (.int .i64 x) ∧ w = w' := by
  subst hx; exact rcut_any n w
theorem text_same (n style : Int) (l : List UInt8) (w : World) (T : Tabs w) (hl : cText n style = l) :
    Calls Tryd.prog 13 #[.int .i64 n, .int .i64 style] w fun e w' => e = .returned (.string ⟨l.toArray⟩) ∧ Below w.heap.size w w' := by
  subst hl; exact text_any n style w T
theorem rtext_same (n style : Int) (l : List UInt8) (w : World) (hl : cText n style = l) :
    Calls Tryd.prog 14 #[.int .i64 n, .int .i64 style] w fun e w' => e = .returned (.string ⟨l.toArray⟩) ∧ Below w.heap.size w w' := by
  subst hl; exact rtext_any n style w
theorem value_same (l : List UInt8) (style v e : Int) (w : World) (T : Tabs w) (hl : l.length ≤ 1000) (hv : cVal l style = v) (he : cErr l style = e) :
    Calls Tryd.prog 15 #[.string ⟨l.toArray⟩, .int .i64 style] w fun x w' => x = .returned (.tuple #[.int .i64 v, .int .i64 e]) ∧ Below w.heap.size w w' := by
  subst hv; subst he; exact value_any l style w T hl
theorem rvalue_same (l : List UInt8) (style v e : Int) (w : World) (hl : l.length ≤ 1000) (hv : cVal l style = v) (he : cErr l style = e) :
    Calls Tryd.prog 16 #[.string ⟨l.toArray⟩, .int .i64 style] w fun x w' => x = .returned (.tuple #[.int .i64 v, .int .i64 e]) ∧ Below w.heap.size w w' := by
  subst hv; subst he; exact rvalue_any l style w hl

theorem below_dr (w : World) (k : Nat) : Below w.heap.size w (w.drewN k) := ⟨rfl, rfl, rfl, Nat.le_refl _, fun _ _ => rfl⟩
theorem cut30 (s : ByteArray) : ∃ l : List UInt8, Value.string (s.extract 0 (min (s.size : Int) 30).toNat) = .string ⟨l.toArray⟩ ∧ l.length ≤ 30 := by
  refine ⟨(s.extract 0 (min (s.size : Int) 30).toNat).data.toList, rfl, ?_⟩
  simp [ByteArray.data_extract]
  omega
/-- The list's texts lie in memory. -/
def Texts (w : World) (b off n : Nat) (sf : Nat → ByteArray) : Prop := ∀ i, i < n → w.cell? ⟨b, off + i, none⟩ = some (.string (sf i))
theorem Texts.below {w w' : World} {b off n : Nat} {sf : Nat → ByteArray} (h : Texts w b off n sf) (hb : Below w.heap.size w w') : Texts w' b off n sf := fun i hi => cell_later hb (h i hi)

set_option maxRecDepth 100000 in
set_option maxHeartbeats 2000000 in
theorem tells_some (a b : Int) (bl off n cap : Nat) (sf : Nat → ByteArray) (w : World) (T : Tabs w) (HX : Hid (Texts w bl off n sf)) (hn : n ≤ 9223372036854775807) (hsf : ∀ i, (sf i).size ≤ 9223372036854775807) :
    Calls Tryd.prog 3 #[.int .i64 a, .int .i64 b, .slice (some ⟨bl, off, none⟩) n cap] w fun e w' => e = .returned (.bool true) ∧ Below w.heap.size w w' := by
  have B : Below w.heap.size w w := Below.refl _ _
  have HSF := Lib.hid hsf
  clear hsf
  obtain ⟨x, hx⟩ : ∃ x, cAdd a b = x := ⟨_, rfl⟩
  obtain ⟨o, ho⟩ : ∃ o, cOver a b = o := ⟨_, rfl⟩
  obtain ⟨c, hc⟩ : ∃ c, cCut a = c := ⟨_, rfl⟩
  have Hx := Lib.hid hx
  have Ho := Lib.hid ho
  have Hc := Lib.hid hc
  clear hx ho hc
  go_enter Tryd.func3, Tryd.ntmps3
  go_wp2_with fail
  refine (add_same a b x o _ Hx.out Ho.out).mono ?_
  rintro e w' ⟨rfl, rfl⟩
  go_wp2_with fail
  refine (radd_same a b x o _ Hx.out Ho.out).mono ?_
  rintro e w' ⟨rfl, rfl⟩
  go_wp2_with fail
  refine (cut_same a c _ Hc.out).mono ?_
  rintro e w' ⟨rfl, rfl⟩
  go_wp2_with fail
  refine (rcut_same a c _ Hc.out).mono ?_
  rintro e w' ⟨rfl, rfl⟩
  go_wp2_with fail
  go_loopw [11] (fun i wr => ∃ k : Nat, k ≤ 7 ∧ i = .int .i64 ((k : Int) - 1) ∧ Tabs wr ∧ Below w.heap.size w wr ∧ Hid (Texts wr bl off n sf)) (fun i _ => 7 - (intOf i + 1).toNat)
  case atStart => exact ⟨0, by omega, rfl, T, B, HX⟩
  case round =>
    obtain ⟨k, hk, rfl, Tr, Br, HXr⟩ := hrel
    by_cases hlt : k < 7
    · obtain ⟨t, ht⟩ : ∃ t, cText a ((k : Int) - 1) = t := ⟨_, rfl⟩
      have Ht := Lib.hid ht
      clear ht
      have hk6 : (k : Int) - 1 < 6 := by omega
      go_wp2_with fail
      refine (text_same a ((k : Int) - 1) t _ Tr Ht.out).mono ?_
      rintro e w2 ⟨rfl, hb⟩
      replace Br := Br.trans (hb.mono Br.size)
      have HX2 := Lib.hid (HXr.out.below hb)
      replace Tr := Tr.below hb
      clear hb HXr
      go_wp2_with fail
      refine (rtext_same a ((k : Int) - 1) t _ Ht.out).mono ?_
      rintro e w3 ⟨rfl, hb⟩
      replace Br := Br.trans (hb.mono Br.size)
      have HX3 := Lib.hid (HX2.out.below hb)
      replace Tr := Tr.below hb
      clear hb HX2
      go_wp2_with fail
      go_loopw [12] (fun i wr => ∃ j : Nat, j ≤ 4 ∧ i = .int .i64 j ∧ Tabs wr ∧ Below w.heap.size w wr ∧ Hid (Texts wr bl off n sf)) (fun i _ => 4 - (intOf i).toNat)
      case atStart => exact ⟨0, by omega, rfl, Tr, Br, HX3⟩
      case round =>
        obtain ⟨j, hj, rfl, Tj, Bj, HXj⟩ := hrel
        by_cases hjn : j < n
        · have hjn' : (j : Int) < (n : Int) := by omega
          by_cases hj4 : j < 4
          · have hj4' : (j : Int) < 4 := by omega
            have hcell := HXj.out j hjn
            have hsz := HSF.out j
            generalize sf j = s at *
            go_wp2_with fail
            go_quiet (fail)
            obtain ⟨li, hli, hl30⟩ := cut30 s
            have HL := Lib.hid hli
            clear hli
            rw [HL.out]
            replace Tj := Tj.below (below_dr wr nq)
            replace Bj := Bj.trans ((below_dr wr nq).mono Bj.size)
            have HX4 := Lib.hid (HXj.out.below (below_dr wr nq))
            clear HXj hcell HL
            generalize wr.drewN nq = wq at *
            obtain ⟨v, hv⟩ : ∃ v, cVal li ((k : Int) - 1) = v := ⟨_, rfl⟩
            obtain ⟨er, her⟩ : ∃ er, cErr li ((k : Int) - 1) = er := ⟨_, rfl⟩
            have HV := Lib.hid hv
            have HE := Lib.hid her
            clear hv her
            go_wp2_with fail
            refine (value_same li ((k : Int) - 1) v er _ Tj (by omega) HV.out HE.out).mono ?_
            rintro e w4 ⟨rfl, hb⟩
            replace Bj := Bj.trans (hb.mono Bj.size)
            have HX5 := Lib.hid (HX4.out.below hb)
            replace Tj := Tj.below hb
            clear hb HX4
            go_wp2_with fail
            refine (rvalue_same li ((k : Int) - 1) v er _ (by omega) HV.out HE.out).mono ?_
            rintro e w5 ⟨rfl, hb⟩
            replace Bj := Bj.trans (hb.mono Bj.size)
            have HX6 := Lib.hid (HX5.out.below hb)
            replace Tj := Tj.below hb
            clear hb HX5
            go_wp2_with fail
            go_roundw
            case rel => exact ⟨j + 1, by omega, by go_num, Tj, Bj, HX6⟩
            case measure => simp [intOf]; omega
          · have hj4' : decide ((j : Int) < 4) = false := by simp; omega
            go_wp2_with fail
            go_roundw
            case rel => exact ⟨k + 1, by omega, by go_num, Tj, Bj, HXj⟩
            case measure => simp [intOf]; omega
        · have hjn' : decide (j < n) = false := by simp; omega
          go_wp2_with fail
          go_roundw
          case rel => exact ⟨k + 1, by omega, by go_num, Tj, Bj, HXj⟩
          case measure => simp [intOf]; omega
    · obtain rfl : k = 7 := by omega
      go_wp2_with fail
      refine (fixed_any _ Tr).mono ?_
      rintro e w4 ⟨rfl, hb⟩
      go_wp2_with fail
      go_ret
      exact ⟨rfl, Br.trans (hb.mono Br.size)⟩
set_option maxRecDepth 100000 in
set_option maxHeartbeats 2000000 in
theorem tells_none (a b : Int) (ad : Option Addr) (cap : Nat) (w : World) (T : Tabs w) :
    Calls Tryd.prog 3 #[.int .i64 a, .int .i64 b, .slice ad 0 cap] w fun e w' => e = .returned (.bool true) ∧ Below w.heap.size w w' := by
  have B : Below w.heap.size w w := Below.refl _ _
  obtain ⟨x, hx⟩ : ∃ x, cAdd a b = x := ⟨_, rfl⟩
  obtain ⟨o, ho⟩ : ∃ o, cOver a b = o := ⟨_, rfl⟩
  obtain ⟨c, hc⟩ : ∃ c, cCut a = c := ⟨_, rfl⟩
  have Hx := Lib.hid hx
  have Ho := Lib.hid ho
  have Hc := Lib.hid hc
  clear hx ho hc
  go_enter Tryd.func3, Tryd.ntmps3
  go_wp2_with fail
  refine (add_same a b x o _ Hx.out Ho.out).mono ?_
  rintro e w' ⟨rfl, rfl⟩
  go_wp2_with fail
  refine (radd_same a b x o _ Hx.out Ho.out).mono ?_
  rintro e w' ⟨rfl, rfl⟩
  go_wp2_with fail
  refine (cut_same a c _ Hc.out).mono ?_
  rintro e w' ⟨rfl, rfl⟩
  go_wp2_with fail
  refine (rcut_same a c _ Hc.out).mono ?_
  rintro e w' ⟨rfl, rfl⟩
  go_wp2_with fail
  go_loopw [11] (fun i wr => ∃ k : Nat, k ≤ 7 ∧ i = .int .i64 ((k : Int) - 1) ∧ Tabs wr ∧ Below w.heap.size w wr) (fun i _ => 7 - (intOf i + 1).toNat)
  case atStart => exact ⟨0, by omega, rfl, T, B⟩
  case round =>
    obtain ⟨k, hk, rfl, Tr, Br⟩ := hrel
    by_cases hlt : k < 7
    · obtain ⟨t, ht⟩ : ∃ t, cText a ((k : Int) - 1) = t := ⟨_, rfl⟩
      have Ht := Lib.hid ht
      clear ht
      have hk6 : (k : Int) - 1 < 6 := by omega
      go_wp2_with fail
      refine (text_same a ((k : Int) - 1) t _ Tr Ht.out).mono ?_
      rintro e w2 ⟨rfl, hb⟩
      replace Br := Br.trans (hb.mono Br.size)
      replace Tr := Tr.below hb
      clear hb
      go_wp2_with fail
      refine (rtext_same a ((k : Int) - 1) t _ Ht.out).mono ?_
      rintro e w3 ⟨rfl, hb⟩
      replace Br := Br.trans (hb.mono Br.size)
      replace Tr := Tr.below hb
      clear hb
      go_wp2_with fail
      go_loopw [12] (fun i wr => i = .int .i64 0 ∧ Tabs wr ∧ Below w.heap.size w wr) (fun i _ => 0)
      case atStart => exact ⟨rfl, Tr, Br⟩
      case round =>
        obtain ⟨rfl, Tj, Bj⟩ := hrel
        go_wp2_with fail
        go_roundw
        case rel => exact ⟨k + 1, by omega, by go_num, Tj, Bj⟩
        case measure => simp [intOf]; omega
    · obtain rfl : k = 7 := by omega
      go_wp2_with fail
      refine (fixed_any _ Tr).mono ?_
      rintro e w4 ⟨rfl, hb⟩
      go_wp2_with fail
      go_ret
      exact ⟨rfl, Br.trans (hb.mono Br.size)⟩
end Go.Proofs.YtglhcnhenhfkiaaDoor

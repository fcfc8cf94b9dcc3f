/-
  strings.Contains (the shelf's contract, laid at this program's numbers); package items: key.
  Package items: whole.
  Package items: Right.
  Package items: shown, Show.
  What the laws ask of the landed package items, put together; the wrap of a row whose walk wants the world's shape too.
  The contract of the laws' fixed calls: they answer true; old memory stays.
  What the laws' walks share: how long what is parsed is, lists that are the same.
-/
import Derived.Shelf.Strings.Search3
import Derived.Test.YtckldeabbkdbjaaDoorK15
import Derived.Test.YtckldeabbkdbjaaDoorK08
import Derived.Test.YtckldeabbkdbjaaDoorK16
import Derived.Test.YtckldeabbkdbjaaDoorRows
import Derived.HandedShaped
import Derived.Shelf.Vars
namespace Go.Proofs
open Go.Shelf
def Tryd.lays144_ren : Go.Shelf.Ren := ⟨fun | 143 => 81 | 144 => 70 | 217 => 88 | 219 => 82 | 224 => 90 | 225 => 89 | 266 => 95 | 267 => 91 | 314 => 96 | n => n, fun | 3 => 3 | 4 => 4 | 5 => 5 | 9 => 9 | 46 => 135 | 51 => 137 | 146 => 138 | n => n, fun | 1 => 0 | n => n⟩
theorem Tryd.lays144 : Go.Proofs.Lays.n144 Tryd.prog Tryd.lays144_ren := {
  mixed := by kernel_rfl
  f143 := Tryd.func81.trans (congrArg some (by kernel_rfl))
  f144 := Tryd.func70.trans (congrArg some (by kernel_rfl))
  f217 := Tryd.func88.trans (congrArg some (by kernel_rfl))
  f219 := Tryd.func82.trans (congrArg some (by kernel_rfl))
  f224 := Tryd.func90.trans (congrArg some (by kernel_rfl))
  f225 := Tryd.func89.trans (congrArg some (by kernel_rfl))
  f266 := Tryd.func95.trans (congrArg some (by kernel_rfl))
  f267 := Tryd.func91.trans (congrArg some (by kernel_rfl))
  f314 := Tryd.func96.trans (congrArg some (by kernel_rfl))
  t3 := Tryd.underlying3
  a3 := Tryd.isAgg3
  z3 := Tryd.sizeOf3
  v3 := Tryd.zeroValue3
  t4 := Tryd.underlying4
  a4 := Tryd.isAgg4
  z4 := Tryd.sizeOf4
  v4 := Tryd.zeroValue4
  t5 := Tryd.underlying5
  a5 := Tryd.isAgg5
  z5 := Tryd.sizeOf5
  v5 := Tryd.zeroValue5
  t9 := Tryd.underlying9
  a9 := Tryd.isAgg9
  z9 := Tryd.sizeOf9
  v9 := Tryd.zeroValue9
  t46 := Tryd.underlying135
  a46 := Tryd.isAgg135
  z46 := Tryd.sizeOf135
  v46 := Tryd.zeroValue135
  t51 := Tryd.underlying137
  a51 := Tryd.isAgg137
  z51 := Tryd.sizeOf137
  v51 := Tryd.zeroValue137
  t146 := Tryd.underlying138
  a146 := Tryd.isAgg138
  z146 := Tryd.sizeOf138
  v146 := Tryd.zeroValue138
  g1 := by kernel_rfl
}
end Go.Proofs
namespace Go.Proofs.YtckldeabbkdbjaaDoor
open Go.RowKit

theorem contains_any (s sub : ByteArray) (w : World) (h : M0 w) (hs : s.size ≤ 1000000) : Calls Tryd.prog 70 #[.string s, .string sub] w fun e w' => e = .returned (.bool (Lib.contains s.data.toList sub.data.toList)) ∧ w' = w := by
  obtain ⟨m, hm⟩ := h
  exact Any.strings_Contains Tryd.lays144 s sub m w (by omega) hm
/-- Do two blanks stand beside each other? -/
def dbl : By → Bool
  | c :: d :: r => (c == 32 && d == 32) || dbl (d :: r)
  | _ => false
theorem dbl_index : ∀ s : By, (0 ≤ Lib.index s [32, 32] ↔ dbl s = true) ∧ -1 ≤ Lib.index s [32, 32]
  | [] => by simp [Lib.index, dbl]
  | [c] => by
    have h : Lib.index [c] [32, 32] = -1 := by
      simp only [Lib.index]
      simp [List.isPrefixOf]
    rw [h]
    simp [dbl]
  | c :: d :: r => by
    obtain ⟨h1, h2⟩ := dbl_index (d :: r)
    have hp : ([32, 32] : By).isPrefixOf (c :: d :: r) = (c == 32 && d == 32) := by
      simp only [List.isPrefixOf, Bool.and_true]
      rw [Bool.beq_comm (a := c), Bool.beq_comm (a := d)]
    rw [Lib.index, hp, dbl]
    cases hcd : (c == 32 && d == 32)
    · simp only [Bool.false_or, Bool.false_eq_true, if_false]
      by_cases hm : Lib.index (d :: r) [32, 32] = -1
      · rw [if_pos (by simpa using hm)]
        rw [hm] at h1
        exact ⟨⟨fun h => absurd h (by decide), fun h => absurd (h1.2 h) (by decide)⟩, by decide⟩
      · rw [if_neg (by simpa using hm)]
        exact ⟨⟨fun _ => h1.1 (by omega), fun h => by have := h1.2 h; omega⟩, by omega⟩
    · simp
theorem dbl_contains (s : By) : Lib.contains s [32, 32] = dbl s := by
  unfold Lib.contains
  have := (dbl_index s).1
  cases h : dbl s
  · rw [decide_eq_false_iff_not]
    intro q
    rw [this.1 q] at h
    cases h
  · rw [decide_eq_true_eq]
    exact this.2 h
theorem dbl_other {c : UInt8} (r : By) (h : c ≠ 32) : dbl (c :: r) = dbl r := by
  cases r with
  | nil => rfl
  | cons d r => rw [dbl]; simp [h]
theorem dbl_blank (r : By) : (dbl (32 :: r) = false) ↔ (r.head? ≠ some 32 ∧ dbl r = false) := by
  cases r with
  | nil => simp [dbl]
  | cons d r => rw [dbl]; simp
theorem sq_self : ∀ s : By, (sqG false s = s ↔ dbl s = false) ∧ (sqG true s = s ↔ s.head? ≠ some 32 ∧ dbl s = false)
  | [] => by simp [sqG, dbl]
  | c :: r => by
    obtain ⟨h1, h2⟩ := sq_self r
    by_cases hc : c = 32
    · subst hc
      refine ⟨?_, ?_⟩
      · rw [dbl_blank, ← h2]
        simp [sqG]
      · have hl := sq_len r true
        refine ⟨fun h => ?_, fun h => absurd rfl h.1⟩
        have e : sqG true (32 :: r) = sqG true r := by simp [sqG]
        rw [e] at h
        rw [h, List.length_cons] at hl
        omega
    · rw [dbl_other r hc]
      refine ⟨?_, ?_⟩
      · rw [← h1]; simp [sqG, hc]
      · rw [← h1]; simp [sqG, hc]
theorem trims_len {s : By} (h : s.length ≤ (trl (trr s)).length) : trl (trr s) = s := by
  have h1 := trl_len (trr s)
  have h2 := trr_len s
  obtain ⟨⟨m, hm⟩, _⟩ := trr_ex s
  obtain ⟨⟨k, hk⟩, _⟩ := trl_ex (trr s)
  have e1 := congrArg List.length hm
  have e2 := congrArg List.length hk
  rw [List.length_append, List.length_replicate] at e1 e2
  obtain rfl : m = 0 := by omega
  obtain rfl : k = 0 := by omega
  simp only [List.replicate_zero, List.append_nil, List.nil_append] at hm hk
  rw [← hk, ← hm]
theorem key_form (s : By) : (sqL s = s) ↔ (trl (trr s) = s ∧ dbl s = false) := by
  constructor
  · intro h
    have hq := sq_trims s
    rw [h] at hq
    have hl := sq_len (trl (trr s)) true
    rw [← hq] at hl
    have ht := trims_len hl
    rw [ht] at hq
    exact ⟨ht, ((sq_self s).2.1 hq.symm).2⟩
  · rintro ⟨h1, h2⟩
    rw [sq_trims, h1]
    refine (sq_self s).2.2 ⟨?_, h2⟩
    have := (trl_ex (trr s)).2
    rwa [h1] at this
set_option maxRecDepth 100000 in
set_option maxHeartbeats 2000000 in
theorem key_any (s : By) (w : World) (h : M0 w) (hs : s.length ≤ 100000) : Calls Tryd.prog 53 #[.string ⟨s.toArray⟩] w fun e w' => e = .returned (.bool (keyI s)) ∧ Below w.heap.size w w' := by
  have CT := Lib.hid (trim_any ⟨s.toArray⟩ w (by show s.length ≤ _; omega))
  have CC := Lib.hid (fun (W : World) (hm : M0 W) => contains_any ⟨s.toArray⟩ ⟨#[32, 32]⟩ W hm (by show s.length ≤ _; omega))
  have HM := Lib.hid h
  clear h
  by_cases h0 : s = []
  · have e : keyI s = false := by unfold keyI; simp [h0]
    rw [e]
    have q0 : (s == ([] : By)) = true := by simpa using h0
    clear h0 e
    go_enter Tryd.func53, Tryd.ntmps53
    go_wp2
    go_ret
    exact ⟨rfl, Below.refl _ _⟩
  · have q0 : (s == ([] : By)) = false := by simpa using h0
    by_cases h6 : 60 < s.length
    · have e : keyI s = false := by unfold keyI; simp; intro _ q; omega
      rw [e]
      have i6 : (60 : Int) < (s.length : Int) := by omega
      clear h0 e
      go_enter Tryd.func53, Tryd.ntmps53
      go_wp2
      go_ret
      exact ⟨rfl, Below.refl _ _⟩
    · have i6 : (s.length : Int) ≤ 60 := by omega
      have HE := Lib.hid (show keyI s = (decide (trl (trr s) = s) && !(Lib.contains s [32, 32])) by
        rw [dbl_contains]
        unfold keyI
        have := key_form s
        cases hd : dbl s
        · simp only [hd, and_true] at this
          simp only [this, Bool.not_false, Bool.and_true]
          congr 1
          exact propext ⟨fun q => q.2.2, fun q => ⟨h0, by omega, q⟩⟩
        · simp only [hd] at this
          simp only [Bool.not_true, Bool.and_false, decide_eq_false_iff_not]
          rintro ⟨_, _, q⟩
          exact absurd (this.1 q).2 (by decide))
      obtain ⟨t, ht⟩ : ∃ t, trl (trr s) = t := ⟨_, rfl⟩
      have CT2 : Hid (Calls Tryd.prog 69 #[.string ⟨s.toArray⟩, .string ⟨#[32]⟩] w fun e w' => e = .returned (.string ⟨t.toArray⟩) ∧ ∃ n, w' = w.drewN n) := Lib.hid (by rw [← ht]; exact CT.out)
      rw [ht] at HE
      clear CT ht h6 h0
      by_cases hts : t = s
      · have qt : (t == s) = true := by simpa using hts
        have HE2 := Lib.hid (show keyI s = !(Lib.contains s [32, 32]) by rw [HE.out, decide_eq_true hts, Bool.true_and])
        clear hts HE
        go_enter Tryd.func53, Tryd.ntmps53
        go_wp2_with fail
        refine CT2.out.mono ?_
        rintro e w1 ⟨rfl, nd, rfl⟩
        have CC1 := Lib.hid (CC.out (w.drewN nd) (HM.out.below (drewN_below w nd)))
        go_wp2_with fail
        refine CC1.out.mono ?_
        rintro e w2 ⟨rfl, rfl⟩
        go_wp2
        go_ret
        exact ⟨by rw [HE2.out]; rfl, drewN_below w nd⟩
      · have qt : (t == s) = false := by simpa using hts
        have HE2 := Lib.hid (show keyI s = false by rw [HE.out, decide_eq_false hts, Bool.false_and])
        clear hts HE
        go_enter Tryd.func53, Tryd.ntmps53
        go_wp2_with fail
        refine CT2.out.mono ?_
        rintro e w1 ⟨rfl, nd, rfl⟩
        go_wp2
        go_ret
        exact ⟨by rw [HE2.out]; rfl, drewN_below w nd⟩
end Go.Proofs.YtckldeabbkdbjaaDoor

namespace Go.Proofs.YtckldeabbkdbjaaDoor
open Go.RowKit

theorem form_in {κ : Int} (h : 4 ≤ κ ∧ κ ≤ 16) : formF κ = some (.agg #[.string ⟨(nameI κ.toNat).toArray⟩, .bool (decide (κ ≤ 13))]) := by
  unfold formF formV
  rw [if_pos h]
  have e : decide (κ.toNat ≤ 13) = decide (κ ≤ 13) := by
    by_cases q : κ ≤ 13
    · rw [decide_eq_true q, decide_eq_true (by omega)]
    · rw [decide_eq_false q, decide_eq_false (by omega)]
  rw [e]
theorem form_out {κ : Int} (h : ¬ (4 ≤ κ ∧ κ ≤ 16)) : formF κ = none := if_neg h
set_option maxRecDepth 100000 in
set_option maxHeartbeats 4000000 in
theorem whole_any (m : Nat) (κ : Int) (z : By) (w : World) (hm : BI w m 13 formF) (h0 : M0 w) (hκ : W64 κ) (hz : z.length ≤ 100000) :
    Calls Tryd.prog 33 #[.agg #[.int .i64 κ, .string ⟨z.toArray⟩], .map (some m)] w fun e w' => e = .returned (.bool (okI (κ, z))) ∧ Below w.heap.size w w' := by
  have b1 := one_below w (.cells #[.int .i64 κ, .string ⟨z.toArray⟩] 49)
  have hn := heap_alloc_new w (.cells #[.int .i64 κ, .string ⟨z.toArray⟩] 49)
  have c0 := cell_of hn 0
  have c1 := cell_of hn 1
  have hm1 := hm.of_block (b1.block _ hm.lt)
  have hlk := hm1.look und73 (zero103 _) hκ
  have HM := Lib.hid (h0.below b1)
  have HN := Lib.hid hn
  obtain ⟨w1, hw1⟩ : ∃ w1, w.alloc (.cells #[.int .i64 κ, .string ⟨z.toArray⟩] 49) = w1 := ⟨_, rfl⟩
  rw [hw1] at b1 hlk HM HN c0 c1
  have hs1 : w1.heap.size = w.heap.size + 1 := by rw [← hw1]; simp
  have HB := Lib.hid b1
  clear b1 hn hm1 hm h0 hκ
  by_cases q1 : κ = 1
  · subst q1
    have HE := Lib.hid (show okI (1, z) = !List.isEmpty z by rw [okI_one]; cases z <;> rfl)
    clear hlk
    go_enter Tryd.func33, Tryd.ntmps33
    go_wp2
    go_ret
    exact ⟨by rw [HE.out]; rfl, HB.out⟩
  · have n1 : (κ == 1) = false := by simpa using q1
    by_cases q2 : κ = 2
    · subst q2
      have HE := Lib.hid (show okI (2, z) = List.isEmpty z by rw [okI_void (.inl rfl)]; cases z <;> rfl)
      clear hlk
      go_enter Tryd.func33, Tryd.ntmps33
      go_wp2
      go_ret
      exact ⟨by rw [HE.out]; rfl, HB.out⟩
    · have n2 : (κ == 2) = false := by simpa using q2
      by_cases q3 : κ = 3
      · subst q3
        have HE := Lib.hid (show okI (3, z) = List.isEmpty z by rw [okI_void (.inr (.inl rfl))]; cases z <;> rfl)
        clear hlk
        go_enter Tryd.func33, Tryd.ntmps33
        go_wp2
        go_ret
        exact ⟨by rw [HE.out]; rfl, HB.out⟩
      · have n3 : (κ == 3) = false := by simpa using q3
        by_cases hin : 4 ≤ κ ∧ κ ≤ 16
        · rw [form_in hin] at hlk
          simp only [Option.getD_some, Option.isSome_some] at hlk
          by_cases h13 : κ ≤ 13
          · rw [decide_eq_true h13] at hlk
            have HE := Lib.hid (okI_key (z := z) ⟨hin.1, h13⟩)
            have b2 := one_below w1 (.cells #[.string ⟨(nameI κ.toNat).toArray⟩, .bool true] 103)
            have CK := Lib.hid (key_any z _ (HM.out.below b2) hz)
            have d1 := cell_below b2 c1
            have HB2 := Lib.hid (bch HB.out b2)
            clear hin h13 b2
            go_enter Tryd.func33, Tryd.ntmps33
            go_wp2_with fail
            refine CK.out.mono ?_
            rintro e w3 ⟨rfl, hb3⟩
            go_wp2
            go_ret
            exact ⟨by rw [HE.out]; rfl, bch HB2.out hb3⟩
          · rw [decide_eq_false h13] at hlk
            have HE := Lib.hid (show okI (κ, z) = List.isEmpty z by rw [okI_void (.inr (.inr ⟨by omega, hin.2⟩))]; cases z <;> rfl)
            have b2 := one_below w1 (.cells #[.string ⟨(nameI κ.toNat).toArray⟩, .bool false] 103)
            have d1 := cell_below b2 c1
            have HB2 := Lib.hid (bch HB.out b2)
            clear hin h13 b2
            go_enter Tryd.func33, Tryd.ntmps33
            go_wp2
            go_ret
            exact ⟨by rw [HE.out]; rfl, HB2.out⟩
        · rw [form_out hin] at hlk
          simp only [Option.getD_none, Option.isSome_none] at hlk
          have HE := Lib.hid (show okI (κ, z) = false from okI_low (by omega))
          have b2 := one_below w1 (.cells #[.string ⟨#[]⟩, .bool false] 103)
          have HB2 := Lib.hid (bch HB.out b2)
          clear hin b2
          go_enter Tryd.func33, Tryd.ntmps33
          go_wp2
          go_ret
          exact ⟨by rw [HE.out]; rfl, HB2.out⟩
end Go.Proofs.YtckldeabbkdbjaaDoor

namespace Go.Proofs.YtckldeabbkdbjaaDoor
open Go.RowKit

theorem BI.below {w w' : World} {m N : Nat} {f : Int → Option Value} (h : BI w m N f) (hb : Below w.heap.size w w') : BI w' m N f := h.of_block (hb.block _ h.lt)
set_option maxRecDepth 100000 in
set_option maxHeartbeats 8000000 in
theorem right_any (A : Option Addr) (c : Nat) (ts : List Tok) (w : World) (hr : Rd w A ts) (hl : ts.length ≤ 400) (hz : Hid (∀ t ∈ ts, t.2.length ≤ 4000)) (hk : Hid (∀ t ∈ ts, W64 t.1)) (h0 : M0 w) :
    Calls Tryd.prog 16 #[.slice A ts.length c] w fun en w' => en = .returned (.bool (rightI false ts)) ∧ Below w.heap.size w w' := by
  have CF := Lib.hid (forms_any w)
  go_enter Tryd.func16, Tryd.ntmps16
  go_wp2_with fail
  refine CF.out.mono ?_
  rintro e w1 ⟨rfl, hbi, hb1⟩
  have HI0 := Lib.hid hbi
  have HB0 := Lib.hid hb1
  clear CF hbi hb1
  obtain ⟨m, hm⟩ : ∃ m, w.heap.size = m := ⟨_, rfl⟩
  rw [hm] at HI0 HB0 ⊢
  go_wp2_with fail
  go_loopw [9] (fun i wr => ∃ k : Nat, i = .int .i64 k ∧ k ≤ ts.length ∧ Hid (rightI false (ts.take k) = true) ∧ Hid (BI wr m 13 formF) ∧ Hid (Below m w wr)) (fun i _ => ts.length - (intOf i).toNat)
  case atStart => exact ⟨0, rfl, Nat.zero_le _, Lib.hid rfl, HI0, HB0⟩
  case round =>
    obtain ⟨k, rfl, hkl, HX, HI, HB⟩ := hrel
    by_cases hlt : k < ts.length
    · have hrw := hr.below (show Below w.heap.size w wr by rw [hm]; exact HB.out)
      have h0w := h0.below (show Below w.heap.size w wr by rw [hm]; exact HB.out)
      obtain ⟨b, o, hA, hcell⟩ := hrw (by omega)
      obtain ⟨f, hf⟩ : ∃ f, ts[k]? = some f := ⟨_, List.getElem?_eq_getElem hlt⟩
      obtain ⟨c1, c2⟩ := hcell k f hf
      have hzl := hz.out f (List.mem_of_getElem? hf)
      have hkf := hk.out f (List.mem_of_getElem? hf)
      obtain ⟨T1, T2⟩ := right_take hf HX.out _ rfl
      have HT1 := Lib.hid T1
      have HT2 := Lib.hid T2
      obtain ⟨κ, z⟩ := f
      simp only at c1 c2 hzl hkf
      have i1 : (k : Int) < (ts.length : Int) := by omega
      have bV := one_below wr (.cells #[.int .i64 κ, .string ⟨z.toArray⟩] 49)
      have t0 := new_fst wr (.int .i64 κ) (.string ⟨z.toArray⟩) 49
      have t1 := new_snd wr (.int .i64 κ) (.string ⟨z.toArray⟩) 49
      have HIV := Lib.hid (HI.out.below bV)
      have HBV := Lib.hid (HB.out.trans (bV.mono (by have := HB.out.size; omega)))
      have HRV := Lib.hid (hrw.below bV)
      obtain ⟨V, hV⟩ : ∃ V, wr.alloc (.cells #[.int .i64 κ, .string ⟨z.toArray⟩] 49) = V := ⟨_, rfl⟩
      have h0V := h0w.below bV
      rw [hV] at t0 t1 HIV HBV HRV h0V
      have hms : m ≤ V.heap.size := by have := HBV.out.size; omega
      have C := Lib.hid (whole_any m κ z V HIV.out h0V hkf (by omega))
      subst hA
      clear T1 T2 hrw h0w bV hcell hkf h0V HI HB
      cases hok : okI (κ, z) with
      | false =>
        have HE := Lib.hid (HT2.out (.inl hok))
        rw [hok] at C
        clear hf HT1 HT2 hok
        go_wp2_with fail
        refine C.out.mono ?_
        rintro e w2 ⟨rfl, hb2⟩
        go_wp2_with fail
        go_ret
        exact ⟨by rw [HE.out]; rfl, by rw [hm]; exact HBV.out.trans (hb2.mono hms)⟩
      | true =>
        rw [hok] at C
        have HOK := Lib.hid hok
        clear hok
        rcases Nat.eq_zero_or_pos k with rfl | hkp
        · simp only [Nat.zero_mul, Nat.add_zero] at c1 c2
          have HN := Lib.hid (HT1.out HOK.out (fun h => by simp [endT] at h))
          clear hf HT1 HT2
          go_wp2_with fail
          refine C.out.mono ?_
          rintro e w2 ⟨rfl, hb2⟩
          have HI2 := Lib.hid (HIV.out.below hb2)
          have HB2 := Lib.hid (HBV.out.trans (hb2.mono hms))
          have t0 := cell_below hb2 t0
          clear hb2 C
          go_wp2_with fail
          go_roundw
          case rel => exact ⟨0 + 1, by go_num, by omega, HN, HI2, HB2⟩
          case measure => simp [intOf]; omega
        · obtain ⟨j, rfl⟩ : ∃ j, k = j + 1 := ⟨k - 1, by omega⟩
          obtain ⟨g, hg⟩ : ∃ g, ts[j]? = some g := ⟨_, List.getElem?_eq_getElem (by omega)⟩
          have HE := Lib.hid (end_take hg false)
          have HG := Lib.hid hg
          have hwj : IntKind.i64.wrap (((j + 1 : Nat) : Int) - 1) = (j : Int) := by rw [show ((j + 1 : Nat) : Int) - 1 = (j : Int) by omega]; exact IntWalk.i64_in _ (by omega)
          have ij : (j : Int) < (ts.length : Int) := by omega
          clear hg hf
          by_cases hk1 : κ = 1
          · have n1 : (κ == 1) = true := by simpa using hk1
            by_cases hg1 : g.1 = 1
            · have n2 : (g.1 == 1) = true := by simpa using hg1
              have HF := Lib.hid (HT2.out (.inr ⟨by rw [HE.out]; exact n2, hk1⟩))
              clear HT1 HT2 hk1 hg1
              go_wp2_with fail
              refine C.out.mono ?_
              rintro e w2 ⟨rfl, hb2⟩
              have HB2 := Lib.hid (HBV.out.trans (hb2.mono hms))
              have t0 := cell_below hb2 t0
              obtain ⟨b', o', hA, hcell⟩ := HRV.out.below hb2 (by omega)
              cases hA
              obtain ⟨d1, d2⟩ := hcell j g HG.out
              clear hb2 C hcell
              go_wp2_with fail
              go_ret
              exact ⟨by rw [HF.out]; rfl, by rw [hm]; exact HB2.out⟩
            · have n2 : (g.1 == 1) = false := by simpa using hg1
              have HN := Lib.hid (HT1.out HOK.out (fun h => by rw [HE.out] at h; exact absurd h.1 (by rw [n2]; decide)))
              clear HT1 HT2 hk1 hg1
              go_wp2_with fail
              refine C.out.mono ?_
              rintro e w2 ⟨rfl, hb2⟩
              have HI2 := Lib.hid (HIV.out.below hb2)
              have HB2 := Lib.hid (HBV.out.trans (hb2.mono hms))
              have t0 := cell_below hb2 t0
              obtain ⟨b', o', hA, hcell⟩ := HRV.out.below hb2 (by omega)
              cases hA
              obtain ⟨d1, d2⟩ := hcell j g HG.out
              clear hb2 C hcell
              go_wp2_with fail
              go_roundw
              case rel => exact ⟨j + 1 + 1, by go_num, by omega, HN, HI2, HB2⟩
              case measure => simp [intOf]; omega
          · have n1 : (κ == 1) = false := by simpa using hk1
            have HN := Lib.hid (HT1.out HOK.out (fun h => hk1 h.2))
            clear HT1 HT2 hk1
            go_wp2_with fail
            refine C.out.mono ?_
            rintro e w2 ⟨rfl, hb2⟩
            have HI2 := Lib.hid (HIV.out.below hb2)
            have HB2 := Lib.hid (HBV.out.trans (hb2.mono hms))
            have t0 := cell_below hb2 t0
            clear hb2 C
            go_wp2_with fail
            go_roundw
            case rel => exact ⟨j + 1 + 1, by go_num, by omega, HN, HI2, HB2⟩
            case measure => simp [intOf]; omega
    · have HF := Lib.hid (show rightI false ts = true by have := HX.out; rwa [List.take_of_length_le (by omega)] at this)
      have hni : ¬ (k : Int) < (ts.length : Int) := by omega
      go_wp2_with fail
      go_ret
      exact ⟨by rw [HF.out]; rfl, HB.out⟩
end Go.Proofs.YtckldeabbkdbjaaDoor

namespace Go.Proofs.YtckldeabbkdbjaaDoor
open Go.RowKit

def ShownPost (w : World) (l : List Tok) (e : Ending) (w' : World) : Prop := ∃ A c, e = .returned (.slice A l.length c) ∧ Rd w' A l ∧ Below w.heap.size w w'
theorem shown_lit (w V : World) (l : List Tok) {e : Ending} {q : Nat} (hb : Below w.heap.size w V) (hq : V.heap.size = q) (h : e = .returned (.slice (some ⟨q, 0, none⟩) l.length l.length)) : ShownPost w l e (V.alloc (.cells (fcells l).toArray 48)) := by
  subst hq
  exact ⟨_, _, h, jlit_read V l 48, bch hb (one_below V _)⟩
theorem shown_four (nm z : By) : fcells [(4, nm), (5, []), (1, z), (6, [])] = [.int .i64 4, .string ⟨nm.toArray⟩, .int .i64 5, .string ⟨#[]⟩, .int .i64 1, .string ⟨z.toArray⟩, .int .i64 6, .string ⟨#[]⟩] := rfl
set_option maxRecDepth 100000 in
set_option maxHeartbeats 4000000 in
theorem shown_any (m : Nat) (κ : Int) (z : By) (w : World) (hm : BI w m 13 formF) (hκ : W64 κ) :
    Calls Tryd.prog 35 #[.agg #[.int .i64 κ, .string ⟨z.toArray⟩], .map (some m)] w (ShownPost w (showT (κ, z))) := by
  have b1 := one_below w (.cells #[.int .i64 κ, .string ⟨z.toArray⟩] 49)
  have hn := heap_alloc_new w (.cells #[.int .i64 κ, .string ⟨z.toArray⟩] 49)
  have c0 := cell_of hn 0
  have c1 := cell_of hn 1
  have hm1 := hm.of_block (b1.block _ hm.lt)
  have hlk := hm1.look und73 (zero103 _) hκ
  obtain ⟨w1, hw1⟩ : ∃ w1, w.alloc (.cells #[.int .i64 κ, .string ⟨z.toArray⟩] 49) = w1 := ⟨_, rfl⟩
  rw [hw1] at b1 hlk c0 c1
  have hs1 : w1.heap.size = w.heap.size + 1 := by rw [← hw1]; simp
  have HB := Lib.hid b1
  clear b1 hn hm1 hm hκ
  by_cases q1 : κ = 1
  · subst q1
    have HSH := Lib.hid (show showT (1, z) = [(1, z)] from rfl)
    clear hlk
    go_enter Tryd.func35, Tryd.ntmps35
    go_wp2
    go_ret
    rw [HSH.out]
    exact shown_lit w w1 [(1, z)] HB.out hs1 rfl
  · have n1 : (κ == 1) = false := by simpa using q1
    by_cases q2 : κ = 2
    · subst q2
      have HSH := Lib.hid (show showT (2, z) = [(2, [])] from rfl)
      clear hlk
      go_enter Tryd.func35, Tryd.ntmps35
      go_wp2
      go_ret
      rw [HSH.out]
      exact shown_lit w w1 [(2, [])] HB.out hs1 rfl
    · have n2 : (κ == 2) = false := by simpa using q2
      by_cases q3 : κ = 3
      · subst q3
        have HSH := Lib.hid (show showT (3, z) = [(3, [])] from rfl)
        clear hlk
        go_enter Tryd.func35, Tryd.ntmps35
        go_wp2
        go_ret
        rw [HSH.out]
        exact shown_lit w w1 [(3, [])] HB.out hs1 rfl
      · have n3 : (κ == 3) = false := by simpa using q3
        by_cases hin : 4 ≤ κ ∧ κ ≤ 16
        · rw [form_in hin] at hlk
          simp only [Option.getD_some, Option.isSome_some] at hlk
          obtain ⟨nm, hnm⟩ : ∃ nm, nameI κ.toNat = nm := ⟨_, rfl⟩
          by_cases h13 : κ ≤ 13
          · have HSH := Lib.hid (show showT (κ, z) = [(4, nm), (5, []), (1, z), (6, [])] by unfold showT; simp only; rw [if_neg q1, if_neg (by omega), if_pos ⟨hin.1, h13⟩, hnm])
            rw [decide_eq_true h13, hnm] at hlk
            have b2 := one_below w1 (.cells #[.string ⟨nm.toArray⟩, .bool true] 103)
            have b3 := one_below (w1.alloc (.cells #[.string ⟨nm.toArray⟩, .bool true] 103)) (.cells #[.int .i64 4, .string ⟨nm.toArray⟩] 48)
            have d1 := cell_below b3 (cell_below b2 c1)
            have HB2 := Lib.hid (bch HB.out (bch b2 b3))
            clear hin h13 b2 b3 hnm
            go_enter Tryd.func35, Tryd.ntmps35
            go_wp2
            go_ret
            rw [HSH.out]
            exact shown_lit w _ [(4, nm), (5, []), (1, z), (6, [])] HB2.out (by simp [hs1]) rfl
          · have HSH := Lib.hid (show showT (κ, z) = [(4, nm)] by unfold showT; simp only; rw [if_neg q1, if_neg (by omega), if_neg (by omega), if_pos (by omega), hnm])
            rw [decide_eq_false h13, hnm] at hlk
            have b2 := one_below w1 (.cells #[.string ⟨nm.toArray⟩, .bool false] 103)
            have b3 := one_below (w1.alloc (.cells #[.string ⟨nm.toArray⟩, .bool false] 103)) (.cells #[.int .i64 4, .string ⟨nm.toArray⟩] 48)
            have HB2 := Lib.hid (bch HB.out (bch b2 b3))
            clear hin h13 b2 b3 hnm
            go_enter Tryd.func35, Tryd.ntmps35
            go_wp2
            go_ret
            rw [HSH.out]
            exact shown_lit w _ [(4, nm)] HB2.out (by simp [hs1]) rfl
        · have HSH := Lib.hid (show showT (κ, z) = [] by unfold showT; simp only; rw [if_neg q1, if_neg (by omega), if_neg (by omega), if_neg (by omega)])
          rw [form_out hin] at hlk
          simp only [Option.getD_none, Option.isSome_none] at hlk
          have b2 := one_below w1 (.cells #[.string ⟨#[]⟩, .bool false] 103)
          have HB2 := Lib.hid (bch HB.out b2)
          clear hin b2
          go_enter Tryd.func35, Tryd.ntmps35
          go_wp2
          go_ret
          rw [HSH.out]
          exact ⟨none, 0, rfl, Rd.empty _ _, HB2.out⟩
theorem showT_len (f : Tok) : (showT f).length ≤ 4 := by
  unfold showT
  split
  · simp
  · split
    · simp
    · split
      · simp
      · split
        · simp
        · simp
set_option maxRecDepth 100000 in
set_option maxHeartbeats 8000000 in
theorem show_any (A : Option Addr) (c : Nat) (ts : List Tok) (w : World) (hr : Rd w A ts) (hl : ts.length ≤ 400) (hk : Hid (∀ t ∈ ts, W64 t.1)) :
    Calls Tryd.prog 19 #[.slice A ts.length c] w (Res 48 w (showI ts)) := by
  have CF := Lib.hid (forms_any w)
  go_enter Tryd.func19, Tryd.ntmps19
  go_wp2_with fail
  refine CF.out.mono ?_
  rintro e w1 ⟨rfl, hbi, hb1⟩
  have HI0 := Lib.hid hbi
  have HBW := Lib.hid hb1
  clear CF hbi hb1
  obtain ⟨m, hm⟩ : ∃ m, w.heap.size = m := ⟨_, rfl⟩
  obtain ⟨n, hn⟩ : ∃ n, w1.heap.size = n := ⟨_, rfl⟩
  have hmn : m < n := by have := HI0.out.lt; omega
  have hr1 := hr.below HBW.out
  have HB0 := Lib.hid (show Below n w1 w1 from Below.refl _ _)
  rw [hm] at HI0 ⊢
  go_wp2_with fail
  go_loopw [4, 10] (fun v i wr => ∃ (k : Nat) (C : Option Addr) (cc : Nat) (xs : List Tok), i = .int .i64 k ∧ k ≤ ts.length ∧ v = .slice C xs.length cc ∧ Hid (showI (ts.take k) = xs) ∧ xs.length ≤ 4 * k ∧ Hid (Own 48 wr n C cc xs) ∧ Hid (Below n w1 wr)) (fun _ i _ => ts.length - (intOf i).toNat)
  case atStart => exact ⟨0, none, 0, [], rfl, Nat.zero_le _, rfl, Lib.hid rfl, by simp, Lib.hid (own_nil 48 w1 n), HB0⟩
  case round =>
    obtain ⟨k, C, cc, Y0, rfl, hkl, rfl, HX, hxl, HO, HB⟩ := hrel
    by_cases hlt : k < ts.length
    · have hrw := hr1.below (show Below w1.heap.size w1 wr by rw [hn]; exact HB.out)
      have HI := Lib.hid (HI0.out.of_block (HB.out.block m hmn))
      obtain ⟨b, o, hA, hcell⟩ := hrw (by omega)
      obtain ⟨f, hf⟩ : ∃ f, ts[k]? = some f := ⟨_, List.getElem?_eq_getElem hlt⟩
      obtain ⟨c1, c2⟩ := hcell k f hf
      have hkf := hk.out f (List.mem_of_getElem? hf)
      have HS := Lib.hid (show_step hf)
      have hl4 := showT_len f
      obtain ⟨κ, z⟩ := f
      simp only at c1 c2 hkf
      have i1 : (k : Int) < (ts.length : Int) := by omega
      have bV := one_below wr (.cells #[.int .i64 κ, .string ⟨z.toArray⟩] 49)
      have t0 := new_fst wr (.int .i64 κ) (.string ⟨z.toArray⟩) 49
      have t1 := new_snd wr (.int .i64 κ) (.string ⟨z.toArray⟩) 49
      have HIV := Lib.hid (HI.out.below bV)
      have hns : n ≤ wr.heap.size := by have := HB.out.size; omega
      have HBV := Lib.hid (HB.out.trans (bV.mono hns))
      have HOV := Lib.hid (HO.out.below bV)
      obtain ⟨V, hV⟩ : ∃ V, wr.alloc (.cells #[.int .i64 κ, .string ⟨z.toArray⟩] 49) = V := ⟨_, rfl⟩
      rw [hV] at t0 t1 HIV HBV HOV
      have hnV : n ≤ V.heap.size := by have := HBV.out.size; omega
      have CS := Lib.hid (shown_any m κ z V HIV.out hkf)
      obtain ⟨g, hg⟩ : ∃ g, showT (κ, z) = g := ⟨_, rfl⟩
      rw [hg] at CS HS hl4
      obtain ⟨Y1, hY1⟩ : ∃ Y, Y0 ++ g = Y := ⟨_, rfl⟩
      have HN := Lib.hid (show showI (ts.take (k + 1)) = Y1 by rw [HS.out, HX.out, hY1])
      have HY1 := Lib.hid hY1
      have HL1 := Lib.hid (show Y1.length ≤ 4 * (k + 1) by rw [← hY1, List.length_append]; omega)
      subst hA
      clear hrw bV hcell hkf hf HI HO HB hg hY1 HS HX
      go_wp2_with fail
      refine CS.out.mono ?_
      rintro e w2 ⟨A2, c2', rfl, hrd, hb2⟩
      have HO2 := Lib.hid (HOV.out.below hb2)
      have HB2 := Lib.hid (HBV.out.trans (hb2.mono hnV))
      have HR2 := Lib.hid hrd
      have hn2 : n ≤ w2.heap.size := by have := HB2.out.size; omega
      clear hb2 hrd CS
      go_wp2_with (at_builtin; refine wpList_append_rdn37 _ rfl _ _ rfl n _ Y0 rfl HO2.out A2 g.length c2' g rfl rfl HR2.out (by omega) hn2 Y1 HY1.out ?_; intro A3 c3 w3 ho3 hb3)
      have HO3 := Lib.hid ho3
      have HB3 := Lib.hid (HB2.out.trans hb3)
      clear ho3 hb3
      go_roundw
      case rel => exact ⟨k + 1, A3, c3, Y1, by go_num, by omega, rfl, HN, HL1.out, HO3, HB3⟩
      case measure => simp [intOf]; omega
    · have HF := Lib.hid (show showI ts = Y0 by have := HX.out; rwa [List.take_of_length_le (by omega)] at this)
      have hni : ¬ (k : Int) < (ts.length : Int) := by omega
      go_wp2_with fail
      go_ret
      rw [HF.out]
      exact ⟨C, cc, rfl, HO.out.mono (by omega), HBW.out.trans (HB.out.mono (by omega))⟩
end Go.Proofs.YtckldeabbkdbjaaDoor

namespace Go
variable {H : Type} {enc : TypeId × Value → H}
theorem Proofs.YtckldeabbkdbjaaDoor.returnsInHanded_shaped_and {a : Assume} {C : Checked} {os : Os} {f : FuncId} {fn : Func} {s : ChangeSpec} {conds : List PathCond} {apart fresh handsOn again : Bool} {X : World → Array Value → Prop}
    (hX : ∀ (w w' : World) (args : Array Value), w.heap = w'.heap → X w args → X w' args)
    (own : ownKnob C.prog.godebug = none) (started : os.Started) (noInit : C.prog.inits.idxOf? f = none) (hfn : C.prog.funcs[f]? = some fn)
    (witness : ∃ (w : World) (tape : Tape) (i : Input), w.os = os ∧ (w.forCall tape i).Shaped C.prog ∧ i.vars = [] ∧ Input.okWide C.prog (w.forCall tape i) .any w.heap.size f i ∧
      ((s.pre enc C.prog fn conds apart (w.forCall tape i).memory i.args ∧ X (w.forCall tape i).memory i.args) ∧ sizedMet enc C.prog fn (OpenSpec.ofChange s) apart (w.forCall tape i).memory i.args) ∧ a.holds C.prog (lone (Frame.enter C.prog f i.args .normal) [] (w.forCall tape i)))
    (contract : ∀ (W : World) (base : Nat) (args : Array Value) (ds gs : List (DataW H)) (before : List MemPlace),
      (∀ (j : Nat) t v, fn.params[j]? = some t → args[j]? = some v → Value.okWide C.prog W .any base t v) →
      DataW.Whole enc C.prog fn.params.toList s.vars apart W args.toList ds gs before →
      conds.all (PathCond.test C.prog ⟨fn.params.toList, ds, s.plain.varTypes C.prog, gs⟩) = true →
      (DataW.weightsEach C.prog (fn.params.toList ++ s.plain.varTypes C.prog) (ds ++ gs)).all (· ≤ reachBytes) = true → X W args →
      W.ShapedOpen C.prog →
      a.holds C.prog (lone (Frame.enter C.prog f args .normal) [] W) →
      Calls C.prog f args W fun e W' => ∃ v, e = .returned v ∧ s.post enc C.prog fn apart fresh handsOn again W args v W') :
    ReturnsInHanded a C os f .any (fun w args => (s.pre enc C.prog fn conds apart w args ∧ X w args) ∧ sizedMet enc C.prog fn (OpenSpec.ofChange s) apart w args) (s.post enc C.prog fn apart fresh handsOn again) := by
  refine returnsInHanded_of_calls own started noInit witness ?_
  intro w tape i _ hsh _ hok hpre hholds
  obtain ⟨_, _, _, fn', hfn', _, _, _, _, hval⟩ := hok
  have e : fn' = fn := Option.some.inj (hfn'.symm.trans hfn)
  subst e
  obtain ⟨⟨⟨ds, gs, before, hw, hc⟩, hx⟩, hz⟩ := hpre
  have hw' := DataW.Whole.of_heap (w' := w.forCall tape i) (by rfl) hw
  refine (contract (w.forCall tape i) w.heap.size i.args ds gs before hval hw' hc (hz.weights hw) (hX _ _ _ (by rfl) hx) hsh hholds).mono fun e W' ⟨v, he, hp⟩ => ?_
  subst he
  exact ChangeSpec.post_blind hp
end Go
namespace Go.Proofs.YtckldeabbkdbjaaDoor
open Go.RowKit

theorem m0_of {w : World} (h : w.ShapedOpen Tryd.prog) : M0 w :=
  cell_of_shapedOpen_int (P := Tryd.prog) (g := 0) (t := 3) (zero := #[.int .i64 0]) h (of_decide_eq_true (by kernel_rfl)) (by kernel_rfl) rfl (by kernel_rfl) (by kernel_rfl) Tryd.underlying3
theorem landed : Landed where
  parse S sc ts w hr hl hc h63 hz := parse_any S sc ts w hr hl hc h63 hz
  right S sc ts w hr hl _ _ hz hk h0 := right_any S sc ts w hr hl hz hk h0
  shown S sc ts w hr hl _ _ _ hk := show_any S sc ts w hr hl hk
end Go.Proofs.YtckldeabbkdbjaaDoor

namespace Go.Proofs.YtckldeabbkdbjaaDoor
open Go.RowKit

set_option maxRecDepth 100000 in
set_option maxHeartbeats 4000000 in
theorem fixed_any (L : Landed) (w : World) (h0 : M0 w) : Calls Tryd.prog 21 #[] w fun e w' => e = .returned (.bool true) ∧ Below w.heap.size w w' := by
  have LA := Lib.hid (fun w => lex_known _ _ w (by simp [gxS]) gx_toks)
  have LB := Lib.hid (fun w => lex_known _ _ w (by simp [hxS]) hx_toks)
  have PA := Lib.hid (fun (A : Option Addr) (c : Nat) (w : World) (hr : Rd w A gxT) (h1 : gxT.length ≤ c) (h2 : c ≤ 9223372036854775807) => (gx_parse ▸ L.parse A c gxT w hr (by simp [gxT]) h1 h2 (Lib.hid fun t ht => by have := gx_mild.1 t ht; omega) : Calls Tryd.prog 10 #[.slice A gxT.length c] w (ItPost w (gxI, []))))
  have PB := Lib.hid (fun (A : Option Addr) (c : Nat) (w : World) (hr : Rd w A hxT) (h1 : hxT.length ≤ c) (h2 : c ≤ 9223372036854775807) => (hx_parse ▸ L.parse A c hxT w hr (by simp [hxT]) h1 h2 (Lib.hid fun t ht => by have := gx_mild.2.1 t ht; omega) : Calls Tryd.prog 10 #[.slice A hxT.length c] w (ItPost w (hxI, hxN))))
  have SA := Lib.hid (fun (A : Option Addr) (c : Nat) (w : World) (hr : Rd w A gxI) (h1 : gxI.length ≤ c) (h2 : c ≤ 9223372036854775807) => (gx_show ▸ L.shown A c gxI w hr (by simp [gxI]) h1 h2 (Lib.hid fun t ht => by have := gx_mild.2.2 t ht; omega) (Lib.hid (right_kind gxI false gx_right)) : Calls Tryd.prog 19 #[.slice A gxI.length c] w (Res 48 w gxT)))
  have TA := Lib.hid (fun (A : Option Addr) (c : Nat) (w : World) (hr : Rd w A gxT) => (gx_text ▸ text_any A c gxT w hr (Lib.hid gx_mild.1) (by simp [gxT]) : Calls Tryd.prog 36 #[.slice A gxT.length c] w fun e w' => e = .returned (.string ⟨gxS.toArray⟩) ∧ Below w.heap.size w w'))
  have RA := Lib.hid (fun (A : Option Addr) (c : Nat) (w : World) (hr : Rd w A gxI) (h1 : gxI.length ≤ c) (h2 : c ≤ 9223372036854775807) (hm : M0 w) => (gx_right ▸ L.right A c gxI w hr (by simp [gxI]) h1 h2 (Lib.hid fun t ht => by have := gx_mild.2.2 t ht; omega) (Lib.hid (right_kind gxI false gx_right)) hm : Calls Tryd.prog 16 #[.slice A gxI.length c] w fun e w' => e = .returned (.bool true) ∧ Below w.heap.size w w'))
  have R7 := Lib.hid (fun w hm => right7_lit L w hm)
  have hla : gxI.length ≤ 10 := by simp [gxI]
  have hlb : hxI.length ≤ 10 := by simp [hxI]
  have hlc : hxN.length ≤ 10 := by simp [hxN]
  have EA := Lib.hid (show (#[.int .i64 1, .string ⟨#[97]⟩, .int .i64 7, .string ⟨#[107]⟩, .int .i64 1, .string ⟨#[46]⟩, .int .i64 14, .string ⟨#[]⟩] : Array Value) = (fcells gxI).toArray ∧ 4 = gxI.length from ⟨rfl, rfl⟩)
  have EB := Lib.hid (show (#[.int .i64 1, .string ⟨#[97, 98, 99]⟩, .int .i64 2, .string ⟨#[]⟩, .int .i64 1, .string ⟨#[120]⟩] : Array Value) = (fcells hxI).toArray ∧ 3 = hxI.length from ⟨rfl, rfl⟩)
  have EC := Lib.hid (show (#[.int .i64 11, .string ⟨#[102, 111, 111]⟩, .int .i64 10, .string ⟨#[99, 105, 116, 101]⟩, .int .i64 2, .string ⟨#[108, 97, 98, 101, 108]⟩] : Array Value) = (fcells hxN).toArray ∧ 3 = hxN.length from ⟨rfl, rfl⟩)
  have ES : gxS = [97, 92, 114, 101, 102, 123, 107, 125, 46, 92, 116, 111, 99] := rfl
  rw [ES] at TA
  have LA : Hid (∀ w, Calls Tryd.prog 22 #[.string ⟨([97, 92, 114, 101, 102, 123, 107, 125, 46, 92, 116, 111, 99] : By).toArray⟩] w (Res 48 w gxT)) := LA
  have LB : Hid (∀ w, Calls Tryd.prog 22 #[.string ⟨([97, 123, 98, 125, 99, 92, 102, 111, 111, 92, 99, 105, 116, 101, 32, 120, 92, 108, 97, 98, 101, 108, 123, 32, 125] : By).toArray⟩] w (Res 48 w hxT)) := LB
  clear ES
  generalize gxT = gt at *
  generalize hxT = ht at *
  generalize gxI = gi at *
  generalize hxI = hi at *
  generalize hxN = hn at *
  go_enter Tryd.func21, Tryd.ntmps21
  go_wp2_with fail
  refine (LA.out _).mono ?_
  rintro e w1 ⟨At, ct, rfl, hot, hb1⟩
  have HB := Lib.hid hb1
  clear hb1
  obtain ⟨u1, u2, _⟩ := hot.cap
  replace hot := hot.rd
  go_wp2_with fail
  refine (PA.out At ct w1 hot u1 u2).mono ?_
  rintro e w2 ⟨Ai, ci, Bi, di, rfl, hri, hni, v1, v2, hb2⟩
  replace HB := Lib.hid (bch HB.out hb2)
  clear hb2
  clear hot u1 u2 hni LA PA
  go_wp2_with fail
  refine (LB.out _).mono ?_
  rintro e w3 ⟨At, ct, rfl, hot, hb3⟩
  replace hri := hri.below hb3
  replace HB := Lib.hid (bch HB.out hb3)
  clear hb3
  obtain ⟨u1, u2, _⟩ := hot.cap
  replace hot := hot.rd
  go_wp2_with fail
  refine (PB.out At ct w3 hot u1 u2).mono ?_
  rintro e w4 ⟨Aj, cj, Bj, dj, rfl, hrj, hnj, _, _, hb4⟩
  replace hri := hri.below hb4
  replace HB := Lib.hid (bch HB.out hb4)
  clear hb4
  clear hot u1 u2 LB PB
  go_wp2_with fail
  refine (SA.out Ai ci w4 hri v1 v2).mono ?_
  rintro e w5 ⟨As, cs, rfl, hos, hb5⟩
  replace hri := hri.below hb5
  replace hrj := hrj.below hb5
  replace hnj := hnj.below hb5
  replace HB := Lib.hid (bch HB.out hb5)
  clear hb5
  replace hos := hos.rd
  clear SA
  go_wp2_with fail
  refine (irefs_any Ai ci gi w5 hri (by omega)).mono ?_
  rintro e w6 ⟨Ra, ra, rfl, hra, hb6⟩
  replace hri := hri.below hb6
  replace hrj := hrj.below hb6
  replace hnj := hnj.below hb6
  replace hos := hos.below hb6
  replace HB := Lib.hid (bch HB.out hb6)
  clear hb6
  replace hra := hra.rd
  go_wp2_with fail
  refine (items_lit Ra ra 4 4 gi w6 _ EA.out.1 EA.out.2 hra (by omega)).mono ?_
  rintro e w7 ⟨rfl, hb7⟩
  replace hri := hri.below hb7
  replace hrj := hrj.below hb7
  replace hnj := hnj.below hb7
  replace hos := hos.below hb7
  replace HB := Lib.hid (bch HB.out hb7)
  clear hb7
  clear hra EA
  go_wp2_with fail
  refine (irefs_any Aj cj hi w7 hrj (by omega)).mono ?_
  rintro e w8 ⟨Rb, rb, rfl, hrb, hb8⟩
  replace hri := hri.below hb8
  replace hnj := hnj.below hb8
  replace hos := hos.below hb8
  replace HB := Lib.hid (bch HB.out hb8)
  clear hb8 hrj
  replace hrb := hrb.rd
  go_wp2_with fail
  refine (items_lit Rb rb 3 3 hi w8 _ EB.out.1 EB.out.2 hrb (by omega)).mono ?_
  rintro e w9 ⟨rfl, hb9⟩
  replace hri := hri.below hb9
  replace hnj := hnj.below hb9
  replace hos := hos.below hb9
  replace HB := Lib.hid (bch HB.out hb9)
  clear hb9
  clear hrb EB
  go_wp2_with fail
  refine (notes_lit Bj dj 3 3 hn w9 _ EC.out.1 EC.out.2 hnj (by omega)).mono ?_
  rintro e w10 ⟨rfl, hb10⟩
  replace hri := hri.below hb10
  replace hos := hos.below hb10
  replace HB := Lib.hid (bch HB.out hb10)
  clear hb10 hnj
  clear EC
  go_wp2_with fail
  refine (TA.out As cs w10 hos).mono ?_
  rintro e w11 ⟨rfl, hb11⟩
  replace hri := hri.below hb11
  replace HB := Lib.hid (bch HB.out hb11)
  clear hb11 hos
  clear TA
  go_wp2_with fail
  refine (RA.out Ai ci w11 hri v1 v2 (h0.below HB.out)).mono ?_
  rintro e w12 ⟨rfl, hb12⟩
  replace HB := Lib.hid (bch HB.out hb12)
  clear hb12 hri
  clear RA v1 v2
  go_wp2_with fail
  refine (R7.out w12 (h0.below HB.out)).mono ?_
  rintro e w13 ⟨rfl, hb13⟩
  replace HB := Lib.hid (bch HB.out hb13)
  clear hb13
  clear R7
  go_wp2
  go_ret
  exact ⟨rfl, HB.out⟩
end Go.Proofs.YtckldeabbkdbjaaDoor

namespace Go.Proofs.YtckldeabbkdbjaaDoor
open Go.RowKit

def sumT (l : List Tok) : Nat := (l.map fun t => t.2.length).sum
theorem sum_nil : sumT [] = 0 := rfl
theorem sum_cons (t : Tok) (l : List Tok) : sumT (t :: l) = t.2.length + sumT l := by simp [sumT]
theorem sum_le {m : Nat} : ∀ {l : List Tok}, (∀ t ∈ l, t.2.length ≤ m) → sumT l ≤ m * l.length
  | [], _ => by simp [sumT]
  | t :: l, h => by
    rw [sum_cons, List.length_cons, Nat.mul_add, Nat.mul_one]
    have := h t (List.mem_cons_self ..)
    have := sum_le (l := l) fun x hx => h x (List.mem_cons_of_mem _ hx)
    omega
theorem sum_drop : ∀ (p : Nat) (l : List Tok), sumT (l.drop p) ≤ sumT l
  | 0, l => by rw [List.drop_zero]; exact Nat.le_refl _
  | p + 1, [] => by simp
  | p + 1, t :: l => by
    rw [List.drop_succ_cons, sum_cons]
    have := sum_drop p l
    omega
theorem add_cases (out : List Tok) (s : By) : addI out s = out ∨ addI out s = out ++ [(1, s)] ∨ ∃ pre u, out = pre ++ [((1 : Int), u)] ∧ addI out s = pre ++ [(1, u ++ s)] := by
  unfold addI
  cases hl : out.getLast? with
  | none => simp only; by_cases hs : s = []; exact .inl (if_pos hs); exact .inr (.inl (if_neg hs))
  | some t =>
    obtain ⟨k, u⟩ := t
    obtain ⟨pre, rfl⟩ := List.getLast?_eq_some_iff.1 hl
    simp only
    by_cases hk : k = 1
    · subst hk
      exact .inr (.inr ⟨pre, u, rfl, by rw [if_pos rfl, List.dropLast_concat]⟩)
    · rw [if_neg hk]
      by_cases hs : s = []
      · exact .inl (if_pos hs)
      · exact .inr (.inl (if_neg hs))
theorem add_len (out : List Tok) (s : By) : (addI out s).length ≤ out.length + 1 := by
  rcases add_cases out s with h | h | ⟨pre, u, rfl, h⟩ <;> rw [h] <;> simp
theorem add_fit {out : List Tok} {s : By} {m : Nat} (h : ∀ f ∈ out, f.2.length ≤ m) : ∀ f ∈ addI out s, f.2.length ≤ m + s.length := by
  intro f hf
  rcases add_cases out s with e | e | ⟨pre, u, rfl, e⟩ <;> rw [e] at hf
  · have := h f hf; omega
  · rcases List.mem_append.1 hf with q | q
    · have := h f q; omega
    · simp at q; subst q; show s.length ≤ _; omega
  · rcases List.mem_append.1 hf with q | q
    · have := h f (List.mem_append_left _ q); omega
    · simp at q; subst q
      have := h (1, u) (by simp)
      show (u ++ s).length ≤ _
      rw [List.length_append]
      simp only at this
      omega
theorem group_cases (out notes : List Tok) (s : By) (x : List Tok) : groupI out notes s x = (out, notes ++ [(2, s)]) ∨ ((flatL x).length ≤ 60 ∧ groupI out notes s x = (out ++ [((kindI s : Int), flatL x)], notes)) := by
  unfold groupI
  by_cases h : flatL x = [] ∨ 60 < (flatL x).length
  · exact .inl (if_pos h)
  · exact .inr ⟨by omega, if_neg h⟩
/-- How many, and how long, the items and the notes are. -/
theorem parse_size (l out notes : List Tok) : ∀ m, 60 ≤ m → (∀ f ∈ out, f.2.length ≤ m) →
    (parseI l out notes).1.length ≤ out.length + l.length ∧ (parseI l out notes).2.length ≤ notes.length + l.length ∧ ∀ f ∈ (parseI l out notes).1, f.2.length ≤ m + sumT l := by
  induction l, out, notes using parseI.induct with
  | case1 out notes => intro m hm h; rw [parse_end]; exact ⟨by simp, by simp, fun f hf => by have := h f hf; rw [sum_nil]; omega⟩
  | case2 t r out notes h1 ih =>
    intro m hm h
    have e : parseI (t :: r) out notes = parseI r (addI out t.2) notes := by rw [parseI, if_pos h1]
    rw [e, sum_cons, List.length_cons]
    obtain ⟨q1, q2, q3⟩ := ih (m + t.2.length) (by omega) (add_fit h)
    have := add_len out t.2
    exact ⟨by omega, by omega, fun f hf => by have := q3 f hf; omega⟩
  | case3 t r out notes h1 h2 ih =>
    intro m hm h
    have e : parseI (t :: r) out notes = parseI r (out ++ [(t.1, [])]) notes := by rw [parseI, if_neg h1, if_pos h2]
    rw [e, sum_cons, List.length_cons]
    obtain ⟨q1, q2, q3⟩ := ih m hm (fun f hf => by
      rcases List.mem_append.1 hf with q | q
      · exact h f q
      · simp at q; subst q; exact Nat.zero_le _)
    rw [List.length_append, List.length_singleton] at q1
    exact ⟨by omega, by omega, fun f hf => by have := q3 f hf; omega⟩
  | case4 t r out notes h1 h2 h4 h0 ih =>
    intro m hm h
    have e : parseI (t :: r) out notes = parseI r out (notes ++ [(11, t.2)]) := by rw [parseI, if_neg h1, if_neg h2, if_pos h4, if_pos h0]
    rw [e, sum_cons, List.length_cons]
    obtain ⟨q1, q2, q3⟩ := ih m hm h
    rw [List.length_append, List.length_singleton] at q2
    exact ⟨by omega, by omega, fun f hf => by have := q3 f hf; omega⟩
  | case5 t r out notes h1 h2 h4 h0 h13 ih =>
    intro m hm h
    have e : parseI (t :: r) out notes = parseI r (out ++ [((kindI t.2 : Int), [])]) notes := by rw [parseI, if_neg h1, if_neg h2, if_pos h4, if_neg h0, if_pos h13]
    rw [e, sum_cons, List.length_cons]
    obtain ⟨q1, q2, q3⟩ := ih m hm (fun f hf => by
      rcases List.mem_append.1 hf with q | q
      · exact h f q
      · simp at q; subst q; exact Nat.zero_le _)
    rw [List.length_append, List.length_singleton] at q1
    exact ⟨by omega, by omega, fun f hf => by have := q3 f hf; omega⟩
  | case6 t r out notes h1 h2 h4 h0 h13 hg ih =>
    intro m hm h
    obtain ⟨κ, z⟩ := t
    simp only at h4
    subst h4
    rw [p_bad (z := z) h0 h13 hg, sum_cons, List.length_cons]
    simp only at ih
    obtain ⟨q1, q2, q3⟩ := ih m hm h
    simp only [List.length_append, List.length_singleton] at q2
    exact ⟨by omega, by omega, fun f hf => by have := q3 f hf; omega⟩
  | case7 t r out notes h1 h2 h4 h0 h13 x p hg ih =>
    intro m hm h
    obtain ⟨κ, z⟩ := t
    simp only at h4
    subst h4
    rw [p_good (z := z) h0 h13 hg, sum_cons, List.length_cons]
    simp only at ih
    have hs := sum_drop p r
    have hl : (r.drop p).length ≤ r.length := by rw [List.length_drop]; omega
    rcases group_cases out notes z x with e | ⟨h60, e⟩ <;> rw [e] at ih ⊢ <;> simp only at ih ⊢
    · obtain ⟨q1, q2, q3⟩ := ih m hm h
      rw [List.length_append, List.length_singleton] at q2
      exact ⟨by omega, by omega, fun f hf => by have := q3 f hf; omega⟩
    · obtain ⟨q1, q2, q3⟩ := ih m hm (fun f hf => by
        rcases List.mem_append.1 hf with q | q
        · exact h f q
        · simp at q; subst q; show (flatL x).length ≤ m; omega)
      rw [List.length_append, List.length_singleton] at q1
      exact ⟨by omega, by omega, fun f hf => by have := q3 f hf; omega⟩
  | case8 t r out notes h1 h2 h4 ih =>
    intro m hm h
    have e : parseI (t :: r) out notes = parseI r out notes := by rw [parseI, if_neg h1, if_neg h2, if_neg h4]
    rw [e, sum_cons, List.length_cons]
    obtain ⟨q1, q2, q3⟩ := ih m hm h
    exact ⟨by omega, by omega, fun f hf => by have := q3 f hf; omega⟩
theorem cut_len (m : Nat) (l : List Tok) : (cutL m l).length ≤ m := by unfold cutL; rw [List.length_map, List.length_take]; omega
theorem cutI_len (m : Nat) (l : List Tok) : (cutI m l).length ≤ m := by unfold cutI; rw [List.length_map, List.length_take]; omega
theorem cut_fit (m : Nat) (l : List Tok) : ∀ t ∈ cutL m l, t.2.length ≤ 40 := by
  intro t ht
  obtain ⟨x, _, rfl⟩ := List.mem_map.1 ht
  show (x.2.take 40).length ≤ 40
  rw [List.length_take]; omega
theorem cutI_fit (m : Nat) (l : List Tok) : ∀ t ∈ cutI m l, t.2.length ≤ 80 := by
  intro t ht
  obtain ⟨x, _, rfl⟩ := List.mem_map.1 ht
  show (x.2.take 80).length ≤ 80
  rw [List.length_take]; omega
theorem items_same (A B : Option Addr) (c d : Nat) (ts : List Tok) (w : World) (hr : Rd w A ts) (hq : Rd w B ts) (hl : ts.length ≤ 1000) :
    Calls Tryd.prog 13 #[.slice A ts.length c, .slice B ts.length d] w fun e w' => e = .returned (.bool true) ∧ Below w.heap.size w w' := by
  refine (ritems_any A B c d ts ts w hr hq (by omega) (by omega)).mono ?_
  rintro e w' ⟨rfl, n, rfl⟩
  exact ⟨ret_bool (decide_eq_true rfl), rfl, rfl, rfl, Nat.le_refl _, fun _ _ => rfl⟩
theorem notes_same (A B : Option Addr) (c d : Nat) (ts : List Tok) (w : World) (hr : Rd w A ts) (hq : Rd w B ts) (hl : ts.length ≤ 1000) :
    Calls Tryd.prog 15 #[.slice A ts.length c, .slice B ts.length d] w fun e w' => e = .returned (.bool true) ∧ Below w.heap.size w w' := by
  refine (rnotes_any A B c d ts ts w hr hq (by omega) (by omega)).mono ?_
  rintro e w' ⟨rfl, n, rfl⟩
  exact ⟨ret_bool (decide_eq_true rfl), rfl, rfl, rfl, Nat.le_refl _, fun _ _ => rfl⟩
theorem toks_same (A B : Option Addr) (c d : Nat) (ts : List Tok) (w : World) (hr : Rd w A ts) (hq : Rd w B ts) (hl : ts.length ≤ 1000) :
    Calls Tryd.prog 18 #[.slice A ts.length c, .slice B ts.length d] w fun e w' => e = .returned (.bool true) ∧ Below w.heap.size w w' := by
  refine (same_any A B c d ts ts w hr hq (by omega) (by omega)).mono ?_
  rintro e w' ⟨rfl, n, rfl⟩
  exact ⟨ret_bool (decide_eq_true rfl), rfl, rfl, rfl, Nat.le_refl _, fun _ _ => rfl⟩
theorem rright_bel (A : Option Addr) (c : Nat) (ts : List Tok) (w : World) (hr : Rd w A ts) (hl : ts.length ≤ 400) (hz : Hid (∀ t ∈ ts, t.2.length ≤ 4000)) :
    Calls Tryd.prog 17 #[.slice A ts.length c] w fun en w' => en = .returned (.bool (rightI false ts)) ∧ Below w.heap.size w w' := by
  refine (rright_any A c ts w hr (by omega) (Lib.hid fun t ht => by have := hz.out t ht; omega)).mono ?_
  rintro e w' ⟨rfl, n, rfl⟩
  exact ⟨rfl, rfl, rfl, rfl, Nat.le_refl _, fun _ _ => rfl⟩
/-- The document's Parse, as the laws see it. -/
theorem rparse_it (S : Option Addr) (sc : Nat) (ts : List Tok) (w : World) (hr : Rd w S ts) (hl : ts.length ≤ 400) (hcap : ts.length ≤ sc) (hc63 : sc ≤ 9223372036854775807) (hz : Hid (∀ t ∈ ts, t.2.length ≤ 400)) :
    Calls Tryd.prog 11 #[.slice S ts.length sc] w (ItPost w (parseI ts [] [])) := by
  refine (rparse_any S sc ts w hr hl hcap hc63 hz).mono ?_
  rintro e w' ⟨A, B, c, d, rfl, ho, hn, hb⟩
  obtain ⟨u1, u2, _⟩ := ho.cap
  exact ⟨A, c, B, d, rfl, ho.rd, hn.rd, u1, u2, hb⟩
theorem show_len (l : List Tok) : (showI l).length ≤ 4 * l.length := by
  unfold showI
  induction l with
  | nil => simp
  | cons t l ih =>
    rw [List.flatMap_cons, List.length_append, List.length_cons]
    have : (showT t).length ≤ 4 := by unfold showT; (repeat' split) <;> simp
    omega
end Go.Proofs.YtckldeabbkdbjaaDoor

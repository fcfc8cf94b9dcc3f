/-
  Contract of the document's answer's Map.
-/
import Derived.Test.YtmggpockikcjjaaGreatDoorK
namespace Go.Proofs.YtmggpockikcjjaaGreatDoor
open Go.RowKit

theorem ext_take (l : List UInt8) (m : Nat) : Value.string ((⟨l.toArray⟩ : ByteArray).extract 0 m) = .string ⟨(l.take m).toArray⟩ := by
  congr 1
  apply ByteArray.ext
  simp [ByteArray.data_extract]
theorem ext_all (l : List UInt8) (m : Nat) (h : l.length ≤ m) : Value.string ((⟨l.toArray⟩ : ByteArray).extract 0 l.length) = .string ⟨(l.take m).toArray⟩ := by
  rw [ext_take, List.take_of_length_le (Nat.le_refl _), List.take_of_length_le h]
theorem ret_agg {a a' b b' : Value} (h : a = a') (k : b = b') : Ending.returned (.agg #[a, b]) = .returned (.agg #[a', b']) := by rw [h, k]
theorem fold_step {l : List Fl} {k b : Nat} {f : Fl} (h : l[k]? = some f) : (l.take (k + 1)).foldl (stepL b) [] = stepL b ((l.take k).foldl (stepL b) []) f := by
  rw [at_take h, List.foldl_append]; rfl
theorem step_yes {b : Nat} {xs : List Fl} {f : Fl} (h : putE xs (f.1, f.2.take b) = 0) : stepL b xs f = putL xs (f.1, f.2.take b) := by unfold stepL; rw [if_pos h]
theorem step_no {b : Nat} {xs : List Fl} {f : Fl} (h : putE xs (f.1, f.2.take b) ≠ 0) : stepL b xs f = xs := by unfold stepL; rw [if_neg h]
theorem take_min (l : List Fl) (m : Nat) : l.take (min l.length m) = l.take m := by
  rw [List.take_eq_take_iff]; omega

set_option maxRecDepth 100000 in
set_option maxHeartbeats 2000000 in
theorem map_any (A : Option Addr) (c : Nat) (fs : List Fl) (most bytes : Nat) (w : World) (hr : Rd w A fs) (hfit : Hid (Fit fs)) (hl : fs.length ≤ 9223372036854775807) (hm : most ≤ 1000) (hby : bytes ≤ 10000) :
    Calls Tryz.prog 17 #[.slice A fs.length c, .int .i64 most, .int .i64 bytes] w (Res w (mapL fs most bytes)) := by
  have ho0 := own_empty w
  have hb0 := one_below w (.cells #[] 37)
  go_enter Tryz.func17, Tryz.ntmps17
  go_wp2_with fail
  go_loopw [7, 8] (fun v i wr => ∃ (k : Nat) (C : Option Addr) (cc : Nat) (xs : List Fl), k ≤ fs.length ∧ k ≤ most ∧ i = .int .i64 k ∧ v = .slice C xs.length cc ∧ Good xs ∧ xs = (fs.take k).foldl (stepL bytes) [] ∧ Own wr w.heap.size C cc xs ∧ Below w.heap.size w wr) (fun _ i _ => fs.length - (intOf i).toNat)
  case atStart => exact ⟨0, _, 0, [], Nat.zero_le _, Nat.zero_le _, rfl, rfl, Good.nil, rfl, ho0, hb0⟩
  case round =>
    clear ho0 hb0
    obtain ⟨k, C, cc, xs, hk, hk2, rfl, rfl, hgx, hx, hown, hb⟩ := hrel
    have HG := Lib.hid hgx
    have HX := Lib.hid hx
    have HO := Lib.hid hown
    have hxl := hgx.2.1
    clear hgx hx hown
    by_cases hlt : k < fs.length
    · by_cases hlt2 : k < most
      · have hrw := hr.below hb
        obtain ⟨b, o, rfl, hcell⟩ := hrw (by omega)
        obtain ⟨f, hf⟩ : ∃ f, fs[k]? = some f := ⟨_, List.getElem?_eq_getElem hlt⟩
        obtain ⟨c1, c2⟩ := hcell k f hf
        obtain ⟨l1, l2⟩ := hfit.out f (List.mem_of_getElem? hf)
        have HF := Lib.hid hf
        clear hf hcell hrw
        have i1 : (k : Int) < (most : Int) := by omega
        obtain ⟨v, hv⟩ : ∃ v, v = f.2.take bytes := ⟨_, rfl⟩
        have HV := Lib.hid hv
        clear hv
        have lv : v.length ≤ 9223372036854775807 := by rw [HV.out]; simp; omega
        have bb := one_below wr (.cells #[.string ⟨f.1.toArray⟩, .string ⟨v.toArray⟩] 37)
        have hput := rput_any C cc xs (f.1, v) _ (HO.out.rd.below bb) hxl l1 lv
        have hst := fold_step (b := bytes) HF.out
        rw [← HX.out] at hst
        by_cases he : putE xs (f.1, v) = 0
        · rw [he, putR_yes he] at hput
          have hgp := putL_good HG.out he
          have hsy : stepL bytes xs f = putL xs (f.1, v) := by
            have he' := he
            rw [HV.out] at he' ⊢
            exact step_yes he'
          rw [hsy] at hst
          generalize putL xs (f.1, v) = ps at hput hgp hst hsy
          have HP := Lib.hid hput
          have HGP := Lib.hid hgp
          have HST := Lib.hid hst
          clear hput hgp hst hsy he
          rcases Nat.lt_or_ge bytes f.2.length with hbl | hbl
          · have XV := Lib.hid (show Value.string ((⟨f.2.toArray⟩ : ByteArray).extract 0 bytes) = .string ⟨v.toArray⟩ by rw [HV.out]; exact ext_take _ _)
            go_wp2_with fail
            rw [XV.out]
            refine HP.out.mono ?_
            rintro e w2 ⟨A2, c2, rfl, ho2, hb2⟩
            go_wp2
            go_roundw
            case rel => exact ⟨k + 1, A2, c2, ps, by omega, by omega, by go_num, rfl, HGP.out, HST.out.symm, ho2.mono (by have := hb.size; simp; omega), bch hb (bch bb hb2)⟩
            case measure => simp [intOf]; omega
          · have XV := Lib.hid (show Value.string ((⟨f.2.toArray⟩ : ByteArray).extract 0 f.2.length) = .string ⟨v.toArray⟩ by rw [HV.out]; exact ext_all _ _ hbl)
            go_wp2_with fail
            rw [XV.out]
            refine HP.out.mono ?_
            rintro e w2 ⟨A2, c2, rfl, ho2, hb2⟩
            go_wp2
            go_roundw
            case rel => exact ⟨k + 1, A2, c2, ps, by omega, by omega, by go_num, rfl, HGP.out, HST.out.symm, ho2.mono (by have := hb.size; simp; omega), bch hb (bch bb hb2)⟩
            case measure => simp [intOf]; omega
        · rw [putR_no he] at hput
          have q : (putE xs (f.1, v) == 0) = false := by simpa using he
          have hsy : stepL bytes xs f = xs := by
            have he' := he
            rw [HV.out] at he'
            exact step_no he'
          rw [hsy] at hst
          have HP := Lib.hid hput
          have HST := Lib.hid hst
          clear hput hst hsy he
          rcases Nat.lt_or_ge bytes f.2.length with hbl | hbl
          · have XV := Lib.hid (show Value.string ((⟨f.2.toArray⟩ : ByteArray).extract 0 bytes) = .string ⟨v.toArray⟩ by rw [HV.out]; exact ext_take _ _)
            go_wp2_with fail
            rw [XV.out]
            refine HP.out.mono ?_
            rintro e w2 ⟨A2, c2, rfl, ho2, hb2⟩
            go_wp2
            go_roundw
            case rel => exact ⟨k + 1, C, cc, xs, by omega, by omega, by go_num, rfl, HG.out, HST.out.symm, HO.out.below (bch bb hb2), bch hb (bch bb hb2)⟩
            case measure => simp [intOf]; omega
          · have XV := Lib.hid (show Value.string ((⟨f.2.toArray⟩ : ByteArray).extract 0 f.2.length) = .string ⟨v.toArray⟩ by rw [HV.out]; exact ext_all _ _ hbl)
            go_wp2_with fail
            rw [XV.out]
            refine HP.out.mono ?_
            rintro e w2 ⟨A2, c2, rfl, ho2, hb2⟩
            go_wp2
            go_roundw
            case rel => exact ⟨k + 1, C, cc, xs, by omega, by omega, by go_num, rfl, HG.out, HST.out.symm, HO.out.below (bch bb hb2), bch hb (bch bb hb2)⟩
            case measure => simp [intOf]; omega
      · obtain rfl : k = most := by omega
        go_wp2
        go_ret
        have e := HX.out
        unfold mapL
        rw [← e]
        exact ⟨C, cc, rfl, HO.out, hb⟩
    · go_wp2
      go_ret
      have e := HX.out
      unfold mapL
      rw [show fs.take most = fs.take k by rw [List.take_of_length_le (by omega), List.take_of_length_le (by omega)], ← e]
      exact ⟨C, cc, rfl, HO.out, hb⟩
end Go.Proofs.YtmggpockikcjjaaGreatDoor

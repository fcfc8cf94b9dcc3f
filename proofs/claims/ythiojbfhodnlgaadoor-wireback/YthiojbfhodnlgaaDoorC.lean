/-
  The walk of WireBack: for every input it returns true; old memory stays.
-/
import Derived.Test.YthiojbfhodnlgaaDoorL
namespace Go.Proofs.YthiojbfhodnlgaaDoor
open Go.RowKit

theorem back_drop {a bs z : List UInt8} {xs : List (List UInt8)} {j k : Nat} {t : List UInt8} (hz : a ++ bs = z) (hb : catL xs = bs) (hk : k = a.length + (catL (xs.take j)).length) (ht : xs[j]? = some t) : z.drop k = wputL t ++ catL (xs.drop (j + 1)) := by
  have hj : j < xs.length := by
    rcases Nat.lt_or_ge j xs.length with q | q
    · exact q
    · rw [List.getElem?_eq_none q] at ht; cases ht
  have e : xs[j] = t := by rw [List.getElem?_eq_getElem hj] at ht; simpa using ht
  have e1 : catL xs = catL (xs.take j) ++ (wputL t ++ catL (xs.drop (j + 1))) := by
    conv => lhs; rw [← List.take_append_drop j xs, List.drop_eq_getElem_cons hj, e]
    simp [catL]
  rw [← hz, ← hb, hk, e1, ← List.drop_drop, List.drop_append]
  simp
theorem catL_take {xs : List (List UInt8)} {j : Nat} {t : List UInt8} (ht : xs[j]? = some t) : catL (xs.take (j + 1)) = catL (xs.take j) ++ wputL t := by
  rw [List.take_add_one, ht]; simp [catL]
theorem str_app2 (a b z : List UInt8) (h : a ++ b = z) : Value.string (({ data := a.toArray } : ByteArray) ++ { data := b.toArray }) = .string ⟨z.toArray⟩ := by rw [← h]; exact str_app a b

set_option maxRecDepth 100000 in
set_option maxHeartbeats 8000000 in
theorem wireBack_any (A : Option Addr) (c : Nat) (ls : List (List UInt8)) (a0 : List UInt8) (w : World) (T : Tabs w) (hr : RdS w A ls) :
    Calls Tryd.prog 5 #[.slice A ls.length c, .string ⟨a0.toArray⟩] w fun e w' => e = .returned (.bool true) ∧ Below w.heap.size w w' := by
  obtain ⟨c1, a, HA, ha, e1, e2⟩ := cut_facts a0 60 60 rfl
  have HR := Lib.hid hr
  clear hr
  go_enter Tryd.func5, Tryd.ntmps5
  go_wp2_with fail
  go_loopw [5, 6, 7] (fun vs vm vi wr => ∃ (k : Nat) (xs : List (List UInt8)) (bs : List UInt8) (B : Option Addr) (d : Nat), k ≤ 12 ∧ k ≤ ls.length ∧ vi = .int .i64 k ∧ vs = .string ⟨bs.toArray⟩ ∧ vm = .slice B xs.length d ∧ Hid (xs.length = k ∧ (∀ t ∈ xs, t.length ≤ 60) ∧ catL xs = bs) ∧ bs.length ≤ k * 100 ∧ OwnS wr w.heap.size B d xs ∧ Below w.heap.size w wr) (fun _ _ vi _ => 12 - (intOf vi).toNat)
  case atStart => exact ⟨0, [], [], _, 0, by omega, Nat.zero_le _, rfl, rfl, rfl, Lib.hid ⟨rfl, (fun t ht => by cases ht), rfl⟩, by simp, own_empty_s w, one_below _ _⟩
  case round =>
    obtain ⟨k, xs, bs, B, d, hk12, hkl, rfl, rfl, rfl, HX, hbs, hown, hb⟩ := hrel
    by_cases hgo : k < ls.length ∧ k < 12
    · obtain ⟨hlt, hk⟩ := hgo
      obtain ⟨b, o, rfl, hcell⟩ := (HR.out.below hb) (by omega)
      obtain ⟨x, hx⟩ : ∃ x, ls[k]? = some x := ⟨_, List.getElem?_eq_getElem hlt⟩
      have c2 := hcell k x hx
      obtain ⟨c3, t, HT, ht, e3, e4⟩ := cut_facts x 60 60 rfl
      obtain ⟨pt, hpt⟩ : ∃ p, wputL t = p := ⟨_, rfl⟩
      obtain ⟨ys, hys⟩ : ∃ ys, xs ++ [t] = ys := ⟨_, rfl⟩
      obtain ⟨bs2, hbs2⟩ : ∃ z, bs ++ pt = z := ⟨_, rfl⟩
      have HN := Lib.hid (show ys.length = k + 1 ∧ (∀ t ∈ ys, t.length ≤ 60) ∧ catL ys = bs2 by
        obtain ⟨h1, h2, h3⟩ := HX.out
        refine ⟨by rw [← hys, List.length_append, h1]; rfl, fun u hu => ?_, by rw [← hys, catL_snoc, h3, hpt, hbs2]⟩
        rw [← hys, List.mem_append] at hu
        rcases hu with hu | hu
        · exact h2 u hu
        · simp at hu; subst hu; exact ht)
      have hptl : pt.length ≤ 68 := by rw [← hpt, wput_len]; have := dec_len t.length (by omega); omega
      have hbs2l : bs2.length ≤ (k + 1) * 100 := by rw [← hbs2, List.length_append]; omega
      have HB2 := Lib.hid (str_app2 bs pt bs2 hbs2)
      have HY := Lib.hid hys
      have C7 := Lib.hid (fun (w : World) (T : Tabs w) => wput_any t w T (by omega))
      rw [hpt] at C7
      have hxl : xs.length ≤ 12 := by have := HX.out.1; omega
      have i1 : (k : Int) < (ls.length : Int) := by omega
      have i2 : (k : Int) < 12 := by omega
      have hbl : bs.length ≤ 1200 := by omega
      clear hx hcell hpt hys hbs2 HX
      go_wp2_with fail
      go_region_held3 (fun w' => w'.cell? ⟨b, o + k, none⟩ = some (.string ⟨x.toArray⟩)) (go_keep) (fail)
      have T1 := T.below (bch hb (below_drew wr))
      replace hown := hown.below (below_drew wr)
      replace hb := bch hb (below_drew wr)
      clear c2 e3 e4
      generalize wr.drew = w1 at T1 hown hb ⊢
      go_wp2_with fail
      refine (C7.out _ T1).mono ?_
      rintro e w2 ⟨rfl, hb2⟩
      replace hown := hown.below hb2
      replace hb := bch hb hb2
      clear hb2 T1
      go_wp2_with (at_builtin; refine wpList_append_s _ rfl _ _ rfl w.heap.size _ xs rfl (hown.alloc _) w2.heap.size t rfl (by rw [World.cell?_alloc_new]; rfl) (by omega) (by have := hb.size; simp; omega) ys HY.out ?_; intro N2 nc2 w3 hown2 hb2 hg2; have hb3 := (hb.alloc hb.size (.cells #[.string ⟨t.toArray⟩] 9)).trans hb2)
      go_roundw
      case rel => exact ⟨k + 1, ys, bs2, N2, nc2, by omega, by omega, by go_num, HB2.out, rfl, HN, hbs2l, hown2, hb3⟩
      case measure => simp [intOf]; omega
    · have hend : ¬ (k < ls.length ∧ k < 12) := hgo
      have hxl : xs.length ≤ 12 := by have := HX.out.1; omega
      have hbl : bs.length ≤ 1200 := by omega
      have HB := Lib.hid HX.out.2.2
      have HT := Lib.hid HX.out.2.1
      have hal : allL bs = (0, xs) := by rw [← HB.out]; exact all_cat xs fun t ht => by have := HT.out t ht; omega
      have CA := Lib.hid (fun (w : World) (T : Tabs w) => all_any bs w T (by omega))
      rw [hal] at CA
      obtain ⟨z, hz⟩ : ∃ z, a ++ bs = z := ⟨_, rfl⟩
      have HZ := Lib.hid hz
      have HZV := Lib.hid (str_app2 a bs z hz)
      have hzl : z.length = a.length + bs.length := by rw [← hz, List.length_append]
      have HZL := Lib.hid hzl
      have hzl2 : z.length ≤ 1300 := by omega
      have T1 := T.below hb
      clear hgo HX hal hz hzl
      by_cases hlt : k < ls.length
      · obtain rfl : k = 12 := by omega
        go_wp2_with fail
        go_loopw [9, 10] (fun vat vi wr2 => ∃ (j k : Nat), j ≤ xs.length ∧ vi = .int .i64 j ∧ vat = .int .i64 k ∧ Hid (k = a.length + (catL (xs.take j)).length) ∧ k ≤ z.length ∧ Below wr.heap.size wr wr2) (fun _ vi _ => xs.length - (intOf vi).toNat)
        case atStart => exact ⟨0, a.length, Nat.zero_le _, rfl, rfl, Lib.hid (by simp [catL]), by have := HZL.out; omega, Below.refl _ _⟩
        case round =>
          obtain ⟨j, m, hj, rfl, rfl, HK, hmz, hb2⟩ := hrel
          have hown2 := hown.below hb2
          have T2 := T1.below hb2
          by_cases hjl : j < xs.length
          · obtain ⟨t, ht⟩ : ∃ t, xs[j]? = some t := ⟨_, List.getElem?_eq_getElem hjl⟩
            obtain ⟨b, o, rfl, hcell⟩ := hown2.rd (by omega)
            have c2 := hcell j t ht
            have htl := HT.out t (List.mem_of_getElem? ht)
            have hdr := back_drop HZ.out HB.out HK.out ht
            have hg : gotL (z.drop m) (60 : Int).toNat = (0, t, catL (xs.drop (j + 1))) := by rw [hdr]; exact got_put t _ 60 (by omega) htl
            obtain ⟨rest, hrest⟩ : ∃ r, catL (xs.drop (j + 1)) = r := ⟨_, rfl⟩
            rw [hrest] at hg hdr
            have hR := getR_ok (most := 60) hmz hg
            have CG := Lib.hid (fun (w : World) (T : Tabs w) => get_any z m 60 w T (by omega))
            rw [hR] at CG
            obtain ⟨k2, hk2⟩ : ∃ k2, z.length - rest.length = k2 := ⟨_, rfl⟩
            rw [hk2] at CG
            obtain ⟨pt, hpt⟩ : ∃ p, wputL t = p := ⟨_, rfl⟩
            have hl2 := congrArg List.length hdr
            rw [List.length_drop, List.length_append, hpt] at hl2
            have hptp : 3 ≤ pt.length := by rw [← hpt]; exact wput_len3 t
            have hkk : k2 = m + pt.length := by omega
            have HN := Lib.hid (show k2 = a.length + (catL (xs.take (j + 1))).length by rw [catL_take ht, List.length_append, hpt, hkk, HK.out]; omega)
            have C7 := Lib.hid (fun (w : World) (T : Tabs w) => wput_any t w T (by omega))
            rw [hpt] at C7
            have hptl : pt.length ≤ 2000000 := by omega
            have q1 : ((k2 : Int) != (m : Int) + (pt.length : Int)) = false := by simp; omega
            have hk2z : k2 ≤ z.length := by omega
            have i1 : (j : Int) < (xs.length : Int) := by omega
            clear ht hcell hdr hg hrest hR hk2 hpt hl2 hkk HK
            go_wp2_with fail
            rw [HZV.out]
            refine (CG.out _ T2).mono ?_
            rintro e w2 ⟨rfl, hb3⟩
            have T3 := T2.below hb3
            have c3 := cell_below hb3 c2
            clear c2 CG T2
            go_wp2_with fail
            refine (C7.out _ T3).mono ?_
            rintro e w3 ⟨rfl, hb4⟩
            have hb5 := bch hb2 (bch hb3 hb4)
            clear T3 c3 C7 hb3 hb4 hown2
            go_wp2_with fail
            go_roundw
            case rel => exact ⟨j + 1, k2, by omega, by go_num, rfl, HN, hk2z, hb5⟩
            case measure => simp [intOf]; omega
          · have hm : m = a.length + bs.length := by
              have := HK.out
              rw [List.take_of_length_le (by omega), HB.out] at this
              exact this
            have q1 : ((m : Int) == (a.length : Int) + (bs.length : Int)) = true := by simp; omega
            clear hm HK
            go_wp2_with fail
            refine (CA.out _ T2).mono ?_
            rintro e w2 ⟨A1, c4, rfl, hs1, hb3⟩
            have hown3 := hown2.below hb3
            have T3 := T2.below hb3
            have hb4 := bch hb2 hb3
            clear hown2 T2 hb3
            go_wp2_with fail
            refine (words_eq A1 B c4 d xs _ hs1.rd hown3.rd (by omega)).mono ?_
            rintro e w3 ⟨rfl, n1, rfl⟩
            have T4 := T3.below (drewN_below w2 n1)
            have hb5 := bch hb4 (drewN_below w2 n1)
            clear hs1 hown3 T3 hb4
            generalize w2.drewN n1 = w4 at T4 hb5 ⊢
            go_wp2_with fail
            refine (fixed_any _ T4).mono ?_
            rintro e w5 ⟨rfl, hb6⟩
            go_wp2
            go_ret
            exact ⟨rfl, bch hb (bch hb5 hb6)⟩
      · go_wp2_with fail
        go_loopw [9, 10] (fun vat vi wr2 => ∃ (j k : Nat), j ≤ xs.length ∧ vi = .int .i64 j ∧ vat = .int .i64 k ∧ Hid (k = a.length + (catL (xs.take j)).length) ∧ k ≤ z.length ∧ Below wr.heap.size wr wr2) (fun _ vi _ => xs.length - (intOf vi).toNat)
        case atStart => exact ⟨0, a.length, Nat.zero_le _, rfl, rfl, Lib.hid (by simp [catL]), by have := HZL.out; omega, Below.refl _ _⟩
        case round =>
          obtain ⟨j, m, hj, rfl, rfl, HK, hmz, hb2⟩ := hrel
          have hown2 := hown.below hb2
          have T2 := T1.below hb2
          by_cases hjl : j < xs.length
          · obtain ⟨t, ht⟩ : ∃ t, xs[j]? = some t := ⟨_, List.getElem?_eq_getElem hjl⟩
            obtain ⟨b, o, rfl, hcell⟩ := hown2.rd (by omega)
            have c2 := hcell j t ht
            have htl := HT.out t (List.mem_of_getElem? ht)
            have hdr := back_drop HZ.out HB.out HK.out ht
            have hg : gotL (z.drop m) (60 : Int).toNat = (0, t, catL (xs.drop (j + 1))) := by rw [hdr]; exact got_put t _ 60 (by omega) htl
            obtain ⟨rest, hrest⟩ : ∃ r, catL (xs.drop (j + 1)) = r := ⟨_, rfl⟩
            rw [hrest] at hg hdr
            have hR := getR_ok (most := 60) hmz hg
            have CG := Lib.hid (fun (w : World) (T : Tabs w) => get_any z m 60 w T (by omega))
            rw [hR] at CG
            obtain ⟨k2, hk2⟩ : ∃ k2, z.length - rest.length = k2 := ⟨_, rfl⟩
            rw [hk2] at CG
            obtain ⟨pt, hpt⟩ : ∃ p, wputL t = p := ⟨_, rfl⟩
            have hl2 := congrArg List.length hdr
            rw [List.length_drop, List.length_append, hpt] at hl2
            have hptp : 3 ≤ pt.length := by rw [← hpt]; exact wput_len3 t
            have hkk : k2 = m + pt.length := by omega
            have HN := Lib.hid (show k2 = a.length + (catL (xs.take (j + 1))).length by rw [catL_take ht, List.length_append, hpt, hkk, HK.out]; omega)
            have C7 := Lib.hid (fun (w : World) (T : Tabs w) => wput_any t w T (by omega))
            rw [hpt] at C7
            have hptl : pt.length ≤ 2000000 := by omega
            have q1 : ((k2 : Int) != (m : Int) + (pt.length : Int)) = false := by simp; omega
            have hk2z : k2 ≤ z.length := by omega
            have i1 : (j : Int) < (xs.length : Int) := by omega
            clear ht hcell hdr hg hrest hR hk2 hpt hl2 hkk HK
            go_wp2_with fail
            rw [HZV.out]
            refine (CG.out _ T2).mono ?_
            rintro e w2 ⟨rfl, hb3⟩
            have T3 := T2.below hb3
            have c3 := cell_below hb3 c2
            clear c2 CG T2
            go_wp2_with fail
            refine (C7.out _ T3).mono ?_
            rintro e w3 ⟨rfl, hb4⟩
            have hb5 := bch hb2 (bch hb3 hb4)
            clear T3 c3 C7 hb3 hb4 hown2
            go_wp2_with fail
            go_roundw
            case rel => exact ⟨j + 1, k2, by omega, by go_num, rfl, HN, hk2z, hb5⟩
            case measure => simp [intOf]; omega
          · have hm : m = a.length + bs.length := by
              have := HK.out
              rw [List.take_of_length_le (by omega), HB.out] at this
              exact this
            have q1 : ((m : Int) == (a.length : Int) + (bs.length : Int)) = true := by simp; omega
            clear hm HK
            go_wp2_with fail
            refine (CA.out _ T2).mono ?_
            rintro e w2 ⟨A1, c4, rfl, hs1, hb3⟩
            have hown3 := hown2.below hb3
            have T3 := T2.below hb3
            have hb4 := bch hb2 hb3
            clear hown2 T2 hb3
            go_wp2_with fail
            refine (words_eq A1 B c4 d xs _ hs1.rd hown3.rd (by omega)).mono ?_
            rintro e w3 ⟨rfl, n1, rfl⟩
            have T4 := T3.below (drewN_below w2 n1)
            have hb5 := bch hb4 (drewN_below w2 n1)
            clear hs1 hown3 T3 hb4
            generalize w2.drewN n1 = w4 at T4 hb5 ⊢
            go_wp2_with fail
            refine (fixed_any _ T4).mono ?_
            rintro e w5 ⟨rfl, hb6⟩
            go_wp2
            go_ret
            exact ⟨rfl, bch hb (bch hb5 hb6)⟩
end Go.Proofs.YthiojbfhodnlgaaDoor

/-
  Package macro: arg, Fill.
-/
import Derived.Test.YtjneeikkakekjaaDoorND
namespace Go.Proofs.YtjneeikkakekjaaDoor
open Go.RowKit

/-- A list that is there. -/
def ArgPost (w : World) (l : List Tok) (e : Ending) (w' : World) : Prop := ∃ B d, e = .returned (.slice B l.length d) ∧ Rd w B l ∧ w = w'
theorem argOf_len {ll : List (List Tok)} {s : By} (h : s.length ≠ 1) : argOf ll s = [] := by
  match s, h with
  | [], _ => rfl
  | [_], h => exact absurd rfl h
  | _ :: _ :: _, _ => rfl
theorem argOf_not {ll : List (List Tok)} {d : UInt8} (h : ¬ (49 ≤ d.toNat ∧ d.toNat ≤ 57)) : argOf ll [d] = [] := by simp only [argOf, if_neg h]
theorem argOf_yes {ll : List (List Tok)} {d : UInt8} {i : Nat} (h : d.toNat = 49 + i) (hi : i < 9) : argOf ll [d] = ll.getD i [] := by
  simp only [argOf]
  rw [if_pos (by omega), show d.toNat - 49 = i by omega]
set_option maxRecDepth 100000 in
set_option maxHeartbeats 4000000 in
theorem arg_any (A : Option Addr) (c : Nat) (ll : List (List Tok)) (s : By) (w : World) (hr : RdL w A ll) (hl : ll.length ≤ 10000) (hs : s.length ≤ 100000) :
    Calls Tryd.prog 40 #[.slice A ll.length c, .string ⟨s.toArray⟩] w (ArgPost w (argOf ll s)) := by
  by_cases h1 : s.length = 1
  · match s, h1 with
    | [d], _ =>
      obtain ⟨x, hx⟩ : ∃ x : Int, (d.toNat : Int) = x := ⟨_, rfl⟩
      obtain ⟨t, ht⟩ : ∃ t : ByteArray, (⟨[d].toArray⟩ : ByteArray) = t := ⟨_, rfl⟩
      have hsz : t.size = 1 := by rw [← ht]; rfl
      have h0 : 0 < t.size := by omega
      have hx0 : (t[0].toNat : Int) = x := by subst ht; exact hx
      have hsi : (t.size : Int) = 1 := by omega
      rw [ht]
      clear ht
      by_cases h2 : x < 49
      · rw [argOf_not (by omega)]
        go_enter Tryd.func40, Tryd.ntmps40
        go_wp2
        go_ret
        exact ⟨none, 0, rfl, Rd.empty _ _, rfl⟩
      · by_cases h3 : 57 < x
        · rw [argOf_not (by omega)]
          go_enter Tryd.func40, Tryd.ntmps40
          go_wp2
          go_ret
          exact ⟨none, 0, rfl, Rd.empty _ _, rfl⟩
        · obtain ⟨i, hi⟩ : ∃ i : Nat, x = 49 + (i : Int) := ⟨(x - 49).toNat, by omega⟩
          rw [argOf_yes (i := i) (by omega) (by omega)]
          have i9 : i < 9 := by omega
          have f0 : x - 49 = (i : Int) := by omega
          have f1 : IntKind.u8.wrap (x - 49) = (i : Int) := by rw [IntWalk.u8_in _ (by omega)]; exact f0
          have f2 : IntKind.i64.wrap (i : Int) = (i : Int) := IntWalk.i64_in _ (by omega)
          have f3 : IntKind.u8.wrap (i : Int) = (i : Int) := IntWalk.u8_in _ (by omega)
          by_cases h4 : i < ll.length
          · obtain ⟨l, hf⟩ : ∃ l, ll[i]? = some l := ⟨_, List.getElem?_eq_getElem h4⟩
            obtain ⟨b, o, rfl, hcell⟩ := hr (by omega)
            obtain ⟨B, dd, c1, hrl⟩ := hcell i l hf
            rw [show ll.getD i [] = l by rw [List.getD_eq_getElem?_getD, hf]; rfl]
            have HR := Lib.hid hrl
            have i1 : (i : Int) < (ll.length : Int) := by omega
            clear hf hcell hr hrl hi
            go_enter Tryd.func40, Tryd.ntmps40
            go_wp2
            go_ret
            exact ⟨B, dd, rfl, HR.out, rfl⟩
          · rw [show ll.getD i [] = [] by rw [List.getD_eq_getElem?_getD, List.getElem?_eq_none (by omega)]; rfl]
            have i1 : ¬ (i : Int) < (ll.length : Int) := by omega
            have i2 : (ll.length : Int) ≤ (i : Int) := by omega
            clear hi hr
            go_enter Tryd.func40, Tryd.ntmps40
            go_wp2
            go_ret
            exact ⟨none, 0, rfl, Rd.empty _ _, rfl⟩
  · rw [argOf_len h1]
    have q : ((s.length : Int) != 1) = true := by simp; omega
    have q' : ((s.length : Int) == 1) = false := by rw [beq_eq_false_iff_ne]; omega
    clear h1 hr
    go_enter Tryd.func40, Tryd.ntmps40
    go_wp2
    go_ret
    exact ⟨none, 0, rfl, Rd.empty _ _, rfl⟩
theorem fill_step {ts : List Tok} {args : List (List Tok)} {k : Nat} {f : Tok} (h : ts[k]? = some f) : fillL (ts.take (k + 1)) args = fillL (ts.take k) args ++ fillT args f := by
  rw [at_take h, fill_app]; simp [fillL]
theorem fill_le {ts : List Tok} {args : List (List Tok)} (k : Nat) : (fillL (ts.take k) args).length ≤ (fillL ts args).length := by
  conv => rhs; rw [← List.take_append_drop k ts, fill_app, List.length_append]
  omega
set_option maxRecDepth 100000 in
set_option maxHeartbeats 4000000 in
theorem fill_any (A D : Option Addr) (c dc : Nat) (ts : List Tok) (ll : List (List Tok)) (w : World) (hr : Rd w A ts) (hrl : RdL w D ll) (hl : ts.length ≤ 100000) (hll : ll.length ≤ 10000) (hz : Hid (∀ t ∈ ts, t.2.length ≤ 100000)) (hfl : (fillL ts ll).length ≤ 190000) :
    Calls Tryd.prog 21 #[.slice A ts.length c, .slice D ll.length dc] w (Res 41 w (fillL ts ll)) := by
  have HO0 := Lib.hid (own_nil 41 w w.heap.size)
  have HBR := Lib.hid (Below.refl w.heap.size w)
  obtain ⟨R, hR⟩ : ∃ R, fillL ts ll = R := ⟨_, rfl⟩
  rw [hR] at hfl ⊢
  have HR := Lib.hid hR
  clear hR
  go_enter Tryd.func21, Tryd.ntmps21
  go_wp2_with fail
  go_loopw [5, 10] (fun v i wr => ∃ (k : Nat) (C : Option Addr) (cc : Nat) (xs : List Tok), k ≤ ts.length ∧ i = .int .i64 k ∧ v = .slice C xs.length cc ∧ Hid (fillL (ts.take k) ll = xs) ∧ Hid (Own 41 wr w.heap.size C cc xs) ∧ Hid (Below w.heap.size w wr)) (fun _ i _ => ts.length - (intOf i).toNat)
  case atStart => exact ⟨0, _, 0, [], Nat.zero_le _, rfl, rfl, Lib.hid rfl, HO0, HBR⟩
  case round =>
    clear HO0 HBR
    obtain ⟨k, C, cc, xs, hk, rfl, rfl, HX, HO, HB⟩ := hrel
    by_cases hlt : k < ts.length
    · obtain ⟨b, o, rfl, hcell⟩ := (hr.below HB.out) (by omega)
      obtain ⟨f, hf⟩ : ∃ f, ts[k]? = some f := ⟨_, List.getElem?_eq_getElem hlt⟩
      obtain ⟨c1, c2⟩ := hcell k f hf
      have hz1 := hz.out f (List.mem_of_getElem? hf)
      obtain ⟨κ, z⟩ := f
      simp only at c1 c2 hz1
      have hst := fill_step (args := ll) hf
      rw [HX.out] at hst
      obtain ⟨ys, hy⟩ : ∃ ys, xs ++ fillT ll (κ, z) = ys := ⟨_, rfl⟩
      rw [hy] at hst
      have hyl : ys.length ≤ 190000 := by rw [← hst]; have := fill_le (ts := ts) (args := ll) (k + 1); rw [HR.out] at this; omega
      have HN := Lib.hid hst
      have i1 : (k : Int) < (ts.length : Int) := by omega
      have o1 := one_below wr (.cells #[.int .i64 κ, .string ⟨z.toArray⟩] 41)
      have HS1 := Lib.hid (new_snd wr (.int .i64 κ) (.string ⟨z.toArray⟩) 41)
      have HS0 := Lib.hid (new_fst wr (.int .i64 κ) (.string ⟨z.toArray⟩) 41)
      have hsz : (wr.alloc (.cells #[.int .i64 κ, .string ⟨z.toArray⟩] 41)).heap.size = wr.heap.size + 1 := by simp
      have HSZ := Lib.hid hsz
      have HB1 := Lib.hid (bch HB.out o1)
      have HO1 := Lib.hid (HO.out.below o1)
      by_cases h7 : κ = 7
      · have C1 := is1_any κ ⟨z.toArray⟩ 7 3 true (decide_eq_true h7) (wr.alloc (.cells #[.int .i64 κ, .string ⟨z.toArray⟩] 41))
        rw [hsz] at C1
        have CC := Lib.hid C1
        have hft : fillT ll (κ, z) = argOf ll z := by simp [fillT, h7]
        rw [hft] at hy
        obtain ⟨p, hp⟩ : ∃ p, argOf ll z = p := ⟨_, rfl⟩
        rw [hp] at hy
        have HP := Lib.hid hp
        have HY := Lib.hid hy
        have hpl : xs.length + p.length = ys.length := by rw [← hy, List.length_append]
        clear hf hcell HX HO HB C1 hst o1 h7 hft hp hy hsz
        go_wp2_with fail
        refine CC.out.mono ?_
        rintro e w1 ⟨rfl, hb1⟩
        rw [← HSZ.out] at hb1
        have s1 := cell_below hb1 HS1.out
        have HB2 := Lib.hid (bch HB1.out hb1)
        have HO2 := Lib.hid (HO1.out.below hb1)
        have C2 := arg_any D dc ll z w1 (hrl.below HB2.out) hll hz1
        rw [HP.out] at C2
        have CD := Lib.hid C2
        clear C2 hb1 HB1 HO1 CC HS1 HS0 c1 c2
        go_wp2_with fail
        refine CD.out.mono ?_
        rintro e w2 ⟨B, d, rfl, hrp, rfl⟩
        have HRP := Lib.hid hrp
        clear hrp CD
        go_wp2_with (at_builtin; refine wpList_append_rdn37 _ rfl _ _ rfl w.heap.size _ xs rfl HO2.out B p.length d p rfl rfl HRP.out (by omega) HB2.out.size ys HY.out ?_; intro N2 nc2 w3 hown2 hb3)
        have HB4 := Lib.hid (HB2.out.trans hb3)
        have HO4 := Lib.hid hown2
        clear HO2 HB2 hb3 hown2
        go_roundw
        case rel => exact ⟨k + 1, N2, nc2, ys, by omega, by go_num, rfl, HN, HO4, HB4⟩
        case measure => simp [intOf]; omega
      · have C1 := is1_any κ ⟨z.toArray⟩ 7 3 false (decide_eq_false h7) (wr.alloc (.cells #[.int .i64 κ, .string ⟨z.toArray⟩] 41))
        rw [hsz] at C1
        have CC := Lib.hid C1
        have hft : fillT ll (κ, z) = [(κ, z)] := by simp [fillT, h7]
        rw [hft] at hy
        have HY := Lib.hid hy
        have hpl : xs.length + 1 = ys.length := by rw [← hy, List.length_append]; rfl
        clear hf hcell HX HO HB C1 hst o1 h7 hft hy hsz
        go_wp2_with fail
        refine CC.out.mono ?_
        rintro e w1 ⟨rfl, hb1⟩
        rw [← HSZ.out] at hb1
        have s1 := cell_below hb1 HS1.out
        have s0 := cell_below hb1 HS0.out
        have SB := one_below w1 (.cells #[.int .i64 κ, .string ⟨z.toArray⟩] 41)
        have HB2 := Lib.hid (bch (bch HB1.out hb1) SB)
        have HO2 := Lib.hid ((HO1.out.below hb1).below SB)
        clear hb1 HB1 HO1 CC HS1 HS0 c1 c2 SB
        go_wp2_with (at_builtin; refine wpList_append_rdn37 _ rfl _ _ rfl w.heap.size _ xs rfl HO2.out (some ⟨w1.heap.size, 0, none⟩) 1 1 [(κ, z)] rfl rfl (one_read (new_fst _ _ _ _) (new_snd _ _ _ _)) (by show xs.length + 1 ≤ _; omega) HB2.out.size ys HY.out ?_; intro N2 nc2 w3 hown2 hb3)
        have HB4 := Lib.hid (HB2.out.trans hb3)
        have HO4 := Lib.hid hown2
        clear HO2 HB2 hb3 hown2
        go_roundw
        case rel => exact ⟨k + 1, N2, nc2, ys, by omega, by go_num, rfl, HN, HO4, HB4⟩
        case measure => simp [intOf]; omega
    · have hfin := HX.out
      rw [List.take_of_length_le (by omega), HR.out] at hfin
      have HF := Lib.hid hfin
      have i1 : ¬ (k : Int) < (ts.length : Int) := by omega
      clear hfin HX
      go_wp2
      go_ret
      rw [HF.out]
      exact ⟨C, cc, rfl, HO.out, HB.out⟩
end Go.Proofs.YtjneeikkakekjaaDoor

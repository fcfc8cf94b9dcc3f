/-
  The document's Fill.
-/
import Derived.Test.YtjneeikkakekjaaDoorNE
namespace Go.Proofs.YtjneeikkakekjaaDoor
open Go.RowKit

/-- Append of tokens, and what lies in another block than the row stays. -/
theorem run_append_far40 (w : World) (base : Nat) (ty : TypeId) (C : Option Addr) (cc : Nat) (xs : List Tok) (hown : Own 81 w base C cc xs) (A : Option Addr) (c : Nat) (gs : List Tok) (hr : Rd w A gs)
    (hlen : xs.length + gs.length ≤ 200000) (hbase : base ≤ w.heap.size) (T : Nat) (hT : T < w.heap.size) (hne : some T ≠ (Value.slice C xs.length cc).ownBlock) :
    ∃ A' c' w', (Builtin.append_ #[28, 28] ty #[.slice C xs.length cc, .slice A gs.length c]).run Tryd.prog w = .ok (.slice A' (xs ++ gs).length c') w' ∧ Own 81 w' base A' c' (xs ++ gs) ∧ Below base w w' ∧
      (∀ o, w'.cell? ⟨T, o, none⟩ = w.cell? ⟨T, o, none⟩) ∧ some T ≠ (Value.slice A' (xs ++ gs).length c').ownBlock ∧ w.heap.size ≤ w'.heap.size := by
  obtain ⟨i0, hi, hz0, hz1, hz2⟩ := info_parts Tryd.info81
  have main : ∀ (ad : Addr), (∀ j u, (fcells gs)[j]? = some u → w.cell? (ad.add j) = some u) →
      ∃ A' c' w', (Builtin.append_ #[28, 28] ty #[.slice C xs.length cc, .slice (some ad) gs.length c]).run Tryd.prog w = .ok (.slice A' (xs ++ gs).length c') w' ∧ Own 81 w' base A' c' (xs ++ gs) ∧ Below base w w' ∧
      (∀ o, w'.cell? ⟨T, o, none⟩ = w.cell? ⟨T, o, none⟩) ∧ some T ≠ (Value.slice A' (xs ++ gs).length c').ownBlock ∧ w.heap.size ≤ w'.heap.size := fun ad hn => by
    obtain ⟨v', w', h1, h2, h3, _, h5⟩ := run_append_own_at (P := Tryd.prog) w base 28 ty 81 i0 _ 2 24 Tryd.underlying28 hi hz0 hz1 hz2 rfl (by decide) (.slice C xs.length cc) xs.length (fcells xs) hown ad gs.length c (fcells gs) (fcells_len gs) hn (fcells_one gs)
      (by unfold maxLen; omega) (by omega) hbase
    rw [← fcells_app] at h2
    obtain ⟨A', c', rfl⟩ := own_shape h2
    rw [← List.length_append] at h2 h1 h5
    have hb := below_grown hown h3 hbase
    refine ⟨A', c', w', h1, h2, hb, fun o => h3.cell_far ⟨T, o, none⟩ hT hne, fun e => ?_, hb.size⟩
    rcases h5 with q | q
    · rw [q] at e; exact hne e
    · rw [q] at e
      have := Option.some.inj e
      omega
  cases A with
  | none =>
    have hg : gs = [] := by
      rcases Nat.eq_zero_or_pos gs.length with h | h
      · exact List.length_eq_zero_iff.1 h
      · obtain ⟨b, o, e, _⟩ := hr h; cases e
    subst hg
    refine ⟨C, cc, w, ?_, ?_, Below.refl _ _, fun _ => rfl, ?_, Nat.le_refl _⟩
    · rw [List.append_nil]; exact run_append_none w base 28 ty 81 i0 2 c Tryd.underlying28 hi _ _ _ hown
    · rw [List.append_nil]; exact hown
    · rw [List.append_nil]; exact hne
  | some ad =>
    rcases Nat.eq_zero_or_pos gs.length with h | h
    · have hg := List.length_eq_zero_iff.1 h
      subst hg
      exact main ad fun j u hu => by simp [fcells] at hu
    · obtain ⟨b, o, e, hc⟩ := hr h
      cases e
      exact main _ (Rd.news hc)
theorem wpList_append_far40 {ops : Array Oper} {rest : List Oper} {o : Oper} {a : Act} {Q : Exit → Act → World → Prop} (w : World) (hgd : o.guard = none) (s x : Operand)
    (ho : o.op = .call { callee := .builtin .append, args := #[s, x], argTypes := #[28, 28] }) (base : Nat) (C : Option Addr) (cc : Nat) (xs : List Tok) (hs : a.eval s = .slice C xs.length cc) (hown : Own 81 w base C cc xs)
    (A : Option Addr) (c : Nat) (gs : List Tok) (hx : a.eval x = .slice A gs.length c) (hr : Rd w A gs) (hlen : xs.length + gs.length ≤ 200000) (hbase : base ≤ w.heap.size) (T : Nat) (hT : T < w.heap.size) (hne : some T ≠ (Value.slice C xs.length cc).ownBlock) (r : List Tok) (hr0 : xs ++ gs = r)
    (h : ∀ A' c' w', Own 81 w' base A' c' r → Below base w w' → (∀ o, w'.cell? ⟨T, o, none⟩ = w.cell? ⟨T, o, none⟩) → some T ≠ (Value.slice A' r.length c').ownBlock → w.heap.size ≤ w'.heap.size → wpList Tryd.prog ops Q rest (a.put o.dst (.slice A' r.length c')) w') : wpList Tryd.prog ops Q (o :: rest) a w := by
  subst hr0
  refine wpList_plain hgd fun K hK => ?_
  obtain ⟨A', c', w', hrun, h2, h3, h4, h5, h6⟩ := run_append_far40 w base o.type C cc xs hown A c gs hr hlen hbase T hT hne
  unfold Oper.wp
  simp only [execOp, ho, resolve, invoke, builtin, Sem.run_bind, Sem.run_pure, Result.andThen_ok, List.map_toArray, List.map_cons, List.map_nil, hs, hx, hrun]
  exact hK _ _ (h A' c' w' h2 h3 h4 h5 h6)
theorem byte_str (w : World) (g : Nat) (x : UInt8) (hc : w.cell? ⟨g, 0, none⟩ = some (.int .u8 (x.toNat : Int))) (c : Nat) : (convert 86 9 (.slice (some ⟨g, 0, none⟩) 1 c)).run Tryd.prog w = .ok (.string ⟨#[x]⟩) w :=
  run_convert_bytes_back (P := Tryd.prog) w 86 9 5 ⟨g, 0, none⟩ c [x] Tryd.underlying86 Tryd.underlying5 Tryd.underlying9 (fun j hj => by
    have : j = 0 := by simp at hj; omega
    subst this
    rw [add_lit]; exact hc)
theorem try_next (ll : List (List Tok)) (s : By) (n : Nat) (xs : List Tok) {ys : List Tok} (h : xs ++ (List.range n).flatMap (tryK ll s) = ys) : xs ++ (List.range (n + 1)).flatMap (tryK ll s) = ys ++ tryK ll s n := by
  rw [← h, List.range_succ, List.flatMap_append]; simp
theorem try_le (ll : List (List Tok)) (s : By) (n : Nat) (h : n ≤ min ll.length 9) : ((List.range n).flatMap (tryK ll s)).length ≤ (argOf ll s).length := by
  rw [← arg_tried]
  obtain ⟨m, hm⟩ : ∃ m, min ll.length 9 = n + m := ⟨min ll.length 9 - n, by omega⟩
  rw [hm, List.range_add, List.flatMap_append, List.length_append]; omega
theorem str_dec (z : By) (x : UInt8) : (({ data := z.toArray } : ByteArray) = ⟨#[x]⟩) ↔ z = [x] := by
  constructor
  · intro h
    have := congrArg (fun b : ByteArray => b.data.toList) h
    simpa using this
  · rintro rfl; rfl
set_option maxRecDepth 100000 in
set_option maxHeartbeats 8000000 in
theorem rfill_any (A D : Option Addr) (c dc : Nat) (ts : List Tok) (ll : List (List Tok)) (w : World) (hr : Rd w A ts) (hrl : RdL w D ll) (hl : ts.length ≤ 100000) (hll : ll.length ≤ 10000) (hfl : (fillL ts ll).length ≤ 190000) :
    Calls Tryd.prog 22 #[.slice A ts.length c, .slice D ll.length dc] w (Res 81 w (fillL ts ll)) := by
  have HO0 := Lib.hid (own_empty 81 w)
  have HBR := Lib.hid (one_below w (.cells #[] 81))
  obtain ⟨R, hR⟩ : ∃ R, fillL ts ll = R := ⟨_, rfl⟩
  rw [hR] at hfl ⊢
  have HR := Lib.hid hR
  clear hR
  go_enter Tryd.func22, Tryd.ntmps22
  go_wp2_with fail
  go_loopw [5, 6] (fun v i wr => ∃ (k : Nat) (C : Option Addr) (cc : Nat) (xs : List Tok), k ≤ ts.length ∧ i = .int .i64 k ∧ v = .slice C xs.length cc ∧ Hid (fillL (ts.take k) ll = xs) ∧ Hid (Own 81 wr w.heap.size C cc xs) ∧ Hid (Below w.heap.size w wr)) (fun _ i _ => ts.length - (intOf i).toNat)
  case atStart => exact ⟨0, _, 0, [], Nat.zero_le _, rfl, rfl, Lib.hid rfl, HO0, HBR⟩
  case round =>
    clear HO0 HBR
    obtain ⟨k, C, cc, xs, hk, rfl, rfl, HX, HO, HB⟩ := hrel
    by_cases hlt : k < ts.length
    · obtain ⟨b, o, rfl, hcell⟩ := (hr.below HB.out) (by omega)
      obtain ⟨f, hf⟩ : ∃ f, ts[k]? = some f := ⟨_, List.getElem?_eq_getElem hlt⟩
      obtain ⟨c1, c2⟩ := hcell k f hf
      obtain ⟨κ, z⟩ := f
      simp only at c1 c2
      have hst := fill_step (args := ll) hf
      rw [HX.out] at hst
      obtain ⟨ys, hy⟩ : ∃ ys, xs ++ fillT ll (κ, z) = ys := ⟨_, rfl⟩
      rw [hy] at hst
      have hyl : ys.length ≤ 190000 := by rw [← hst]; have := fill_le (ts := ts) (args := ll) (k + 1); rw [HR.out] at this; omega
      have HN := Lib.hid hst
      have i1 : (k : Int) < (ts.length : Int) := by omega
      have o1 := one_below wr (.cells #[.int .i64 κ, .string ⟨z.toArray⟩] 81)
      have HS1 := Lib.hid (new_snd wr (.int .i64 κ) (.string ⟨z.toArray⟩) 81)
      have hsz : (wr.alloc (.cells #[.int .i64 κ, .string ⟨z.toArray⟩] 81)).heap.size = wr.heap.size + 1 := by simp
      have HB1 := Lib.hid (bch HB.out o1)
      have HO1 := Lib.hid (HO.out.below o1)
      by_cases h7 : κ = 7
      · have hft : fillT ll (κ, z) = argOf ll z := by simp [fillT, h7]
        rw [hft] at hy
        have HY := Lib.hid hy
        have q7 : (κ != 7) = false := by simp [h7]
        have q7' : (κ == 7) = true := by simp [h7]
        have HNE := Lib.hid (show some wr.heap.size ≠ (Value.slice C xs.length cc).ownBlock from fun e => by have := (World.ownsRow.lt HO.out wr.heap.size e.symm).2; omega)
        have HSZ := Lib.hid (show wr.heap.size < (wr.alloc (.cells #[.int .i64 κ, .string ⟨z.toArray⟩] 81)).heap.size by omega)
        have hyl2 : Hid (xs.length + (argOf ll z).length ≤ 190000) := Lib.hid (by rw [← List.length_append, hy]; exact hyl)
        clear hf hcell HX HO HB hst o1 h7 hft hy hsz
        rename World => wo
        go_wp2_with fail
        go_loopw [5, 8] (fun v i wi => ∃ (j : Nat) (C2 : Option Addr) (cc2 : Nat) (zs : List Tok), j ≤ ll.length ∧ j ≤ 9 ∧ i = .int .i64 j ∧ v = .slice C2 zs.length cc2 ∧ Hid (xs ++ (List.range j).flatMap (tryK ll z) = zs) ∧ Hid (Own 81 wi w.heap.size C2 cc2 zs) ∧ Hid (Below w.heap.size w wi) ∧ Hid (wi.cell? ⟨wo.heap.size, 1, none⟩ = some (.string ⟨z.toArray⟩)) ∧ Hid (some wo.heap.size ≠ (Value.slice C2 zs.length cc2).ownBlock) ∧ Hid (wo.heap.size < wi.heap.size)) (fun _ i _ => 9 - (intOf i).toNat)
        case atStart => exact ⟨0, C, cc, xs, Nat.zero_le _, by omega, rfl, rfl, Lib.hid (by simp), HO1, HB1, HS1, HNE, HSZ⟩
        case round =>
          clear HO1 HB1 HS1 HNE HSZ c1 c2
          obtain ⟨j, C2, cc2, zs, hj1, hj2, rfl, rfl, HX2, HO2, HB2, HS2, HNE2, HSZ2⟩ := hrel
          by_cases hjl : j < ll.length
          · by_cases hj9 : j < 9
            · obtain ⟨x, hx⟩ : ∃ x : UInt8, UInt8.ofNat (49 + j) = x := ⟨_, rfl⟩
              have hxn : ((x.toNat : Nat) : Int) = 49 + (j : Int) := by rw [← hx, byte_nat (by omega)]; omega
              have i2 : (j : Int) < (ll.length : Int) := by omega
              have i3 : (j : Int) < 9 := by omega
              have o2 := one_below wr (.cells #[.int .u8 (49 + (j : Int))] 5)
              have kc := byte_str (wr.alloc (.cells #[.int .u8 (49 + (j : Int))] 5)) wr.heap.size x (by rw [hxn]; exact new_one _ _ _) 1
              have s1 := HS2.out
              have hnext := try_next ll z j xs HX2.out
              have HO3 := Lib.hid (HO2.out.below o2)
              have HB3 := Lib.hid (bch HB2.out o2)
              have HS3 := Lib.hid (cell_below o2 HS2.out)
              have HSZ3 := Lib.hid (show wo.heap.size < (wr.alloc (.cells #[.int .u8 (49 + (j : Int))] 5)).heap.size by have := HSZ2.out; have := o2.size; omega)
              by_cases hz : z = [x]
              · have ht : tryK ll z j = ll.getD j [] := by unfold tryK; rw [hx, if_pos hz]
                obtain ⟨l, hf⟩ : ∃ l, ll[j]? = some l := ⟨_, List.getElem?_eq_getElem hjl⟩
                rw [ht, List.getD_eq_getElem?_getD, hf, Option.getD_some] at hnext
                obtain ⟨bb, oo, rfl, hcell⟩ := (hrl.below HB3.out) (by omega)
                obtain ⟨B, dd, k1, hrd⟩ := hcell j l hf
                obtain ⟨z2, hz2⟩ : ∃ z2, zs ++ l = z2 := ⟨_, rfl⟩
                rw [hz2] at hnext
                have hl2 : z2.length ≤ 190000 := by
                  rw [← hnext, List.length_append]
                  have := try_le ll z (j + 1) (by omega)
                  have := hyl2.out
                  omega
                have hl3 : zs.length + l.length = z2.length := by rw [← hz2, List.length_append]
                have HN2 := Lib.hid hnext
                have HZ2 := Lib.hid hz2
                have HRD := Lib.hid hrd
                have qd : (z == [x]) = true := by rw [beq_iff_eq]; exact hz
                clear hnext hz2 hrd hcell hf ht hz HX2 HO2 HB2 HS2 o2 hx
                go_wp2_with (at_builtin; refine wpList_append_far40 _ rfl _ _ rfl w.heap.size C2 cc2 zs rfl HO3.out B dd l rfl HRD.out (by omega) HB3.out.size wo.heap.size HSZ3.out HNE2.out z2 HZ2.out ?_; intro N2 nc2 w4 ho4 hb4 hc4 hn4 hs4)
                have HB5 := Lib.hid (HB3.out.trans hb4)
                have HO5 := Lib.hid ho4
                have HS5 := Lib.hid ((hc4 1).trans HS3.out)
                have HNE5 := Lib.hid hn4
                have HSZ5 := Lib.hid (Nat.lt_of_lt_of_le HSZ3.out hs4)
                clear ho4 hb4 hc4 hn4 hs4 HB3 HO3 HS3
                go_roundw
                case rel => exact ⟨j + 1, N2, nc2, z2, by omega, by omega, by go_num, rfl, HN2, HO5, HB5, HS5, HNE5, HSZ5⟩
                case measure => simp [intOf]; omega
              · have ht : tryK ll z j = [] := by unfold tryK; rw [hx, if_neg hz]
                rw [ht, List.append_nil] at hnext
                have HN2 := Lib.hid hnext
                have qd : (z == [x]) = false := by rw [beq_eq_false_iff_ne]; exact hz
                clear hnext ht HX2 HO2 HB2 HS2 o2 hx hz
                go_wp2_with fail
                go_roundw
                case rel => exact ⟨j + 1, C2, cc2, zs, by omega, by omega, by go_num, rfl, HN2, HO3, HB3, HS3, HNE2, HSZ3⟩
                case measure => simp [intOf]; omega
            · have hfin := HX2.out
              rw [show j = min ll.length 9 by omega, arg_tried, HY.out] at hfin
              subst hfin
              have i2 : (j : Int) < (ll.length : Int) := by omega
              have i3 : ¬ (j : Int) < 9 := by omega
              clear HX2 HS2
              go_wp2_with fail
              go_roundw
              case rel => exact ⟨k + 1, C2, cc2, ys, by omega, by go_num, rfl, HN, HO2, HB2⟩
              case measure => simp [intOf]; omega
          · have hfin := HX2.out
            rw [show j = min ll.length 9 by omega, arg_tried, HY.out] at hfin
            subst hfin
            have i2 : ¬ (j : Int) < (ll.length : Int) := by omega
            clear HX2 HS2
            go_wp2_with fail
            go_roundw
            case rel => exact ⟨k + 1, C2, cc2, ys, by omega, by go_num, rfl, HN, HO2, HB2⟩
            case measure => simp [intOf]; omega
      · have hft : fillT ll (κ, z) = [(κ, z)] := by simp [fillT, h7]
        rw [hft] at hy
        have HY := Lib.hid hy
        have hpl : xs.length + 1 = ys.length := by rw [← hy, List.length_append]; rfl
        have q7 : (κ != 7) = true := by simpa using h7
        have q7' : (κ == 7) = false := by simpa using h7
        have o2 := one_below (wr.alloc (.cells #[.int .i64 κ, .string ⟨z.toArray⟩] 81)) (.cells #[.int .i64 κ, .string ⟨z.toArray⟩] 81)
        have HB2 := Lib.hid (bch HB1.out o2)
        have HO2 := Lib.hid (HO1.out.below o2)
        have hrd := one_read (f := (κ, z)) (new_fst (wr.alloc (.cells #[.int .i64 κ, .string ⟨z.toArray⟩] 81)) (.int .i64 κ) (.string ⟨z.toArray⟩) 81) (new_snd _ _ _ _)
        rw [hsz] at hrd
        have HRD := Lib.hid hrd
        clear hf hcell HX HO HB hst o1 h7 hft hy hsz HS1 HB1 HO1 hrd o2
        go_wp2_with (at_builtin; refine wpList_append_rdn40 _ rfl _ _ rfl w.heap.size _ xs rfl HO2.out (some ⟨wr.heap.size + 1, 0, none⟩) 1 1 [(κ, z)] rfl (by first | rfl | simp) HRD.out (by show xs.length + 1 ≤ _; omega) HB2.out.size ys HY.out ?_; intro N2 nc2 w3 hown2 hb3)
        have HB4 := Lib.hid (HB2.out.trans hb3)
        have HO4 := Lib.hid hown2
        clear HO2 HB2 hb3 hown2
        go_roundw
        case rel => exact ⟨k + 1, N2, nc2, ys, by omega, by go_num, rfl, HN, HO4, HB4⟩
        case measure => simp [intOf]; omega
    · have hfin := HX.out
      rw [List.take_of_length_le (by omega), HR.out] at hfin
      have HF := Lib.hid hfin
      have i1 : ¬ (k : Int) < (ts.length : Int) := by omega
      clear hfin HX
      go_wp2
      go_ret
      rw [HF.out]
      exact ⟨C, cc, rfl, HO.out, HB.out⟩
end Go.Proofs.YtjneeikkakekjaaDoor

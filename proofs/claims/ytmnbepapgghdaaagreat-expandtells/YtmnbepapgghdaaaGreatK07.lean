/-
  Package macro: arg, Fill.
  The document's Fill.
  strings.Trim of blanks; package macro: single, Flat.
  strings.Trim of blanks; package macro: single, Flat.
-/
import Derived.Test.YtmnbepapgghdaaaGreatK06
namespace Go.Proofs.YtmnbepapgghdaaaGreat
open Go.RowKit

/-- A list that is there. -/
def ArgPost (w : World) (l : List Tok) (e : Ending) (w' : World) : Prop := ∃ B d, e = .returned (.slice B l.length d) ∧ Rd w B l ∧ w = w'
theorem argOf_len {ll : List (List Tok)} {s : By} (h : s.length ≠ 1) : argOf ll s = [] := by
  match s, h with
  | [], _ => rfl
  | [_], h => exact absurd rfl h
  | _ :: _ :: _, _ => rfl
theorem argOf_not {ll : List (List Tok)} {d : UInt8} (h : ¬ (49 ≤ d.toNat ∧ d.toNat ≤ 57)) : argOf ll [d] = [] := by simp only [argOf, if_neg h]
theorem argOf_yes {ll : List (List Tok)} {d : UInt8} {i : Nat} (h : d.toNat = 49 + i) (hi : i < 9) : argOf ll [d] = ll.getD i [] := by
  simp only [argOf]
  rw [if_pos (by omega), show d.toNat - 49 = i by omega]
set_option maxRecDepth 100000 in
set_option maxHeartbeats 4000000 in
theorem arg_any (A : Option Addr) (c : Nat) (ll : List (List Tok)) (s : By) (w : World) (hr : RdL w A ll) (hl : ll.length ≤ 10000) (hs : s.length ≤ 100000) :
    Calls Tryz.prog 122 #[.slice A ll.length c, .string ⟨s.toArray⟩] w (ArgPost w (argOf ll s)) := by
  by_cases h1 : s.length = 1
  · match s, h1 with
    | [d], _ =>
      obtain ⟨x, hx⟩ : ∃ x : Int, (d.toNat : Int) = x := ⟨_, rfl⟩
      obtain ⟨t, ht⟩ : ∃ t : ByteArray, (⟨[d].toArray⟩ : ByteArray) = t := ⟨_, rfl⟩
      have hsz : t.size = 1 := by rw [← ht]; rfl
      have h0 : 0 < t.size := by omega
      have hx0 : (t[0].toNat : Int) = x := by subst ht; exact hx
      have hsi : (t.size : Int) = 1 := by omega
      rw [ht]
      clear ht
      by_cases h2 : x < 49
      · rw [argOf_not (by omega)]
        go_enter Tryz.func122, Tryz.ntmps122
        go_wp2
        go_ret
        exact ⟨none, 0, rfl, Rd.empty _ _, rfl⟩
      · by_cases h3 : 57 < x
        · rw [argOf_not (by omega)]
          go_enter Tryz.func122, Tryz.ntmps122
          go_wp2
          go_ret
          exact ⟨none, 0, rfl, Rd.empty _ _, rfl⟩
        · obtain ⟨i, hi⟩ : ∃ i : Nat, x = 49 + (i : Int) := ⟨(x - 49).toNat, by omega⟩
          rw [argOf_yes (i := i) (by omega) (by omega)]
          have i9 : i < 9 := by omega
          have f0 : x - 49 = (i : Int) := by omega
          have f1 : IntKind.u8.wrap (x - 49) = (i : Int) := by rw [IntWalk.u8_in _ (by omega)]; exact f0
          have f2 : IntKind.i64.wrap (i : Int) = (i : Int) := IntWalk.i64_in _ (by omega)
          have f3 : IntKind.u8.wrap (i : Int) = (i : Int) := IntWalk.u8_in _ (by omega)
          by_cases h4 : i < ll.length
          · obtain ⟨l, hf⟩ : ∃ l, ll[i]? = some l := ⟨_, List.getElem?_eq_getElem h4⟩
            obtain ⟨b, o, rfl, hcell⟩ := hr (by omega)
            obtain ⟨B, dd, c1, hrl⟩ := hcell i l hf
            rw [show ll.getD i [] = l by rw [List.getD_eq_getElem?_getD, hf]; rfl]
            have HR := Lib.hid hrl
            have i1 : (i : Int) < (ll.length : Int) := by omega
            clear hf hcell hr hrl hi
            go_enter Tryz.func122, Tryz.ntmps122
            go_wp2
            go_ret
            exact ⟨B, dd, rfl, HR.out, rfl⟩
          · rw [show ll.getD i [] = [] by rw [List.getD_eq_getElem?_getD, List.getElem?_eq_none (by omega)]; rfl]
            have i1 : ¬ (i : Int) < (ll.length : Int) := by omega
            have i2 : (ll.length : Int) ≤ (i : Int) := by omega
            clear hi hr
            go_enter Tryz.func122, Tryz.ntmps122
            go_wp2
            go_ret
            exact ⟨none, 0, rfl, Rd.empty _ _, rfl⟩
  · rw [argOf_len h1]
    have q : ((s.length : Int) != 1) = true := by simp; omega
    have q' : ((s.length : Int) == 1) = false := by rw [beq_eq_false_iff_ne]; omega
    clear h1 hr
    go_enter Tryz.func122, Tryz.ntmps122
    go_wp2
    go_ret
    exact ⟨none, 0, rfl, Rd.empty _ _, rfl⟩
theorem fill_step {ts : List Tok} {args : List (List Tok)} {k : Nat} {f : Tok} (h : ts[k]? = some f) : fillL (ts.take (k + 1)) args = fillL (ts.take k) args ++ fillT args f := by
  rw [at_take h, fill_app]; simp [fillL]
theorem fill_le {ts : List Tok} {args : List (List Tok)} (k : Nat) : (fillL (ts.take k) args).length ≤ (fillL ts args).length := by
  conv => rhs; rw [← List.take_append_drop k ts, fill_app, List.length_append]
  omega
set_option maxRecDepth 100000 in
set_option maxHeartbeats 4000000 in
theorem fill_any (A D : Option Addr) (c dc : Nat) (ts : List Tok) (ll : List (List Tok)) (w : World) (hr : Rd w A ts) (hrl : RdL w D ll) (hl : ts.length ≤ 100000) (hll : ll.length ≤ 10000) (hz : Hid (∀ t ∈ ts, t.2.length ≤ 100000)) (hfl : (fillL ts ll).length ≤ 190000) :
    Calls Tryz.prog 107 #[.slice A ts.length c, .slice D ll.length dc] w (Res 89 w (fillL ts ll)) := by
  have HO0 := Lib.hid (own_nil 89 w w.heap.size)
  have HBR := Lib.hid (Below.refl w.heap.size w)
  obtain ⟨R, hR⟩ : ∃ R, fillL ts ll = R := ⟨_, rfl⟩
  rw [hR] at hfl ⊢
  have HR := Lib.hid hR
  clear hR
  go_enter Tryz.func107, Tryz.ntmps107
  go_wp2_with fail
  go_loopw [5, 10] (fun v i wr => ∃ (k : Nat) (C : Option Addr) (cc : Nat) (xs : List Tok), k ≤ ts.length ∧ i = .int .i64 k ∧ v = .slice C xs.length cc ∧ Hid (fillL (ts.take k) ll = xs) ∧ Hid (Own 89 wr w.heap.size C cc xs) ∧ Hid (Below w.heap.size w wr)) (fun _ i _ => ts.length - (intOf i).toNat)
  case atStart => exact ⟨0, _, 0, [], Nat.zero_le _, rfl, rfl, Lib.hid rfl, HO0, HBR⟩
  case round =>
    clear HO0 HBR
    obtain ⟨k, C, cc, xs, hk, rfl, rfl, HX, HO, HB⟩ := hrel
    by_cases hlt : k < ts.length
    · obtain ⟨b, o, rfl, hcell⟩ := (hr.below HB.out) (by omega)
      obtain ⟨f, hf⟩ : ∃ f, ts[k]? = some f := ⟨_, List.getElem?_eq_getElem hlt⟩
      obtain ⟨c1, c2⟩ := hcell k f hf
      have hz1 := hz.out f (List.mem_of_getElem? hf)
      obtain ⟨κ, z⟩ := f
      simp only at c1 c2 hz1
      have hst := fill_step (args := ll) hf
      rw [HX.out] at hst
      obtain ⟨ys, hy⟩ : ∃ ys, xs ++ fillT ll (κ, z) = ys := ⟨_, rfl⟩
      rw [hy] at hst
      have hyl : ys.length ≤ 190000 := by rw [← hst]; have := fill_le (ts := ts) (args := ll) (k + 1); rw [HR.out] at this; omega
      have HN := Lib.hid hst
      have i1 : (k : Int) < (ts.length : Int) := by omega
      have o1 := one_below wr (.cells #[.int .i64 κ, .string ⟨z.toArray⟩] 89)
      have HS1 := Lib.hid (new_snd wr (.int .i64 κ) (.string ⟨z.toArray⟩) 89)
      have HS0 := Lib.hid (new_fst wr (.int .i64 κ) (.string ⟨z.toArray⟩) 89)
      have hsz : (wr.alloc (.cells #[.int .i64 κ, .string ⟨z.toArray⟩] 89)).heap.size = wr.heap.size + 1 := by simp
      have HSZ := Lib.hid hsz
      have HB1 := Lib.hid (bch HB.out o1)
      have HO1 := Lib.hid (HO.out.below o1)
      by_cases h7 : κ = 7
      · have C1 := is1_any κ ⟨z.toArray⟩ 7 3 true (decide_eq_true h7) (wr.alloc (.cells #[.int .i64 κ, .string ⟨z.toArray⟩] 89))
        rw [hsz] at C1
        have CC := Lib.hid C1
        have hft : fillT ll (κ, z) = argOf ll z := by simp [fillT, h7]
        rw [hft] at hy
        obtain ⟨p, hp⟩ : ∃ p, argOf ll z = p := ⟨_, rfl⟩
        rw [hp] at hy
        have HP := Lib.hid hp
        have HY := Lib.hid hy
        have hpl : xs.length + p.length = ys.length := by rw [← hy, List.length_append]
        clear hf hcell HX HO HB C1 hst o1 h7 hft hp hy hsz
        go_wp2_with fail
        refine CC.out.mono ?_
        rintro e w1 ⟨rfl, hb1⟩
        rw [← HSZ.out] at hb1
        have s1 := cell_below hb1 HS1.out
        have HB2 := Lib.hid (bch HB1.out hb1)
        have HO2 := Lib.hid (HO1.out.below hb1)
        have C2 := arg_any D dc ll z w1 (hrl.below HB2.out) hll hz1
        rw [HP.out] at C2
        have CD := Lib.hid C2
        clear C2 hb1 HB1 HO1 CC HS1 HS0 c1 c2
        go_wp2_with fail
        refine CD.out.mono ?_
        rintro e w2 ⟨B, d, rfl, hrp, rfl⟩
        have HRP := Lib.hid hrp
        clear hrp CD
        go_wp2_with (at_builtin; refine wpList_append_rdn37 _ rfl _ _ rfl w.heap.size _ xs rfl HO2.out B p.length d p rfl rfl HRP.out (by omega) HB2.out.size ys HY.out ?_; intro N2 nc2 w3 hown2 hb3)
        have HB4 := Lib.hid (HB2.out.trans hb3)
        have HO4 := Lib.hid hown2
        clear HO2 HB2 hb3 hown2
        go_roundw
        case rel => exact ⟨k + 1, N2, nc2, ys, by omega, by go_num, rfl, HN, HO4, HB4⟩
        case measure => simp [intOf]; omega
      · have C1 := is1_any κ ⟨z.toArray⟩ 7 3 false (decide_eq_false h7) (wr.alloc (.cells #[.int .i64 κ, .string ⟨z.toArray⟩] 89))
        rw [hsz] at C1
        have CC := Lib.hid C1
        have hft : fillT ll (κ, z) = [(κ, z)] := by simp [fillT, h7]
        rw [hft] at hy
        have HY := Lib.hid hy
        have hpl : xs.length + 1 = ys.length := by rw [← hy, List.length_append]; rfl
        clear hf hcell HX HO HB C1 hst o1 h7 hft hy hsz
        go_wp2_with fail
        refine CC.out.mono ?_
        rintro e w1 ⟨rfl, hb1⟩
        rw [← HSZ.out] at hb1
        have s1 := cell_below hb1 HS1.out
        have s0 := cell_below hb1 HS0.out
        have SB := one_below w1 (.cells #[.int .i64 κ, .string ⟨z.toArray⟩] 89)
        have HB2 := Lib.hid (bch (bch HB1.out hb1) SB)
        have HO2 := Lib.hid ((HO1.out.below hb1).below SB)
        clear hb1 HB1 HO1 CC HS1 HS0 c1 c2 SB
        go_wp2_with (at_builtin; refine wpList_append_rdn37 _ rfl _ _ rfl w.heap.size _ xs rfl HO2.out (some ⟨w1.heap.size, 0, none⟩) 1 1 [(κ, z)] rfl rfl (one_read (new_fst _ _ _ _) (new_snd _ _ _ _)) (by show xs.length + 1 ≤ _; omega) HB2.out.size ys HY.out ?_; intro N2 nc2 w3 hown2 hb3)
        have HB4 := Lib.hid (HB2.out.trans hb3)
        have HO4 := Lib.hid hown2
        clear HO2 HB2 hb3 hown2
        go_roundw
        case rel => exact ⟨k + 1, N2, nc2, ys, by omega, by go_num, rfl, HN, HO4, HB4⟩
        case measure => simp [intOf]; omega
    · have hfin := HX.out
      rw [List.take_of_length_le (by omega), HR.out] at hfin
      have HF := Lib.hid hfin
      have i1 : ¬ (k : Int) < (ts.length : Int) := by omega
      clear hfin HX
      go_wp2
      go_ret
      rw [HF.out]
      exact ⟨C, cc, rfl, HO.out, HB.out⟩
end Go.Proofs.YtmnbepapgghdaaaGreat

namespace Go.Proofs.YtmnbepapgghdaaaGreat
open Go.RowKit

/-- Append of tokens, and what lies in another block than the row stays. -/
theorem run_append_far40 (w : World) (base : Nat) (ty : TypeId) (C : Option Addr) (cc : Nat) (xs : List Tok) (hown : Own 82 w base C cc xs) (A : Option Addr) (c : Nat) (gs : List Tok) (hr : Rd w A gs)
    (hlen : xs.length + gs.length ≤ 200000) (hbase : base ≤ w.heap.size) (T : Nat) (hT : T < w.heap.size) (hne : some T ≠ (Value.slice C xs.length cc).ownBlock) :
    ∃ A' c' w', (Builtin.append_ #[35, 35] ty #[.slice C xs.length cc, .slice A gs.length c]).run Tryz.prog w = .ok (.slice A' (xs ++ gs).length c') w' ∧ Own 82 w' base A' c' (xs ++ gs) ∧ Below base w w' ∧
      (∀ o, w'.cell? ⟨T, o, none⟩ = w.cell? ⟨T, o, none⟩) ∧ some T ≠ (Value.slice A' (xs ++ gs).length c').ownBlock ∧ w.heap.size ≤ w'.heap.size := by
  obtain ⟨i0, hi, hz0, hz1, hz2⟩ := info_parts Tryz.info82
  have main : ∀ (ad : Addr), (∀ j u, (fcells gs)[j]? = some u → w.cell? (ad.add j) = some u) →
      ∃ A' c' w', (Builtin.append_ #[35, 35] ty #[.slice C xs.length cc, .slice (some ad) gs.length c]).run Tryz.prog w = .ok (.slice A' (xs ++ gs).length c') w' ∧ Own 82 w' base A' c' (xs ++ gs) ∧ Below base w w' ∧
      (∀ o, w'.cell? ⟨T, o, none⟩ = w.cell? ⟨T, o, none⟩) ∧ some T ≠ (Value.slice A' (xs ++ gs).length c').ownBlock ∧ w.heap.size ≤ w'.heap.size := fun ad hn => by
    obtain ⟨v', w', h1, h2, h3, _, h5⟩ := run_append_own_at (P := Tryz.prog) w base 35 ty 82 i0 _ 2 24 Tryz.underlying35 hi hz0 hz1 hz2 rfl (by decide) (.slice C xs.length cc) xs.length (fcells xs) hown ad gs.length c (fcells gs) (fcells_len gs) hn (fcells_one gs)
      (by unfold maxLen; omega) (by omega) hbase
    rw [← fcells_app] at h2
    obtain ⟨A', c', rfl⟩ := own_shape h2
    rw [← List.length_append] at h2 h1 h5
    have hb := below_grown hown h3 hbase
    refine ⟨A', c', w', h1, h2, hb, fun o => h3.cell_far ⟨T, o, none⟩ hT hne, fun e => ?_, hb.size⟩
    rcases h5 with q | q
    · rw [q] at e; exact hne e
    · rw [q] at e
      have := Option.some.inj e
      omega
  cases A with
  | none =>
    have hg : gs = [] := by
      rcases Nat.eq_zero_or_pos gs.length with h | h
      · exact List.length_eq_zero_iff.1 h
      · obtain ⟨b, o, e, _⟩ := hr h; cases e
    subst hg
    refine ⟨C, cc, w, ?_, ?_, Below.refl _ _, fun _ => rfl, ?_, Nat.le_refl _⟩
    · rw [List.append_nil]; exact run_append_none w base 35 ty 82 i0 2 c Tryz.underlying35 hi _ _ _ hown
    · rw [List.append_nil]; exact hown
    · rw [List.append_nil]; exact hne
  | some ad =>
    rcases Nat.eq_zero_or_pos gs.length with h | h
    · have hg := List.length_eq_zero_iff.1 h
      subst hg
      exact main ad fun j u hu => by simp [fcells] at hu
    · obtain ⟨b, o, e, hc⟩ := hr h
      cases e
      exact main _ (Rd.news hc)
theorem wpList_append_far40 {ops : Array Oper} {rest : List Oper} {o : Oper} {a : Act} {Q : Exit → Act → World → Prop} (w : World) (hgd : o.guard = none) (s x : Operand)
    (ho : o.op = .call { callee := .builtin .append, args := #[s, x], argTypes := #[35, 35] }) (base : Nat) (C : Option Addr) (cc : Nat) (xs : List Tok) (hs : a.eval s = .slice C xs.length cc) (hown : Own 82 w base C cc xs)
    (A : Option Addr) (c : Nat) (gs : List Tok) (hx : a.eval x = .slice A gs.length c) (hr : Rd w A gs) (hlen : xs.length + gs.length ≤ 200000) (hbase : base ≤ w.heap.size) (T : Nat) (hT : T < w.heap.size) (hne : some T ≠ (Value.slice C xs.length cc).ownBlock) (r : List Tok) (hr0 : xs ++ gs = r)
    (h : ∀ A' c' w', Own 82 w' base A' c' r → Below base w w' → (∀ o, w'.cell? ⟨T, o, none⟩ = w.cell? ⟨T, o, none⟩) → some T ≠ (Value.slice A' r.length c').ownBlock → w.heap.size ≤ w'.heap.size → wpList Tryz.prog ops Q rest (a.put o.dst (.slice A' r.length c')) w') : wpList Tryz.prog ops Q (o :: rest) a w := by
  subst hr0
  refine wpList_plain hgd fun K hK => ?_
  obtain ⟨A', c', w', hrun, h2, h3, h4, h5, h6⟩ := run_append_far40 w base o.type C cc xs hown A c gs hr hlen hbase T hT hne
  unfold Oper.wp
  simp only [execOp, ho, resolve, invoke, builtin, Sem.run_bind, Sem.run_pure, Result.andThen_ok, List.map_toArray, List.map_cons, List.map_nil, hs, hx, hrun]
  exact hK _ _ (h A' c' w' h2 h3 h4 h5 h6)
theorem byte_str (w : World) (g : Nat) (x : UInt8) (hc : w.cell? ⟨g, 0, none⟩ = some (.int .u8 (x.toNat : Int))) (c : Nat) : (convert 57 9 (.slice (some ⟨g, 0, none⟩) 1 c)).run Tryz.prog w = .ok (.string ⟨#[x]⟩) w :=
  run_convert_bytes_back (P := Tryz.prog) w 57 9 5 ⟨g, 0, none⟩ c [x] Tryz.underlying57 Tryz.underlying5 Tryz.underlying9 (fun j hj => by
    have : j = 0 := by simp at hj; omega
    subst this
    rw [add_lit]; exact hc)
theorem try_next (ll : List (List Tok)) (s : By) (n : Nat) (xs : List Tok) {ys : List Tok} (h : xs ++ (List.range n).flatMap (tryK ll s) = ys) : xs ++ (List.range (n + 1)).flatMap (tryK ll s) = ys ++ tryK ll s n := by
  rw [← h, List.range_succ, List.flatMap_append]; simp
theorem try_le (ll : List (List Tok)) (s : By) (n : Nat) (h : n ≤ min ll.length 9) : ((List.range n).flatMap (tryK ll s)).length ≤ (argOf ll s).length := by
  rw [← arg_tried]
  obtain ⟨m, hm⟩ : ∃ m, min ll.length 9 = n + m := ⟨min ll.length 9 - n, by omega⟩
  rw [hm, List.range_add, List.flatMap_append, List.length_append]; omega
theorem str_dec (z : By) (x : UInt8) : (({ data := z.toArray } : ByteArray) = ⟨#[x]⟩) ↔ z = [x] := by
  constructor
  · intro h
    have := congrArg (fun b : ByteArray => b.data.toList) h
    simpa using this
  · rintro rfl; rfl
set_option maxRecDepth 100000 in
set_option maxHeartbeats 8000000 in
theorem rfill_any (A D : Option Addr) (c dc : Nat) (ts : List Tok) (ll : List (List Tok)) (w : World) (hr : Rd w A ts) (hrl : RdL w D ll) (hl : ts.length ≤ 100000) (hll : ll.length ≤ 10000) (hfl : (fillL ts ll).length ≤ 190000) :
    Calls Tryz.prog 90 #[.slice A ts.length c, .slice D ll.length dc] w (Res 82 w (fillL ts ll)) := by
  have HO0 := Lib.hid (own_empty 82 w)
  have HBR := Lib.hid (one_below w (.cells #[] 82))
  obtain ⟨R, hR⟩ : ∃ R, fillL ts ll = R := ⟨_, rfl⟩
  rw [hR] at hfl ⊢
  have HR := Lib.hid hR
  clear hR
  go_enter Tryz.func90, Tryz.ntmps90
  go_wp2_with fail
  go_loopw [5, 6] (fun v i wr => ∃ (k : Nat) (C : Option Addr) (cc : Nat) (xs : List Tok), k ≤ ts.length ∧ i = .int .i64 k ∧ v = .slice C xs.length cc ∧ Hid (fillL (ts.take k) ll = xs) ∧ Hid (Own 82 wr w.heap.size C cc xs) ∧ Hid (Below w.heap.size w wr)) (fun _ i _ => ts.length - (intOf i).toNat)
  case atStart => exact ⟨0, _, 0, [], Nat.zero_le _, rfl, rfl, Lib.hid rfl, HO0, HBR⟩
  case round =>
    clear HO0 HBR
    obtain ⟨k, C, cc, xs, hk, rfl, rfl, HX, HO, HB⟩ := hrel
    by_cases hlt : k < ts.length
    · obtain ⟨b, o, rfl, hcell⟩ := (hr.below HB.out) (by omega)
      obtain ⟨f, hf⟩ : ∃ f, ts[k]? = some f := ⟨_, List.getElem?_eq_getElem hlt⟩
      obtain ⟨c1, c2⟩ := hcell k f hf
      obtain ⟨κ, z⟩ := f
      simp only at c1 c2
      have hst := fill_step (args := ll) hf
      rw [HX.out] at hst
      obtain ⟨ys, hy⟩ : ∃ ys, xs ++ fillT ll (κ, z) = ys := ⟨_, rfl⟩
      rw [hy] at hst
      have hyl : ys.length ≤ 190000 := by rw [← hst]; have := fill_le (ts := ts) (args := ll) (k + 1); rw [HR.out] at this; omega
      have HN := Lib.hid hst
      have i1 : (k : Int) < (ts.length : Int) := by omega
      have o1 := one_below wr (.cells #[.int .i64 κ, .string ⟨z.toArray⟩] 82)
      have HS1 := Lib.hid (new_snd wr (.int .i64 κ) (.string ⟨z.toArray⟩) 82)
      have hsz : (wr.alloc (.cells #[.int .i64 κ, .string ⟨z.toArray⟩] 82)).heap.size = wr.heap.size + 1 := by simp
      have HB1 := Lib.hid (bch HB.out o1)
      have HO1 := Lib.hid (HO.out.below o1)
      by_cases h7 : κ = 7
      · have hft : fillT ll (κ, z) = argOf ll z := by simp [fillT, h7]
        rw [hft] at hy
        have HY := Lib.hid hy
        have q7 : (κ != 7) = false := by simp [h7]
        have q7' : (κ == 7) = true := by simp [h7]
        have HNE := Lib.hid (show some wr.heap.size ≠ (Value.slice C xs.length cc).ownBlock from fun e => by have := (World.ownsRow.lt HO.out wr.heap.size e.symm).2; omega)
        have HSZ := Lib.hid (show wr.heap.size < (wr.alloc (.cells #[.int .i64 κ, .string ⟨z.toArray⟩] 82)).heap.size by omega)
        have hyl2 : Hid (xs.length + (argOf ll z).length ≤ 190000) := Lib.hid (by rw [← List.length_append, hy]; exact hyl)
        clear hf hcell HX HO HB hst o1 h7 hft hy hsz
        rename World => wo
        go_wp2_with fail
        go_loopw [5, 8] (fun v i wi => ∃ (j : Nat) (C2 : Option Addr) (cc2 : Nat) (zs : List Tok), j ≤ ll.length ∧ j ≤ 9 ∧ i = .int .i64 j ∧ v = .slice C2 zs.length cc2 ∧ Hid (xs ++ (List.range j).flatMap (tryK ll z) = zs) ∧ Hid (Own 82 wi w.heap.size C2 cc2 zs) ∧ Hid (Below w.heap.size w wi) ∧ Hid (wi.cell? ⟨wo.heap.size, 1, none⟩ = some (.string ⟨z.toArray⟩)) ∧ Hid (some wo.heap.size ≠ (Value.slice C2 zs.length cc2).ownBlock) ∧ Hid (wo.heap.size < wi.heap.size)) (fun _ i _ => 9 - (intOf i).toNat)
        case atStart => exact ⟨0, C, cc, xs, Nat.zero_le _, by omega, rfl, rfl, Lib.hid (by simp), HO1, HB1, HS1, HNE, HSZ⟩
        case round =>
          clear HO1 HB1 HS1 HNE HSZ c1 c2
          obtain ⟨j, C2, cc2, zs, hj1, hj2, rfl, rfl, HX2, HO2, HB2, HS2, HNE2, HSZ2⟩ := hrel
          by_cases hjl : j < ll.length
          · by_cases hj9 : j < 9
            · obtain ⟨x, hx⟩ : ∃ x : UInt8, UInt8.ofNat (49 + j) = x := ⟨_, rfl⟩
              have hxn : ((x.toNat : Nat) : Int) = 49 + (j : Int) := by rw [← hx, byte_nat (by omega)]; omega
              have i2 : (j : Int) < (ll.length : Int) := by omega
              have i3 : (j : Int) < 9 := by omega
              have o2 := one_below wr (.cells #[.int .u8 (49 + (j : Int))] 5)
              have kc := byte_str (wr.alloc (.cells #[.int .u8 (49 + (j : Int))] 5)) wr.heap.size x (by rw [hxn]; exact new_one _ _ _) 1
              have s1 := HS2.out
              have hnext := try_next ll z j xs HX2.out
              have HO3 := Lib.hid (HO2.out.below o2)
              have HB3 := Lib.hid (bch HB2.out o2)
              have HS3 := Lib.hid (cell_below o2 HS2.out)
              have HSZ3 := Lib.hid (show wo.heap.size < (wr.alloc (.cells #[.int .u8 (49 + (j : Int))] 5)).heap.size by have := HSZ2.out; have := o2.size; omega)
              by_cases hz : z = [x]
              · have ht : tryK ll z j = ll.getD j [] := by unfold tryK; rw [hx, if_pos hz]
                obtain ⟨l, hf⟩ : ∃ l, ll[j]? = some l := ⟨_, List.getElem?_eq_getElem hjl⟩
                rw [ht, List.getD_eq_getElem?_getD, hf, Option.getD_some] at hnext
                obtain ⟨bb, oo, rfl, hcell⟩ := (hrl.below HB3.out) (by omega)
                obtain ⟨B, dd, k1, hrd⟩ := hcell j l hf
                obtain ⟨z2, hz2⟩ : ∃ z2, zs ++ l = z2 := ⟨_, rfl⟩
                rw [hz2] at hnext
                have hl2 : z2.length ≤ 190000 := by
                  rw [← hnext, List.length_append]
                  have := try_le ll z (j + 1) (by omega)
                  have := hyl2.out
                  omega
                have hl3 : zs.length + l.length = z2.length := by rw [← hz2, List.length_append]
                have HN2 := Lib.hid hnext
                have HZ2 := Lib.hid hz2
                have HRD := Lib.hid hrd
                have qd : (z == [x]) = true := by rw [beq_iff_eq]; exact hz
                clear hnext hz2 hrd hcell hf ht hz HX2 HO2 HB2 HS2 o2 hx
                go_wp2_with (at_builtin; refine wpList_append_far40 _ rfl _ _ rfl w.heap.size C2 cc2 zs rfl HO3.out B dd l rfl HRD.out (by omega) HB3.out.size wo.heap.size HSZ3.out HNE2.out z2 HZ2.out ?_; intro N2 nc2 w4 ho4 hb4 hc4 hn4 hs4)
                have HB5 := Lib.hid (HB3.out.trans hb4)
                have HO5 := Lib.hid ho4
                have HS5 := Lib.hid ((hc4 1).trans HS3.out)
                have HNE5 := Lib.hid hn4
                have HSZ5 := Lib.hid (Nat.lt_of_lt_of_le HSZ3.out hs4)
                clear ho4 hb4 hc4 hn4 hs4 HB3 HO3 HS3
                go_roundw
                case rel => exact ⟨j + 1, N2, nc2, z2, by omega, by omega, by go_num, rfl, HN2, HO5, HB5, HS5, HNE5, HSZ5⟩
                case measure => simp [intOf]; omega
              · have ht : tryK ll z j = [] := by unfold tryK; rw [hx, if_neg hz]
                rw [ht, List.append_nil] at hnext
                have HN2 := Lib.hid hnext
                have qd : (z == [x]) = false := by rw [beq_eq_false_iff_ne]; exact hz
                clear hnext ht HX2 HO2 HB2 HS2 o2 hx hz
                go_wp2_with fail
                go_roundw
                case rel => exact ⟨j + 1, C2, cc2, zs, by omega, by omega, by go_num, rfl, HN2, HO3, HB3, HS3, HNE2, HSZ3⟩
                case measure => simp [intOf]; omega
            · have hfin := HX2.out
              rw [show j = min ll.length 9 by omega, arg_tried, HY.out] at hfin
              subst hfin
              have i2 : (j : Int) < (ll.length : Int) := by omega
              have i3 : ¬ (j : Int) < 9 := by omega
              clear HX2 HS2
              go_wp2_with fail
              go_roundw
              case rel => exact ⟨k + 1, C2, cc2, ys, by omega, by go_num, rfl, HN, HO2, HB2⟩
              case measure => simp [intOf]; omega
          · have hfin := HX2.out
            rw [show j = min ll.length 9 by omega, arg_tried, HY.out] at hfin
            subst hfin
            have i2 : ¬ (j : Int) < (ll.length : Int) := by omega
            clear HX2 HS2
            go_wp2_with fail
            go_roundw
            case rel => exact ⟨k + 1, C2, cc2, ys, by omega, by go_num, rfl, HN, HO2, HB2⟩
            case measure => simp [intOf]; omega
      · have hft : fillT ll (κ, z) = [(κ, z)] := by simp [fillT, h7]
        rw [hft] at hy
        have HY := Lib.hid hy
        have hpl : xs.length + 1 = ys.length := by rw [← hy, List.length_append]; rfl
        have q7 : (κ != 7) = true := by simpa using h7
        have q7' : (κ == 7) = false := by simpa using h7
        have o2 := one_below (wr.alloc (.cells #[.int .i64 κ, .string ⟨z.toArray⟩] 82)) (.cells #[.int .i64 κ, .string ⟨z.toArray⟩] 82)
        have HB2 := Lib.hid (bch HB1.out o2)
        have HO2 := Lib.hid (HO1.out.below o2)
        have hrd := one_read (f := (κ, z)) (new_fst (wr.alloc (.cells #[.int .i64 κ, .string ⟨z.toArray⟩] 82)) (.int .i64 κ) (.string ⟨z.toArray⟩) 82) (new_snd _ _ _ _)
        rw [hsz] at hrd
        have HRD := Lib.hid hrd
        clear hf hcell HX HO HB hst o1 h7 hft hy hsz HS1 HB1 HO1 hrd o2
        go_wp2_with (at_builtin; refine wpList_append_rdn40 _ rfl _ _ rfl w.heap.size _ xs rfl HO2.out (some ⟨wr.heap.size + 1, 0, none⟩) 1 1 [(κ, z)] rfl (by first | rfl | simp) HRD.out (by show xs.length + 1 ≤ _; omega) HB2.out.size ys HY.out ?_; intro N2 nc2 w3 hown2 hb3)
        have HB4 := Lib.hid (HB2.out.trans hb3)
        have HO4 := Lib.hid hown2
        clear HO2 HB2 hb3 hown2
        go_roundw
        case rel => exact ⟨k + 1, N2, nc2, ys, by omega, by go_num, rfl, HN, HO4, HB4⟩
        case measure => simp [intOf]; omega
    · have hfin := HX.out
      rw [List.take_of_length_le (by omega), HR.out] at hfin
      have HF := Lib.hid hfin
      have i1 : ¬ (k : Int) < (ts.length : Int) := by omega
      clear hfin HX
      go_wp2
      go_ret
      rw [HF.out]
      exact ⟨C, cc, rfl, HO.out, HB.out⟩
end Go.Proofs.YtmnbepapgghdaaaGreat

namespace Go.Proofs.YtmnbepapgghdaaaGreat
open Go.RowKit

theorem sq_left : ∀ (m : Nat) (t : By), sqG true (List.replicate m 32 ++ t) = sqG true t
  | 0, t => by simp
  | m + 1, t => by rw [List.replicate_succ, List.cons_append, sqG, if_pos rfl, if_pos rfl]; exact sq_left m t
theorem sq_right : ∀ (n : Nat) (t : By), sqL (t ++ List.replicate n 32) = sqL t
  | 0, t => by simp
  | n + 1, t => by
    rw [List.replicate_succ', ← List.append_assoc, sq_join, wd_app, show wdG [] ([] : By) = [] from rfl, List.append_nil, ← sq_join]
    exact sq_right n t
theorem sq_last {t : By} (h : t.getLast? ≠ some 32) : trimB (sqG true t) = sqG true t := by
  rcases List.eq_nil_or_concat t with rfl | ⟨u, c, rfl⟩
  · rfl
  · have hc : c ≠ 32 := fun e => h (by rw [e]; simp)
    rw [List.concat_eq_append, sq_step, if_neg hc]
    unfold trimB
    rw [List.getLast?_append]
    simp [hc]
theorem sq_trim {s t u : By} (h1 : ∃ n, s = u ++ List.replicate n 32) (h2 : u.getLast? ≠ some 32) (h3 : ∃ m, u = List.replicate m 32 ++ t) : sqL s = sqG true t := by
  obtain ⟨n, rfl⟩ := h1
  obtain ⟨m, rfl⟩ := h3
  rw [sq_right]
  unfold sqL
  rw [sq_last h2, sq_left]
/-- A text without blanks at one end. -/
def TrimL (w : World) (s : By) (e : Ending) (w' : World) : Prop := ∃ t : ByteArray, e = .returned (.string t) ∧ (∃ m, s = List.replicate m 32 ++ t.data.toList) ∧ t.data.toList.head? ≠ some 32 ∧ w = w'
def TrimR (w : World) (s : By) (e : Ending) (w' : World) : Prop := ∃ t : ByteArray, e = .returned (.string t) ∧ (∃ m, s = t.data.toList ++ List.replicate m 32) ∧ t.data.toList.getLast? ≠ some 32 ∧ w = w'
theorem head_list (t : ByteArray) (h : 0 < t.size) : t.data.toList = t[0] :: t.data.toList.drop 1 := by
  have e : t.data.toList[0]? = some t[0] := List.getElem?_eq_getElem (by rw [size_list]; exact h)
  have := drop_one e
  simpa using this
theorem last_list (t : ByteArray) (m : Nat) (h : t.size = m + 1) : t.data.toList = t.data.toList.take m ++ [t[m]'(by omega)] := by
  have := take_step t m (by omega)
  rwa [List.take_of_length_le (by rw [size_list]; omega)] at this
end Go.Proofs.YtmnbepapgghdaaaGreat

namespace Go.Proofs.YtmnbepapgghdaaaGreat
open Go.RowKit

def trl (s : By) : By := s.dropWhile fun c => c == 32
def trr (s : By) : By := (trl s.reverse).reverse
theorem trl_rep : ∀ (m : Nat) (t : By), t.head? ≠ some 32 → trl (List.replicate m 32 ++ t) = t
  | 0, [], _ => rfl
  | 0, c :: t, h => by
    have : c ≠ 32 := fun e => h (by rw [e]; rfl)
    simp [trl, this]
  | m + 1, t, h => by
    have := trl_rep m t h
    unfold trl at this ⊢
    rw [List.replicate_succ, List.cons_append, List.dropWhile_cons]
    simpa using this
theorem trr_rep (m : Nat) (t : By) (h : t.getLast? ≠ some 32) : trr (t ++ List.replicate m 32) = t := by
  unfold trr
  rw [List.reverse_append, List.reverse_replicate, trl_rep m t.reverse (by rw [List.head?_reverse]; exact h), List.reverse_reverse]
theorem trl_ex : ∀ (s : By), (∃ m, s = List.replicate m 32 ++ trl s) ∧ (trl s).head? ≠ some 32
  | [] => ⟨⟨0, rfl⟩, by simp [trl]⟩
  | c :: s => by
    by_cases h : c = 32
    · obtain ⟨⟨m, hm⟩, h2⟩ := trl_ex s
      have e : trl (c :: s) = trl s := by unfold trl; rw [List.dropWhile_cons]; simp [h]
      rw [e]
      refine ⟨⟨m + 1, ?_⟩, h2⟩
      rw [h, List.replicate_succ, List.cons_append, ← hm]
    · have e : trl (c :: s) = c :: s := by unfold trl; rw [List.dropWhile_cons]; simp [h]
      rw [e]
      exact ⟨⟨0, rfl⟩, fun k => h (by simpa using k)⟩
theorem trr_ex (s : By) : (∃ m, s = trr s ++ List.replicate m 32) ∧ (trr s).getLast? ≠ some 32 := by
  obtain ⟨⟨m, hm⟩, h2⟩ := trl_ex s.reverse
  unfold trr
  refine ⟨⟨m, ?_⟩, by rw [List.getLast?_reverse]; exact h2⟩
  have := congrArg List.reverse hm
  rw [List.reverse_reverse, List.reverse_append, List.reverse_replicate] at this
  exact this
theorem trl_len (s : By) : (trl s).length ≤ s.length := List.dropWhile_suffix _ |>.length_le
theorem trr_len (s : By) : (trr s).length ≤ s.length := by
  unfold trr; rw [List.length_reverse]; have := trl_len s.reverse; rwa [List.length_reverse] at this
theorem sq_trims (s : By) : sqL s = sqG true (trl (trr s)) := by
  obtain ⟨h1, h2⟩ := trr_ex s
  exact sq_trim h1 h2 (trl_ex (trr s)).1
theorem quiet_same {P : Program} {f : FuncId} {args : Array Value} {w : World} {n : Nat} {v : Value}
    (h : Calls P f args (w.drewN n) fun e w' => e = .returned v ∧ w.drewN n = w') : Calls P f args (w.drewN n) fun e w'' => e = .returned v ∧ ∃ m, w'' = w.drewN m :=
  h.mono fun _ _ ⟨he, hm⟩ => ⟨he, n, hm.symm⟩
theorem list_str (t : By) (k : Nat) (h : k < (ByteArray.mk t.toArray).size) : (ByteArray.mk t.toArray)[k] = t[k]'h := rfl
end Go.Proofs.YtmnbepapgghdaaaGreat

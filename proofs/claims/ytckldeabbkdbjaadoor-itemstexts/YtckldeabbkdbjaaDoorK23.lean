/-
  The contract of the document's own answer: Lex.
-/
import Derived.Test.YtckldeabbkdbjaaDoorK22
import Derived.Test.YtckldeabbkdbjaaDoorK14
namespace Go.Proofs.YtckldeabbkdbjaaDoor
open Go.RowKit

theorem lead_at {s : By} {n m : Nat} (ha : ((s.drop n).take (m - n)).all ltr = true) (hn : n ≤ m) (hs : hdB ltr (s.drop m) = false) : (s.drop n).takeWhile ltr = (s.drop n).take (m - n) ∧ (s.drop n).dropWhile ltr = s.drop m := by
  have e : s.drop m = (s.drop n).drop (m - n) := by rw [List.drop_drop]; congr 1; omega
  rw [e] at hs ⊢
  have h := take_ltr ha hs
  rw [List.take_append_drop] at h
  exact h
theorem ext_at (t : ByteArray) (a b : Nat) : (t.extract a b).data.toList = (t.data.toList.drop a).take (b - a) := by rw [ext_list, List.drop_take]
theorem two_readY (w : World) (o : Obj) (k : Int) (x : By) : Rd ((w.alloc o).alloc (.cells #[.int .i64 k, .string ⟨x.toArray⟩] 65)) (some ⟨w.heap.size + 1, 0, none⟩) [(k, x)] := by
  have e : (w.alloc o).heap.size = w.heap.size + 1 := by simp
  rw [← e]
  exact one_read (new_fst _ _ _ _) (new_snd _ _ _ _)
theorem drop_len (t : ByteArray) (n : Nat) : (t.data.toList.drop n).length = t.size - n := by rw [List.length_drop, size_list]
set_option maxRecDepth 100000 in
set_option maxHeartbeats 4000000 in
theorem rlex_any (t : ByteArray) (w : World) (hs : t.size ≤ 190000) :
    Calls Tryd.prog 23 #[.string t] w (Res 65 w (toks t.data.toList)) := by
  generalize hg : toks t.data.toList = R
  have HR := Lib.hid (show ([] : List Tok) ++ toks (t.data.toList.drop 0) = R by rw [List.drop_zero, hg]; rfl)
  clear hg
  have ho0 := own_empty 65 w
  have hb0 := one_below w (.cells #[] 65)
  go_enter Tryd.func23, Tryd.ntmps23
  go_wp2_with fail
  go_loopw [3, 4] (fun v3 v4 wr => ∃ (n : Nat) (A : Option Addr) (c : Nat) (xs : List Tok), v4 = .int .i64 n ∧ v3 = .slice A xs.length c ∧ n ≤ t.size ∧ xs.length ≤ n ∧ Hid (xs ++ toks (t.data.toList.drop n) = R) ∧ Own 65 wr w.heap.size A c xs ∧ Below w.heap.size w wr) (fun _ v4 _ => t.size - (intOf v4).toNat)
  case atStart => exact ⟨0, _, 0, [], rfl, rfl, Nat.zero_le _, by simp, HR, ho0, hb0⟩
  case round =>
    clear HR ho0 hb0
    obtain ⟨n, A, c, xs, rfl, rfl, hn, hxl, HG, hown, hb⟩ := hrel
    by_cases hlt : n < t.size
    · have C := rkind_any t n wr (by omega) hlt
      have i1 : (n : Int) < (t.size : Int) := by omega
      have hdl := drop_len t n
      have hne : hk (t.data.toList.drop n) ≠ 0 := fun e => by
        have := toks_zero e
        rw [this] at hdl; simp at hdl; omega
      unfold kdN at C
      obtain ⟨u, hu⟩ : ∃ u, t.data.toList.drop n = u := ⟨_, rfl⟩
      rw [hu] at C HG hdl hne
      rcases hk_ways u with h | h | h | h | h | h | h
      · exact absurd h hne
      · rw [h] at C
        obtain ⟨hT, hle⟩ := toks_k1 h
        have CT := fun W => rword_any t n W (by omega) hn
        rw [hu] at CT
        obtain ⟨k, hk0⟩ : ∃ k : Int, (1 : Int) = k := ⟨_, rfl⟩
        obtain ⟨x, hx⟩ : ∃ x : By, (wordG u).1 = x := ⟨_, rfl⟩
        obtain ⟨U, hU⟩ : ∃ U : By, (wordG u).2 = U := ⟨_, rfl⟩
        rw [hk0, hx, hU] at hT CT
        rw [hU, hdl] at hle
        obtain ⟨ys, hy⟩ : ∃ ys, xs ++ [(k, x)] = ys := ⟨_, rfl⟩
        have HN := Lib.hid (show ys ++ toks U = R by rw [← HG.out, hT, ← hy]; simp)
        have HYL := Lib.hid (show ys.length = xs.length + 1 by rw [← hy]; simp)
        have HY := Lib.hid hy
        have CC := Lib.hid C
        have CT2 := Lib.hid CT
        have HO := Lib.hid hown
        have hb1 := one_below wr (.cells #[.int .i64 1, .string ⟨#[]⟩] 65)
        have hbk1 := tok40_new wr (.int .i64 1) (.string ⟨#[]⟩)
        have HB1 := Lib.hid hb1
        have HBK := Lib.hid hbk1
        clear C CT hT hk0 hx hU h HG hown hb1 hbk1 hy hdl hu hne
        go_wp2_with fail
        refine CC.out.mono ?_
        rintro e w' ⟨rfl, rfl⟩
        go_wp2_with fail
        refine (CT2.out _).mono ?_
        rintro e w2 ⟨j, rfl, HJ, hj, hb2⟩
        have hbk2 := blk_below hb2 HBK.out
        have hw2 : Below wr.heap.size wr w2 := bch HB1.out hb2
        have c0 : w2.cell? ⟨wr.heap.size, 0, none⟩ = some (.int .i64 1) := cell_of hbk2 0
        have c1 : w2.cell? ⟨wr.heap.size, 1, none⟩ = some (.string ⟨#[]⟩) := cell_of hbk2 1
        have f0 := frozen_of hbk2 0
        have f1 := frozen_of hbk2 1
        have SB := stored_below hb hw2 k ⟨x.toArray⟩ (.cells #[.int .i64 k, .string ⟨x.toArray⟩] 65)
        have HO2 := Lib.hid (HO.out.below SB)
        have HB2 := Lib.hid (bch hb SB)
        have HJL := Lib.hid (show n < j by have := drop_len t j; rw [HJ.out] at this; omega)
        clear CC CT2 HO HB1 HBK hb2 hbk2 hw2 SB
        go_wp2_with (at_builtin; refine wpList_append_rdn40 _ rfl _ _ rfl w.heap.size _ xs rfl HO2.out (some ⟨w2.heap.size, 0, none⟩) 1 1 [(k, x)] rfl (by first | rfl | simp) (stored_read _ _ _ _ _ k x 65) (by show xs.length + 1 ≤ _; omega) HB2.out.size ys HY.out ?_; intro N2 nc2 w3 hown2 hb3)
        have hb4 := HB2.out.trans hb3
        have hjl := HJL.out
        clear HO2 HB2 hb3
        go_roundw
        case rel => exact ⟨j, N2, nc2, ys, rfl, rfl, hj, by have := HYL.out; omega, Lib.hid (by rw [HJ.out]; exact HN.out), hown2, hb4⟩
        case measure => simp [intOf]; omega
      · rw [h] at C
        obtain ⟨hT, hle⟩ := toks_k2 h
        have CT := fun W => rgap_any t n W (by omega) hn
        rw [hu] at CT
        obtain ⟨k, hk0⟩ : ∃ k : Int, gapK (gapG false 0 u).1 = k := ⟨_, rfl⟩
        obtain ⟨x, hx⟩ : ∃ x : By, ([] : By) = x := ⟨_, rfl⟩
        obtain ⟨U, hU⟩ : ∃ U : By, (gapG false 0 u).2 = U := ⟨_, rfl⟩
        rw [hk0, hx, hU] at hT CT
        rw [hU, hdl] at hle
        obtain ⟨ys, hy⟩ : ∃ ys, xs ++ [(k, x)] = ys := ⟨_, rfl⟩
        have HN := Lib.hid (show ys ++ toks U = R by rw [← HG.out, hT, ← hy]; simp)
        have HYL := Lib.hid (show ys.length = xs.length + 1 by rw [← hy]; simp)
        have HY := Lib.hid hy
        have CC := Lib.hid C
        have CT2 := Lib.hid CT
        have HO := Lib.hid hown
        have hb1 := one_below wr (.cells #[.int .i64 2, .string ⟨#[]⟩] 65)
        have hbk1 := tok40_new wr (.int .i64 2) (.string ⟨#[]⟩)
        have HB1 := Lib.hid hb1
        have HBK := Lib.hid hbk1
        clear C CT hT hk0 hx hU h HG hown hb1 hbk1 hy hdl hu hne
        go_wp2_with fail
        refine CC.out.mono ?_
        rintro e w' ⟨rfl, rfl⟩
        go_wp2_with fail
        refine (CT2.out _).mono ?_
        rintro e w2 ⟨j, rfl, HJ, hj, hb2⟩
        have hbk2 := blk_below hb2 HBK.out
        have hw2 : Below wr.heap.size wr w2 := bch HB1.out hb2
        have c0 : w2.cell? ⟨wr.heap.size, 0, none⟩ = some (.int .i64 2) := cell_of hbk2 0
        have c1 : w2.cell? ⟨wr.heap.size, 1, none⟩ = some (.string ⟨#[]⟩) := cell_of hbk2 1
        have f0 := frozen_of hbk2 0
        have f1 := frozen_of hbk2 1
        have SB := stored_below hb hw2 k ⟨x.toArray⟩ (.cells #[.int .i64 k, .string ⟨x.toArray⟩] 65)
        have HO2 := Lib.hid (HO.out.below SB)
        have HB2 := Lib.hid (bch hb SB)
        have HJL := Lib.hid (show n < j by have := drop_len t j; rw [HJ.out] at this; omega)
        clear CC CT2 HO HB1 HBK hb2 hbk2 hw2 SB
        go_wp2_with (at_builtin; refine wpList_append_rdn40 _ rfl _ _ rfl w.heap.size _ xs rfl HO2.out (some ⟨w2.heap.size, 0, none⟩) 1 1 [(k, x)] rfl (by first | rfl | simp) (stored_read _ _ _ _ _ k x 65) (by show xs.length + 1 ≤ _; omega) HB2.out.size ys HY.out ?_; intro N2 nc2 w3 hown2 hb3)
        have hb4 := HB2.out.trans hb3
        have hjl := HJL.out
        clear HO2 HB2 hb3
        go_roundw
        case rel => exact ⟨j, N2, nc2, ys, rfl, rfl, hj, by have := HYL.out; omega, Lib.hid (by rw [HJ.out]; exact HN.out), hown2, hb4⟩
        case measure => simp [intOf]; omega
      · rw [h] at C
        have HT := Lib.hid (toks_k4 h).1
        have HU := Lib.hid hu
        have CC := Lib.hid C
        have HBB := Lib.hid (And.intro hown hb)
        clear C h hdl hu hne hown hb
        go_wp2_with fail
        refine CC.out.mono ?_
        rintro e w' ⟨rfl, rfl⟩
        go_wp2_with fail
        go_loop [7] (fun v7 => ∃ m : Nat, v7 = .int .i64 m ∧ n + 1 ≤ m ∧ m ≤ t.size ∧ Hid (((t.data.toList.drop (n + 1)).take (m - (n + 1))).all ltr = true)) (fun v7 => t.size - (intOf v7).toNat)
        case atStart => exact ⟨n + 1, by go_num, Nat.le_refl _, by omega, Lib.hid (by rw [Nat.sub_self]; rfl)⟩
        case round =>
          obtain ⟨m, rfl, hm1, hm2, HA⟩ := hrel
          by_cases hml : m < t.size
          · have hld := hd_yes ltr t m hml
            rw [ltr_int] at hld
            obtain ⟨z, hz⟩ : ∃ z : Int, (t[m].toNat : Int) = z := ⟨_, rfl⟩
            rw [hz] at hld
            have CL := Lib.hid (fun w => rletter_any z w)
            rw [← hld] at CL
            have i2 : (m : Int) < (t.size : Int) := by omega
            cases hv : hdB ltr (t.data.toList.drop m)
            · rw [hv] at CL
              have HD := Lib.hid hv
              obtain ⟨hown, hb⟩ := HBB.out
              obtain ⟨X, hX⟩ : ∃ X : By, t.extract (n + 1) m = ⟨X.toArray⟩ := ⟨_, rfl⟩
              have hx : (u.drop 1).takeWhile ltr = X ∧ (u.drop 1).dropWhile ltr = t.data.toList.drop m := by
                have e := ext_at t (n + 1) m
                rw [hX] at e
                have h2 := lead_at HA.out hm1 HD.out
                rw [← HU.out, List.drop_drop]
                exact ⟨h2.1.trans e.symm, h2.2⟩
              obtain ⟨ys, hy⟩ : ∃ ys, xs ++ [(4, X)] = ys := ⟨_, rfl⟩
              have HN := Lib.hid (show ys ++ toks (t.data.toList.drop m) = R by rw [← HG.out, HT.out, ← hy, hx.1, hx.2]; simp)
              have HYL := Lib.hid (show ys.length = xs.length + 1 by rw [← hy]; simp)
              have HY := Lib.hid hy
              have SB2 := two_below wr (.cells #[.int .i64 4, .string ⟨(X : By).toArray⟩] 65) (.cells #[.int .i64 4, .string ⟨(X : By).toArray⟩] 65)
              have HO2 := Lib.hid (hown.below SB2)
              have HB2 := Lib.hid (bch hb SB2)
              clear hx hy SB2 hown hb hv hld HA HD HBB HT HU HG
              have i3 : (n : Int) + 1 ≤ (m : Int) := by omega
              go_wp2_with fail
              refine (CL.out _).mono ?_
              rintro e w' ⟨rfl, rfl⟩
              go_wp2_with (at_builtin; refine wpList_append_rdn40 _ rfl _ _ rfl w.heap.size _ xs rfl HO2.out (some ⟨wr.heap.size + 1, 0, none⟩) 1 1 [(4, X)] rfl (by first | rfl | simp) (two_readY wr _ 4 X) (by show xs.length + 1 ≤ _; omega) HB2.out.size ys HY.out ?_; intro N2 nc2 w3 hown2 hb3)
              have hb4 := HB2.out.trans hb3
              clear HO2 HB2 hb3
              go_roundw
              case rel => exact ⟨m, N2, nc2, ys, by go_num, rfl, by omega, by have := HYL.out; omega, HN, hown2, hb4⟩
              case measure => simp [intOf]; omega
            · rw [hv] at CL
              have HN := Lib.hid (show ((t.data.toList.drop (n + 1)).take (m + 1 - (n + 1))).all ltr = true by
                have e1 := drop_at t m hml
                rw [show m + 1 - (n + 1) = (m - (n + 1)) + 1 by omega, List.take_add_one, List.all_append, HA.out, List.getElem?_drop, show n + 1 + (m - (n + 1)) = m by omega]
                have e2 : t.data.toList[m]? = some t[m] := List.getElem?_eq_getElem (by rw [size_list]; exact hml)
                rw [e2]
                have e3 : ltr t[m] = true := by rw [← hd_yes ltr t m hml]; exact hv
                simp [e3])
              clear hv hld HA
              go_wp2_with fail
              refine (CL.out _).mono ?_
              rintro e w' ⟨rfl, rfl⟩
              go_wp2
              go_round
              case rel => exact ⟨m + 1, by go_num, by omega, by omega, HN⟩
              case measure => simp [intOf]; omega
          · have HD := Lib.hid (hd_no ltr t m hml)
            have i2 : ¬ (m : Int) < (t.size : Int) := by omega
            obtain ⟨hown, hb⟩ := HBB.out
            obtain ⟨X, hX⟩ : ∃ X : By, t.extract (n + 1) m = ⟨X.toArray⟩ := ⟨_, rfl⟩
            have hx : (u.drop 1).takeWhile ltr = X ∧ (u.drop 1).dropWhile ltr = t.data.toList.drop m := by
              have e := ext_at t (n + 1) m
              rw [hX] at e
              have h2 := lead_at HA.out hm1 HD.out
              rw [← HU.out, List.drop_drop]
              exact ⟨h2.1.trans e.symm, h2.2⟩
            obtain ⟨ys, hy⟩ : ∃ ys, xs ++ [(4, X)] = ys := ⟨_, rfl⟩
            have HN := Lib.hid (show ys ++ toks (t.data.toList.drop m) = R by rw [← HG.out, HT.out, ← hy, hx.1, hx.2]; simp)
            have HYL := Lib.hid (show ys.length = xs.length + 1 by rw [← hy]; simp)
            have HY := Lib.hid hy
            have SB2 := two_below wr (.cells #[.int .i64 4, .string ⟨(X : By).toArray⟩] 65) (.cells #[.int .i64 4, .string ⟨(X : By).toArray⟩] 65)
            have HO2 := Lib.hid (hown.below SB2)
            have HB2 := Lib.hid (bch hb SB2)
            clear hx hy SB2 hown hb HA HD HBB HT HU HG
            have i3 : (n : Int) + 1 ≤ (m : Int) := by omega
            go_wp2_with (at_builtin; refine wpList_append_rdn40 _ rfl _ _ rfl w.heap.size _ xs rfl HO2.out (some ⟨wr.heap.size + 1, 0, none⟩) 1 1 [(4, X)] rfl (by first | rfl | simp) (two_readY wr _ 4 X) (by show xs.length + 1 ≤ _; omega) HB2.out.size ys HY.out ?_; intro N2 nc2 w3 hown2 hb3)
            have hb4 := HB2.out.trans hb3
            clear HO2 HB2 hb3
            go_roundw
            case rel => exact ⟨m, N2, nc2, ys, by go_num, rfl, by omega, by have := HYL.out; omega, HN, hown2, hb4⟩
            case measure => simp [intOf]; omega
      · rw [h] at C
        have hT := toks_k5 h (.inl rfl)
        obtain ⟨ys, hy⟩ : ∃ ys, xs ++ [(5, ([] : By))] = ys := ⟨_, rfl⟩
        have HN := Lib.hid (show ys ++ toks (t.data.toList.drop (n + 1)) = R by
          rw [← HG.out, hT, ← hy, ← hu, List.drop_drop]; simp)
        have HYL := Lib.hid (show ys.length = xs.length + 1 by rw [← hy]; simp)
        have HY := Lib.hid hy
        have SB2 := two_below wr (.cells #[.int .i64 5, .string ⟨([] : By).toArray⟩] 65) (.cells #[.int .i64 5, .string ⟨([] : By).toArray⟩] 65)
        have HO2 := Lib.hid (hown.below SB2)
        have HB2 := Lib.hid (bch hb SB2)
        have CC := Lib.hid C
        clear C hT h HG hown hb hy SB2 hdl hu hne
        go_wp2_with fail
        refine CC.out.mono ?_
        rintro e w' ⟨rfl, rfl⟩
        go_wp2_with (at_builtin; refine wpList_append_rdn40 _ rfl _ _ rfl w.heap.size _ xs rfl HO2.out (some ⟨wr.heap.size + 1, 0, none⟩) 1 1 [(5, ([] : By))] rfl (by first | rfl | simp) (two_readY wr _ 5 ([] : By)) (by show xs.length + 1 ≤ _; omega) HB2.out.size ys HY.out ?_; intro N2 nc2 w3 hown2 hb3)
        have hb4 := HB2.out.trans hb3
        clear HO2 HB2 hb3
        go_roundw
        case rel => exact ⟨n + 1, N2, nc2, ys, by go_num, rfl, by omega, by have := HYL.out; omega, HN, hown2, hb4⟩
        case measure => simp [intOf]; omega
      · rw [h] at C
        have hT := toks_k5 h (.inr rfl)
        obtain ⟨ys, hy⟩ : ∃ ys, xs ++ [(6, ([] : By))] = ys := ⟨_, rfl⟩
        have HN := Lib.hid (show ys ++ toks (t.data.toList.drop (n + 1)) = R by
          rw [← HG.out, hT, ← hy, ← hu, List.drop_drop]; simp)
        have HYL := Lib.hid (show ys.length = xs.length + 1 by rw [← hy]; simp)
        have HY := Lib.hid hy
        have SB2 := two_below wr (.cells #[.int .i64 6, .string ⟨([] : By).toArray⟩] 65) (.cells #[.int .i64 6, .string ⟨([] : By).toArray⟩] 65)
        have HO2 := Lib.hid (hown.below SB2)
        have HB2 := Lib.hid (bch hb SB2)
        have CC := Lib.hid C
        clear C hT h HG hown hb hy SB2 hdl hu hne
        go_wp2_with fail
        refine CC.out.mono ?_
        rintro e w' ⟨rfl, rfl⟩
        go_wp2_with (at_builtin; refine wpList_append_rdn40 _ rfl _ _ rfl w.heap.size _ xs rfl HO2.out (some ⟨wr.heap.size + 1, 0, none⟩) 1 1 [(6, ([] : By))] rfl (by first | rfl | simp) (two_readY wr _ 6 ([] : By)) (by show xs.length + 1 ≤ _; omega) HB2.out.size ys HY.out ?_; intro N2 nc2 w3 hown2 hb3)
        have hb4 := HB2.out.trans hb3
        clear HO2 HB2 hb3
        go_roundw
        case rel => exact ⟨n + 1, N2, nc2, ys, by go_num, rfl, by omega, by have := HYL.out; omega, HN, hown2, hb4⟩
        case measure => simp [intOf]; omega
      · rw [h] at C
        obtain ⟨hT, hl2⟩ := toks_k7 h
        rw [hdl] at hl2
        obtain ⟨X, hX⟩ : ∃ X : By, t.extract (n + 1) (n + 2) = ⟨X.toArray⟩ := ⟨_, rfl⟩
        have hx : (u.drop 1).take 1 = X := by
          have := ext_at t (n + 1) (n + 2)
          rw [hX] at this
          rw [← hu, List.drop_drop, show n + 2 - (n + 1) = 1 by omega] at *
          exact this.symm
        rw [hx] at hT
        obtain ⟨ys, hy⟩ : ∃ ys, xs ++ [(7, X)] = ys := ⟨_, rfl⟩
        have HN := Lib.hid (show ys ++ toks (t.data.toList.drop (n + 2)) = R by
          rw [← HG.out, hT, ← hy, ← hu, List.drop_drop]; simp)
        have HYL := Lib.hid (show ys.length = xs.length + 1 by rw [← hy]; simp)
        have HY := Lib.hid hy
        have SB2 := two_below wr (.cells #[.int .i64 7, .string ⟨(X : By).toArray⟩] 65) (.cells #[.int .i64 7, .string ⟨(X : By).toArray⟩] 65)
        have HO2 := Lib.hid (hown.below SB2)
        have HB2 := Lib.hid (bch hb SB2)
        have CC := Lib.hid C
        have i2 : (n : Int) + 2 ≤ (t.size : Int) := by omega
        clear C hT h HG hown hb hy SB2 hdl hu hne hx
        go_wp2_with fail
        refine CC.out.mono ?_
        rintro e w' ⟨rfl, rfl⟩
        go_wp2_with (at_builtin; refine wpList_append_rdn40 _ rfl _ _ rfl w.heap.size _ xs rfl HO2.out (some ⟨wr.heap.size + 1, 0, none⟩) 1 1 [(7, X)] rfl (by first | rfl | simp) (two_readY wr _ 7 X) (by show xs.length + 1 ≤ _; omega) HB2.out.size ys HY.out ?_; intro N2 nc2 w3 hown2 hb3)
        have hb4 := HB2.out.trans hb3
        clear HO2 HB2 hb3
        go_roundw
        case rel => exact ⟨n + 2, N2, nc2, ys, by go_num, rfl, by omega, by have := HYL.out; omega, HN, hown2, hb4⟩
        case measure => simp [intOf]; omega
    · have HE := Lib.hid (show R = xs by rw [← HG.out, drop_end t n hlt]; simp [toks_nil])
      have HO := Lib.hid hown
      have i1 : ¬ (n : Int) < (t.size : Int) := by omega
      clear HG hown
      go_wp2
      go_ret
      rw [HE.out]
      exact ⟨A, c, rfl, HO.out, hb⟩
end Go.Proofs.YtckldeabbkdbjaaDoor

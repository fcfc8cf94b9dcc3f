/-
  The contract of lex.Lex: a text's tokens, in a row of the call's own.
-/
import Derived.Test.YtjneeikkakekjaaDoorG
import Derived.WalkMore
namespace Go.Proofs.YtjneeikkakekjaaDoor
open Go.RowKit

/-! ### the first token of a text, by what it begins with -/
theorem head_ex {u : By} (h : hk u ≠ 0) : ∃ c r, u = c :: r := by
  cases u with
  | nil => exact absurd rfl h
  | cons c r => exact ⟨c, r, rfl⟩
theorem toks_zero {u : By} (h : hk u = 0) : u = [] := by
  cases u with
  | nil => rfl
  | cons c r =>
    have h' : kd c r = 0 := h
    rcases kd_ways c r with k | ⟨k, _⟩ | k | k | ⟨k, _⟩ | k <;> rw [k] at h' <;> cases h'
theorem toks_k1 {u : By} (h : hk u = 1) : toks u = (1, (wordG u).1) :: toks (wordG u).2 ∧ (wordG u).2.length < u.length := by
  obtain ⟨c, r, rfl⟩ := head_ex (by rw [h]; decide)
  have h' : kd c r = 1 := h
  refine ⟨?_, by have := word_less h'; simp only [List.length_cons]; omega⟩
  rw [toks_cons]; unfold one; rw [if_pos h']
theorem toks_k2 {u : By} (h : hk u = 2) : toks u = (gapK (gapG false 0 u).1, []) :: toks (gapG false 0 u).2 ∧ (gapG false 0 u).2.length < u.length := by
  obtain ⟨c, r, rfl⟩ := head_ex (by rw [h]; decide)
  have h' : kd c r = 2 := h
  refine ⟨?_, by have := gap_less h' 0; simp only [List.length_cons]; omega⟩
  rw [toks_cons]; unfold one gapK; rw [if_neg (by rw [h']; decide), if_pos h']
theorem toks_k4 {u : By} (h : hk u = 4) : toks u = (4, (u.drop 1).takeWhile ltr) :: toks ((u.drop 1).dropWhile ltr) ∧ ((u.drop 1).dropWhile ltr).length < u.length := by
  obtain ⟨c, r, rfl⟩ := head_ex (by rw [h]; decide)
  have h' : kd c r = 4 := h
  refine ⟨?_, by have := (List.dropWhile_suffix ltr (l := (c :: r).drop 1)).length_le; simp only [List.length_cons, List.drop_one, List.tail_cons] at this ⊢; omega⟩
  rw [toks_cons]; unfold one; rw [if_neg (by rw [h']; decide), if_neg (by rw [h']; decide), if_pos h']; rfl
theorem toks_k5 {u : By} {k : Int} (h : hk u = k) (hk : k = 5 ∨ k = 6) : toks u = (k, []) :: toks (u.drop 1) := by
  obtain ⟨c, r, rfl⟩ := head_ex (by rw [h]; rcases hk with rfl | rfl <;> decide)
  have h' : kd c r = k := h
  rw [toks_cons]; unfold one; rw [h']
  rcases hk with rfl | rfl <;> rfl
theorem toks_k7 {u : By} (h : hk u = 7) : toks u = (7, (u.drop 1).take 1) :: toks (u.drop 2) ∧ 1 < u.length := by
  obtain ⟨c, r, rfl⟩ := head_ex (by rw [h]; decide)
  have h' : kd c r = 7 := h
  refine ⟨?_, ?_⟩
  · rw [toks_cons]; unfold one; rw [if_neg (by rw [h']; decide), if_neg (by rw [h']; decide), if_neg (by rw [h']; decide), if_pos h']; rfl
  · rcases kd_ways c r with k | ⟨k, _⟩ | k | k | ⟨_, _, k⟩ | k
    case inr.inr.inr.inr.inl =>
      cases r with
      | nil => cases k
      | cons x r => simp
    all_goals rw [k] at h'; cases h'
theorem hk_ways (u : By) : hk u = 0 ∨ hk u = 1 ∨ hk u = 2 ∨ hk u = 4 ∨ hk u = 5 ∨ hk u = 6 ∨ hk u = 7 := by
  cases u with
  | nil => exact .inl rfl
  | cons c r =>
    rcases kd_ways c r with k | ⟨k, _⟩ | k | k | ⟨k, _⟩ | k <;> simp [hk, k]
theorem hk_pos {t : ByteArray} (h : hk t.data.toList ≠ 0) : 0 < t.size := by
  rcases Nat.lt_or_ge 0 t.size with q | q
  · exact q
  · rw [str_none (by omega)] at h; exact absurd rfl h

/-! ### the row grows by one token -/
theorem stored_below {w wr W : World} (_hb : Below w.heap.size w wr) (h2 : Below wr.heap.size wr W) (k : Int) (x : ByteArray) (o : Obj) :
    Below wr.heap.size wr (((W.setCell ⟨wr.heap.size, 0, none⟩ (.int .i64 k)).setCell ⟨wr.heap.size, 1, none⟩ (.string x)).alloc o) :=
  ((h2.setCell (Nat.le_refl _) _).setCell (Nat.le_refl _) _).alloc (by have := h2.size; simpa using this) _
theorem stored_size (W : World) (p q : Addr) (u v : Value) : ((W.setCell p u).setCell q v).heap.size = W.heap.size := by simp
theorem stored_read (W : World) (p q : Addr) (u v : Value) (k : Int) (x : By) (t : TypeId) : Rd (((W.setCell p u).setCell q v).alloc (.cells #[.int .i64 k, .string ⟨x.toArray⟩] t)) (some ⟨W.heap.size, 0, none⟩) [(k, x)] := by
  rw [← stored_size W p q u v]
  exact one_read (new_fst _ _ _ _) (new_snd _ _ _ _)
theorem drew_read (w : World) (o : Obj) (k : Int) (x : By) (t : TypeId) : Rd (((w.alloc o).drew).alloc (.cells #[.int .i64 k, .string ⟨x.toArray⟩] t)) (some ⟨w.heap.size + 1, 0, none⟩) [(k, x)] := by
  have e : ((w.alloc o).drew).heap.size = w.heap.size + 1 := by show (w.alloc o).heap.size = _; simp
  rw [← e]
  exact one_read (new_fst _ _ _ _) (new_snd _ _ _ _)
set_option maxRecDepth 100000 in
set_option maxHeartbeats 4000000 in
theorem lex_any (s : ByteArray) (w : World) (hs : s.size ≤ 190000) :
    Calls Tryd.prog 34 #[.string s] w (Res 41 w (toks s.data.toList)) := by
  generalize hg : toks s.data.toList = R
  have HR := Lib.hid (show ([] : List Tok) ++ toks s.data.toList = R by rw [hg]; rfl)
  clear hg
  go_enter Tryd.func34, Tryd.ntmps34
  go_wp2_with fail
  go_step3
  go_wp2_with fail
  go_step3
  go_wp2_with fail
  go_loopw [0, 3] (fun v0 v3 wr => ∃ (t : ByteArray) (A : Option Addr) (c : Nat) (xs : List Tok), v0 = .string t ∧ v3 = .slice A xs.length c ∧ xs.length + t.size ≤ s.size ∧ Hid (xs ++ toks t.data.toList = R) ∧ Own 41 wr w.heap.size A c xs ∧ Below w.heap.size w wr) (fun v0 _ _ => strSz v0)
  case atStart => exact ⟨s, none, 0, [], rfl, rfl, by simp, HR, World.ownsRow_nil _ _ _ _, Below.refl _ _⟩
  case round =>
    clear HR
    obtain ⟨t, A, c, xs, rfl, rfl, hn, HG, hown, hb⟩ := hrel
    have hb1 := one_below wr (.cells #[.int .i64 0, .string ⟨#[]⟩] 41)
    have hbk1 := tok_new wr
    have C := begins_any t (wr.alloc (.cells #[.int .i64 0, .string ⟨#[]⟩] 41)) (by omega)
    rcases hk_ways t.data.toList with h | h | h | h | h | h | h
    · rw [h] at C
      have HE := Lib.hid (show R = xs by rw [← HG.out, toks_zero h]; simp [toks_nil])
      have CC := Lib.hid C
      have HO := Lib.hid (hown.below hb1)
      have HB := Lib.hid (bch hb hb1)
      clear C h HG hown hb hb1 hbk1
      go_wp2_with fail
      refine CC.out.mono ?_
      rintro e w' ⟨rfl, rfl⟩
      go_wp2
      go_ret
      rw [HE.out]
      exact ⟨A, c, rfl, HO.out, HB.out⟩
    · rw [h] at C
      obtain ⟨hT, hle⟩ := toks_k1 h
      have CT := word_any t (wr.alloc (.cells #[.int .i64 0, .string ⟨#[]⟩] 41)) (by omega)
      obtain ⟨k, hk0⟩ : ∃ k : Int, (1 : Int) = k := ⟨_, rfl⟩
      obtain ⟨x, hx⟩ : ∃ x : By, (wordG t.data.toList).1 = x := ⟨_, rfl⟩
      obtain ⟨u, hu⟩ : ∃ u : By, (wordG t.data.toList).2 = u := ⟨_, rfl⟩
      rw [hu, size_list] at hle
      rw [hk0, hx, hu] at hT CT
      obtain ⟨ys, hy⟩ : ∃ ys, xs ++ [(k, x)] = ys := ⟨_, rfl⟩
      have HN := Lib.hid (show ys ++ toks u = R by rw [← HG.out, hT, ← hy]; simp)
      have HYL := Lib.hid (show ys.length = xs.length + 1 by rw [← hy]; simp)
      have HY := Lib.hid hy
      have CC := Lib.hid C
      have CT2 := Lib.hid CT
      have HO := Lib.hid hown
      have HB1 := Lib.hid hb1
      have HBK := Lib.hid hbk1
      clear C CT hT hk0 hx hu h HG hown hb1 hbk1 hy
      go_wp2_with fail
      refine CC.out.mono ?_
      rintro e w' ⟨rfl, rfl⟩
      go_wp2_with fail
      refine CT2.out.mono ?_
      rintro e w2 ⟨rfl, hb2⟩
      have hbk2 := blk_below hb2 HBK.out
      have hw2 : Below wr.heap.size wr w2 := bch HB1.out hb2
      have c0 : w2.cell? ⟨wr.heap.size, 0, none⟩ = some (.int .i64 0) := cell_of hbk2 0
      have c1 : w2.cell? ⟨wr.heap.size, 1, none⟩ = some (.string ⟨#[]⟩) := cell_of hbk2 1
      have f0 := frozen_of hbk2 0
      have f1 := frozen_of hbk2 1
      have SB := stored_below hb hw2 k ⟨x.toArray⟩ (.cells #[.int .i64 k, .string ⟨x.toArray⟩] 41)
      have HO2 := Lib.hid (HO.out.below SB)
      have HB2 := Lib.hid (bch hb SB)
      clear CC CT2 HO HB1 HBK hb2 hbk2 hw2 SB
      go_wp2_with (at_builtin; refine wpList_append_rdn37 _ rfl _ _ rfl w.heap.size _ xs rfl HO2.out (some ⟨w2.heap.size, 0, none⟩) 1 1 [(k, x)] rfl (by first | rfl | simp) (stored_read _ _ _ _ _ k x 41) (by show xs.length + 1 ≤ _; omega) HB2.out.size ys HY.out ?_; intro N2 nc2 w3 hown2 hb3)
      have hb4 := HB2.out.trans hb3
      clear HO2 HB2 hb3
      go_roundw
      case rel => exact ⟨⟨u.toArray⟩, N2, nc2, ys, rfl, rfl, by have := HYL.out; show ys.length + u.length ≤ _; omega, HN, hown2, hb4⟩
      case measure => show u.length < t.size; omega
    · rw [h] at C
      obtain ⟨hT, hle⟩ := toks_k2 h
      have CT := gap_any t (wr.alloc (.cells #[.int .i64 0, .string ⟨#[]⟩] 41)) (by omega)
      obtain ⟨k, hk0⟩ : ∃ k : Int, gapK (gapG false 0 t.data.toList).1 = k := ⟨_, rfl⟩
      obtain ⟨x, hx⟩ : ∃ x : By, x = [] := ⟨_, rfl⟩
      obtain ⟨u, hu⟩ : ∃ u : By, (gapG false 0 t.data.toList).2 = u := ⟨_, rfl⟩
      rw [hu, size_list] at hle
      rw [hk0, hu] at hT CT
      replace CT : Calls Tryd.prog 52 #[.string t] (wr.alloc (.cells #[.int .i64 0, .string ⟨#[]⟩] 41)) (TokPost (wr.alloc (.cells #[.int .i64 0, .string ⟨#[]⟩] 41)) k x u) := by rw [hx]; exact CT
      rw [← hx] at hT
      obtain ⟨ys, hy⟩ : ∃ ys, xs ++ [(k, x)] = ys := ⟨_, rfl⟩
      have HN := Lib.hid (show ys ++ toks u = R by rw [← HG.out, hT, ← hy]; simp)
      have HYL := Lib.hid (show ys.length = xs.length + 1 by rw [← hy]; simp)
      have HY := Lib.hid hy
      have CC := Lib.hid C
      have CT2 := Lib.hid CT
      have HO := Lib.hid hown
      have HB1 := Lib.hid hb1
      have HBK := Lib.hid hbk1
      clear C CT hT hk0 hx hu h HG hown hb1 hbk1 hy
      go_wp2_with fail
      refine CC.out.mono ?_
      rintro e w' ⟨rfl, rfl⟩
      go_wp2_with fail
      refine CT2.out.mono ?_
      rintro e w2 ⟨rfl, hb2⟩
      have hbk2 := blk_below hb2 HBK.out
      have hw2 : Below wr.heap.size wr w2 := bch HB1.out hb2
      have c0 : w2.cell? ⟨wr.heap.size, 0, none⟩ = some (.int .i64 0) := cell_of hbk2 0
      have c1 : w2.cell? ⟨wr.heap.size, 1, none⟩ = some (.string ⟨#[]⟩) := cell_of hbk2 1
      have f0 := frozen_of hbk2 0
      have f1 := frozen_of hbk2 1
      have SB := stored_below hb hw2 k ⟨x.toArray⟩ (.cells #[.int .i64 k, .string ⟨x.toArray⟩] 41)
      have HO2 := Lib.hid (HO.out.below SB)
      have HB2 := Lib.hid (bch hb SB)
      clear CC CT2 HO HB1 HBK hb2 hbk2 hw2 SB
      go_wp2_with (at_builtin; refine wpList_append_rdn37 _ rfl _ _ rfl w.heap.size _ xs rfl HO2.out (some ⟨w2.heap.size, 0, none⟩) 1 1 [(k, x)] rfl (by first | rfl | simp) (stored_read _ _ _ _ _ k x 41) (by show xs.length + 1 ≤ _; omega) HB2.out.size ys HY.out ?_; intro N2 nc2 w3 hown2 hb3)
      have hb4 := HB2.out.trans hb3
      clear HO2 HB2 hb3
      go_roundw
      case rel => exact ⟨⟨u.toArray⟩, N2, nc2, ys, rfl, rfl, by have := HYL.out; show ys.length + u.length ≤ _; omega, HN, hown2, hb4⟩
      case measure => show u.length < t.size; omega
    · rw [h] at C
      obtain ⟨hT, hle⟩ := toks_k4 h
      have CT := command_any t (wr.alloc (.cells #[.int .i64 0, .string ⟨#[]⟩] 41)) (by omega) (hk_pos (by rw [h]; decide))
      obtain ⟨k, hk0⟩ : ∃ k : Int, (4 : Int) = k := ⟨_, rfl⟩
      obtain ⟨x, hx⟩ : ∃ x : By, (t.data.toList.drop 1).takeWhile ltr = x := ⟨_, rfl⟩
      obtain ⟨u, hu⟩ : ∃ u : By, (t.data.toList.drop 1).dropWhile ltr = u := ⟨_, rfl⟩
      rw [hu, size_list] at hle
      rw [hk0, hx, hu] at hT CT
      obtain ⟨ys, hy⟩ : ∃ ys, xs ++ [(k, x)] = ys := ⟨_, rfl⟩
      have HN := Lib.hid (show ys ++ toks u = R by rw [← HG.out, hT, ← hy]; simp)
      have HYL := Lib.hid (show ys.length = xs.length + 1 by rw [← hy]; simp)
      have HY := Lib.hid hy
      have CC := Lib.hid C
      have CT2 := Lib.hid CT
      have HO := Lib.hid hown
      have HB1 := Lib.hid hb1
      have HBK := Lib.hid hbk1
      clear C CT hT hk0 hx hu h HG hown hb1 hbk1 hy
      go_wp2_with fail
      refine CC.out.mono ?_
      rintro e w' ⟨rfl, rfl⟩
      go_wp2_with fail
      refine CT2.out.mono ?_
      rintro e w2 ⟨rfl, hb2⟩
      have hbk2 := blk_below hb2 HBK.out
      have hw2 : Below wr.heap.size wr w2 := bch HB1.out hb2
      have c0 : w2.cell? ⟨wr.heap.size, 0, none⟩ = some (.int .i64 0) := cell_of hbk2 0
      have c1 : w2.cell? ⟨wr.heap.size, 1, none⟩ = some (.string ⟨#[]⟩) := cell_of hbk2 1
      have f0 := frozen_of hbk2 0
      have f1 := frozen_of hbk2 1
      have SB := stored_below hb hw2 k ⟨x.toArray⟩ (.cells #[.int .i64 k, .string ⟨x.toArray⟩] 41)
      have HO2 := Lib.hid (HO.out.below SB)
      have HB2 := Lib.hid (bch hb SB)
      clear CC CT2 HO HB1 HBK hb2 hbk2 hw2 SB
      go_wp2_with (at_builtin; refine wpList_append_rdn37 _ rfl _ _ rfl w.heap.size _ xs rfl HO2.out (some ⟨w2.heap.size, 0, none⟩) 1 1 [(k, x)] rfl (by first | rfl | simp) (stored_read _ _ _ _ _ k x 41) (by show xs.length + 1 ≤ _; omega) HB2.out.size ys HY.out ?_; intro N2 nc2 w3 hown2 hb3)
      have hb4 := HB2.out.trans hb3
      clear HO2 HB2 hb3
      go_roundw
      case rel => exact ⟨⟨u.toArray⟩, N2, nc2, ys, rfl, rfl, by have := HYL.out; show ys.length + u.length ≤ _; omega, HN, hown2, hb4⟩
      case measure => show u.length < t.size; omega
    · rw [h] at C
      have hT := toks_k5 h (.inl rfl)
      have hl2 := hk_pos (t := t) (by rw [h]; decide)
      obtain ⟨X, hX⟩ : ∃ X : By, [] = X := ⟨_, rfl⟩
      obtain ⟨U, hU⟩ : ∃ U : By, t.extract 1 t.size = ⟨U.toArray⟩ := ⟨_, rfl⟩
      have hu : t.data.toList.drop 1 = U := by
        have := ext_from t 1 t.size (Nat.le_refl _)
        rw [hU] at this; exact this.symm
      have hul : U.length = t.size - 1 := by rw [← hu, List.length_drop, size_list]
      subst hX
      rw [hu] at hT
      obtain ⟨ys, hy⟩ : ∃ ys, xs ++ [(5, ([] : By))] = ys := ⟨_, rfl⟩
      have HN := Lib.hid (show ys ++ toks U = R by rw [← HG.out, hT, ← hy]; simp)
      have HYL := Lib.hid (show ys.length = xs.length + 1 by rw [← hy]; simp)
      have HUL := Lib.hid (show U.length < t.size by omega)
      have HY := Lib.hid hy
      have CC := Lib.hid C
      have c0 := new_fst wr (.int .i64 0) (.string ⟨#[]⟩) 41
      have c1 := new_snd wr (.int .i64 0) (.string ⟨#[]⟩) 41
      have f0 := frozen_of hbk1 0
      have f1 := frozen_of hbk1 1
      have SB : Below wr.heap.size wr ((wr.alloc (.cells #[.int .i64 5, .string ⟨#[]⟩] 41)).drew) := (one_below wr _).trans ⟨rfl, rfl, rfl, Nat.le_refl _, fun _ _ => rfl⟩
      have SB2 := bch SB (one_below _ (.cells #[.int .i64 5, .string ⟨#[]⟩] 41))
      have HO2 := Lib.hid (hown.below SB2)
      have HB2 := Lib.hid (bch hb SB2)
      clear C hT hu hul h HG hown hb1 hbk1 hy SB SB2 
      go_wp2_with fail
      refine CC.out.mono ?_
      rintro e w' ⟨rfl, rfl⟩
      go_wp2_with fail
      go_region
      clear c0 c1 f0 f1
      go_wp2_with (at_builtin; refine wpList_append_rdn37 _ rfl _ _ rfl w.heap.size _ xs rfl HO2.out (some ⟨wr.heap.size + 1, 0, none⟩) 1 1 [(5, ([] : By))] rfl (by first | rfl | simp) (drew_read wr _ 5 ([] : By) 41) (by show xs.length + 1 ≤ _; omega) HB2.out.size ys HY.out ?_; intro N2 nc2 w3 hown2 hb3)
      have hb4 := HB2.out.trans hb3
      clear HO2 HB2 hb3
      go_roundw
      case rel => exact ⟨⟨U.toArray⟩, N2, nc2, ys, rfl, rfl, by have := HYL.out; have := HUL.out; show ys.length + U.length ≤ _; omega, HN, hown2, hb4⟩
      case measure => exact HUL.out
    · rw [h] at C
      have hT := toks_k5 h (.inr rfl)
      have hl2 := hk_pos (t := t) (by rw [h]; decide)
      obtain ⟨X, hX⟩ : ∃ X : By, [] = X := ⟨_, rfl⟩
      obtain ⟨U, hU⟩ : ∃ U : By, t.extract 1 t.size = ⟨U.toArray⟩ := ⟨_, rfl⟩
      have hu : t.data.toList.drop 1 = U := by
        have := ext_from t 1 t.size (Nat.le_refl _)
        rw [hU] at this; exact this.symm
      have hul : U.length = t.size - 1 := by rw [← hu, List.length_drop, size_list]
      subst hX
      rw [hu] at hT
      obtain ⟨ys, hy⟩ : ∃ ys, xs ++ [(6, ([] : By))] = ys := ⟨_, rfl⟩
      have HN := Lib.hid (show ys ++ toks U = R by rw [← HG.out, hT, ← hy]; simp)
      have HYL := Lib.hid (show ys.length = xs.length + 1 by rw [← hy]; simp)
      have HUL := Lib.hid (show U.length < t.size by omega)
      have HY := Lib.hid hy
      have CC := Lib.hid C
      have c0 := new_fst wr (.int .i64 0) (.string ⟨#[]⟩) 41
      have c1 := new_snd wr (.int .i64 0) (.string ⟨#[]⟩) 41
      have f0 := frozen_of hbk1 0
      have f1 := frozen_of hbk1 1
      have SB : Below wr.heap.size wr ((wr.alloc (.cells #[.int .i64 6, .string ⟨#[]⟩] 41)).drew) := (one_below wr _).trans ⟨rfl, rfl, rfl, Nat.le_refl _, fun _ _ => rfl⟩
      have SB2 := bch SB (one_below _ (.cells #[.int .i64 6, .string ⟨#[]⟩] 41))
      have HO2 := Lib.hid (hown.below SB2)
      have HB2 := Lib.hid (bch hb SB2)
      clear C hT hu hul h HG hown hb1 hbk1 hy SB SB2 
      go_wp2_with fail
      refine CC.out.mono ?_
      rintro e w' ⟨rfl, rfl⟩
      go_wp2_with fail
      go_region
      clear c0 c1 f0 f1
      go_wp2_with (at_builtin; refine wpList_append_rdn37 _ rfl _ _ rfl w.heap.size _ xs rfl HO2.out (some ⟨wr.heap.size + 1, 0, none⟩) 1 1 [(6, ([] : By))] rfl (by first | rfl | simp) (drew_read wr _ 6 ([] : By) 41) (by show xs.length + 1 ≤ _; omega) HB2.out.size ys HY.out ?_; intro N2 nc2 w3 hown2 hb3)
      have hb4 := HB2.out.trans hb3
      clear HO2 HB2 hb3
      go_roundw
      case rel => exact ⟨⟨U.toArray⟩, N2, nc2, ys, rfl, rfl, by have := HYL.out; have := HUL.out; show ys.length + U.length ≤ _; omega, HN, hown2, hb4⟩
      case measure => exact HUL.out
    · rw [h] at C
      obtain ⟨hT, hl2⟩ := toks_k7 h
      rw [size_list] at hl2
      obtain ⟨X, hX⟩ : ∃ X : By, t.extract 1 2 = ⟨X.toArray⟩ := ⟨_, rfl⟩
      obtain ⟨U, hU⟩ : ∃ U : By, t.extract 2 t.size = ⟨U.toArray⟩ := ⟨_, rfl⟩
      have hx : (t.data.toList.drop 1).take 1 = X := by
        have := ext_list t 1 2
        rw [hX, List.drop_take] at this; exact this.symm
      have hu : t.data.toList.drop 2 = U := by
        have := ext_from t 2 t.size (Nat.le_refl _)
        rw [hU] at this; exact this.symm
      have hul : U.length = t.size - 2 := by rw [← hu, List.length_drop, size_list]
      rw [hx, hu] at hT
      obtain ⟨ys, hy⟩ : ∃ ys, xs ++ [(7, X)] = ys := ⟨_, rfl⟩
      have HN := Lib.hid (show ys ++ toks U = R by rw [← HG.out, hT, ← hy]; simp)
      have HYL := Lib.hid (show ys.length = xs.length + 1 by rw [← hy]; simp)
      have HUL := Lib.hid (show U.length < t.size by omega)
      have HY := Lib.hid hy
      have CC := Lib.hid C
      have c0 := new_fst wr (.int .i64 0) (.string ⟨#[]⟩) 41
      have c1 := new_snd wr (.int .i64 0) (.string ⟨#[]⟩) 41
      have f0 := frozen_of hbk1 0
      have f1 := frozen_of hbk1 1
      have SB : Below wr.heap.size wr ((wr.alloc (.cells #[.int .i64 7, .string ⟨X.toArray⟩] 41)).drew) := (one_below wr _).trans ⟨rfl, rfl, rfl, Nat.le_refl _, fun _ _ => rfl⟩
      have SB2 := bch SB (one_below _ (.cells #[.int .i64 7, .string ⟨X.toArray⟩] 41))
      have HO2 := Lib.hid (hown.below SB2)
      have HB2 := Lib.hid (bch hb SB2)
      clear C hT hu hul h HG hown hb1 hbk1 hy SB SB2 hx
      go_wp2_with fail
      refine CC.out.mono ?_
      rintro e w' ⟨rfl, rfl⟩
      go_wp2_with fail
      go_region
      clear c0 c1 f0 f1
      go_wp2_with (at_builtin; refine wpList_append_rdn37 _ rfl _ _ rfl w.heap.size _ xs rfl HO2.out (some ⟨wr.heap.size + 1, 0, none⟩) 1 1 [(7, X)] rfl (by first | rfl | simp) (drew_read wr _ 7 X 41) (by show xs.length + 1 ≤ _; omega) HB2.out.size ys HY.out ?_; intro N2 nc2 w3 hown2 hb3)
      have hb4 := HB2.out.trans hb3
      clear HO2 HB2 hb3
      go_roundw
      case rel => exact ⟨⟨U.toArray⟩, N2, nc2, ys, rfl, rfl, by have := HYL.out; have := HUL.out; show ys.length + U.length ≤ _; omega, HN, hown2, hb4⟩
      case measure => exact HUL.out
end Go.Proofs.YtjneeikkakekjaaDoor

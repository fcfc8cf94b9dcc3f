/-
  The contract of lex.Lex: a text's tokens, in a row of the call's own.
  Package expand: ask.
  Package expand: bring.
-/
import Derived.Test.YtmnbepapgghdaaaGreatK03
import Derived.WalkMore
import Derived.Test.YtmnbepapgghdaaaGreatK19
import Derived.Test.YtmnbepapgghdaaaGreatK22
namespace Go.Proofs.YtmnbepapgghdaaaGreat
open Go.RowKit

/-! ### the first token of a text, by what it begins with -/
theorem head_ex {u : By} (h : hk u ≠ 0) : ∃ c r, u = c :: r := by
  cases u with
  | nil => exact absurd rfl h
  | cons c r => exact ⟨c, r, rfl⟩
theorem toks_zero {u : By} (h : hk u = 0) : u = [] := by
  cases u with
  | nil => rfl
  | cons c r =>
    have h' : kd c r = 0 := h
    rcases kd_ways c r with k | ⟨k, _⟩ | k | k | ⟨k, _⟩ | k <;> rw [k] at h' <;> cases h'
theorem toks_k1 {u : By} (h : hk u = 1) : toks u = (1, (wordG u).1) :: toks (wordG u).2 ∧ (wordG u).2.length < u.length := by
  obtain ⟨c, r, rfl⟩ := head_ex (by rw [h]; decide)
  have h' : kd c r = 1 := h
  refine ⟨?_, by have := word_less h'; simp only [List.length_cons]; omega⟩
  rw [toks_cons]; unfold one; rw [if_pos h']
theorem toks_k2 {u : By} (h : hk u = 2) : toks u = (gapK (gapG false 0 u).1, []) :: toks (gapG false 0 u).2 ∧ (gapG false 0 u).2.length < u.length := by
  obtain ⟨c, r, rfl⟩ := head_ex (by rw [h]; decide)
  have h' : kd c r = 2 := h
  refine ⟨?_, by have := gap_less h' 0; simp only [List.length_cons]; omega⟩
  rw [toks_cons]; unfold one gapK; rw [if_neg (by rw [h']; decide), if_pos h']
theorem toks_k4 {u : By} (h : hk u = 4) : toks u = (4, (u.drop 1).takeWhile ltr) :: toks ((u.drop 1).dropWhile ltr) ∧ ((u.drop 1).dropWhile ltr).length < u.length := by
  obtain ⟨c, r, rfl⟩ := head_ex (by rw [h]; decide)
  have h' : kd c r = 4 := h
  refine ⟨?_, by have := (List.dropWhile_suffix ltr (l := (c :: r).drop 1)).length_le; simp only [List.length_cons, List.drop_one, List.tail_cons] at this ⊢; omega⟩
  rw [toks_cons]; unfold one; rw [if_neg (by rw [h']; decide), if_neg (by rw [h']; decide), if_pos h']; rfl
theorem toks_k5 {u : By} {k : Int} (h : hk u = k) (hk : k = 5 ∨ k = 6) : toks u = (k, []) :: toks (u.drop 1) := by
  obtain ⟨c, r, rfl⟩ := head_ex (by rw [h]; rcases hk with rfl | rfl <;> decide)
  have h' : kd c r = k := h
  rw [toks_cons]; unfold one; rw [h']
  rcases hk with rfl | rfl <;> rfl
theorem toks_k7 {u : By} (h : hk u = 7) : toks u = (7, (u.drop 1).take 1) :: toks (u.drop 2) ∧ 1 < u.length := by
  obtain ⟨c, r, rfl⟩ := head_ex (by rw [h]; decide)
  have h' : kd c r = 7 := h
  refine ⟨?_, ?_⟩
  · rw [toks_cons]; unfold one; rw [if_neg (by rw [h']; decide), if_neg (by rw [h']; decide), if_neg (by rw [h']; decide), if_pos h']; rfl
  · rcases kd_ways c r with k | ⟨k, _⟩ | k | k | ⟨_, _, k⟩ | k
    case inr.inr.inr.inr.inl =>
      cases r with
      | nil => cases k
      | cons x r => simp
    all_goals rw [k] at h'; cases h'
theorem hk_ways (u : By) : hk u = 0 ∨ hk u = 1 ∨ hk u = 2 ∨ hk u = 4 ∨ hk u = 5 ∨ hk u = 6 ∨ hk u = 7 := by
  cases u with
  | nil => exact .inl rfl
  | cons c r =>
    rcases kd_ways c r with k | ⟨k, _⟩ | k | k | ⟨k, _⟩ | k <;> simp [hk, k]
theorem hk_pos {t : ByteArray} (h : hk t.data.toList ≠ 0) : 0 < t.size := by
  rcases Nat.lt_or_ge 0 t.size with q | q
  · exact q
  · rw [str_none (by omega)] at h; exact absurd rfl h

/-! ### the row grows by one token -/
theorem stored_below {w wr W : World} (hb : Below w.heap.size w wr) (h2 : Below wr.heap.size wr W) (k : Int) (x : ByteArray) (o : Obj) :
    Below wr.heap.size wr (((W.setCell ⟨wr.heap.size, 0, none⟩ (.int .i64 k)).setCell ⟨wr.heap.size, 1, none⟩ (.string x)).alloc o) :=
  ((h2.setCell (Nat.le_refl _) _).setCell (Nat.le_refl _) _).alloc (by have := h2.size; simpa using this) _
theorem stored_size (W : World) (p q : Addr) (u v : Value) : ((W.setCell p u).setCell q v).heap.size = W.heap.size := by simp
theorem stored_read (W : World) (p q : Addr) (u v : Value) (k : Int) (x : By) (t : TypeId) : Rd (((W.setCell p u).setCell q v).alloc (.cells #[.int .i64 k, .string ⟨x.toArray⟩] t)) (some ⟨W.heap.size, 0, none⟩) [(k, x)] := by
  rw [← stored_size W p q u v]
  exact one_read (new_fst _ _ _ _) (new_snd _ _ _ _)
theorem drew_read (w : World) (o : Obj) (k : Int) (x : By) (t : TypeId) : Rd (((w.alloc o).drew).alloc (.cells #[.int .i64 k, .string ⟨x.toArray⟩] t)) (some ⟨w.heap.size + 1, 0, none⟩) [(k, x)] := by
  have e : ((w.alloc o).drew).heap.size = w.heap.size + 1 := by show (w.alloc o).heap.size = _; simp
  rw [← e]
  exact one_read (new_fst _ _ _ _) (new_snd _ _ _ _)
set_option maxRecDepth 100000 in
set_option maxHeartbeats 4000000 in
theorem lex_any (s : ByteArray) (w : World) (hs : s.size ≤ 190000) :
    Calls Tryz.prog 18 #[.string s] w (Res 89 w (toks s.data.toList)) := by
  generalize hg : toks s.data.toList = R
  have HR := Lib.hid (show ([] : List Tok) ++ toks s.data.toList = R by rw [hg]; rfl)
  clear hg
  go_enter Tryz.func18, Tryz.ntmps18
  go_wp2_with fail
  go_step3
  go_wp2_with fail
  go_step3
  go_wp2_with fail
  go_loopw [0, 3] (fun v0 v3 wr => ∃ (t : ByteArray) (A : Option Addr) (c : Nat) (xs : List Tok), v0 = .string t ∧ v3 = .slice A xs.length c ∧ xs.length + t.size ≤ s.size ∧ Hid (xs ++ toks t.data.toList = R) ∧ Own 89 wr w.heap.size A c xs ∧ Below w.heap.size w wr) (fun v0 _ _ => strSz v0)
  case atStart => exact ⟨s, none, 0, [], rfl, rfl, by simp, HR, World.ownsRow_nil _ _ _ _, Below.refl _ _⟩
  case round =>
    clear HR
    obtain ⟨t, A, c, xs, rfl, rfl, hn, HG, hown, hb⟩ := hrel
    have hb1 := one_below wr (.cells #[.int .i64 0, .string ⟨#[]⟩] 89)
    have hbk1 := tok_new wr
    have C := begins_any t (wr.alloc (.cells #[.int .i64 0, .string ⟨#[]⟩] 89)) (by omega)
    rcases hk_ways t.data.toList with h | h | h | h | h | h | h
    · rw [h] at C
      have HE := Lib.hid (show R = xs by rw [← HG.out, toks_zero h]; simp [toks_nil])
      have CC := Lib.hid C
      have HO := Lib.hid (hown.below hb1)
      have HB := Lib.hid (bch hb hb1)
      clear C h HG hown hb hb1 hbk1
      go_wp2_with fail
      refine CC.out.mono ?_
      rintro e w' ⟨rfl, rfl⟩
      go_wp2
      go_ret
      rw [HE.out]
      exact ⟨A, c, rfl, HO.out, HB.out⟩
    · rw [h] at C
      obtain ⟨hT, hle⟩ := toks_k1 h
      have CT := word_any t (wr.alloc (.cells #[.int .i64 0, .string ⟨#[]⟩] 89)) (by omega)
      obtain ⟨k, hk0⟩ : ∃ k : Int, (1 : Int) = k := ⟨_, rfl⟩
      obtain ⟨x, hx⟩ : ∃ x : By, (wordG t.data.toList).1 = x := ⟨_, rfl⟩
      obtain ⟨u, hu⟩ : ∃ u : By, (wordG t.data.toList).2 = u := ⟨_, rfl⟩
      rw [hu, size_list] at hle
      rw [hk0, hx, hu] at hT CT
      obtain ⟨ys, hy⟩ : ∃ ys, xs ++ [(k, x)] = ys := ⟨_, rfl⟩
      have HN := Lib.hid (show ys ++ toks u = R by rw [← HG.out, hT, ← hy]; simp)
      have HYL := Lib.hid (show ys.length = xs.length + 1 by rw [← hy]; simp)
      have HY := Lib.hid hy
      have CC := Lib.hid C
      have CT2 := Lib.hid CT
      have HO := Lib.hid hown
      have HB1 := Lib.hid hb1
      have HBK := Lib.hid hbk1
      clear C CT hT hk0 hx hu h HG hown hb1 hbk1 hy
      go_wp2_with fail
      refine CC.out.mono ?_
      rintro e w' ⟨rfl, rfl⟩
      go_wp2_with fail
      refine CT2.out.mono ?_
      rintro e w2 ⟨rfl, hb2⟩
      have hbk2 := blk_below hb2 HBK.out
      have hw2 : Below wr.heap.size wr w2 := bch HB1.out hb2
      have c0 : w2.cell? ⟨wr.heap.size, 0, none⟩ = some (.int .i64 0) := cell_of hbk2 0
      have c1 : w2.cell? ⟨wr.heap.size, 1, none⟩ = some (.string ⟨#[]⟩) := cell_of hbk2 1
      have f0 := frozen_of hbk2 0
      have f1 := frozen_of hbk2 1
      have SB := stored_below hb hw2 k ⟨x.toArray⟩ (.cells #[.int .i64 k, .string ⟨x.toArray⟩] 89)
      have HO2 := Lib.hid (HO.out.below SB)
      have HB2 := Lib.hid (bch hb SB)
      clear CC CT2 HO HB1 HBK hb2 hbk2 hw2 SB
      go_wp2_with (at_builtin; refine wpList_append_rdn37 _ rfl _ _ rfl w.heap.size _ xs rfl HO2.out (some ⟨w2.heap.size, 0, none⟩) 1 1 [(k, x)] rfl (by first | rfl | simp) (stored_read _ _ _ _ _ k x 89) (by show xs.length + 1 ≤ _; omega) HB2.out.size ys HY.out ?_; intro N2 nc2 w3 hown2 hb3)
      have hb4 := HB2.out.trans hb3
      clear HO2 HB2 hb3
      go_roundw
      case rel => exact ⟨⟨u.toArray⟩, N2, nc2, ys, rfl, rfl, by have := HYL.out; show ys.length + u.length ≤ _; omega, HN, hown2, hb4⟩
      case measure => show u.length < t.size; omega
    · rw [h] at C
      obtain ⟨hT, hle⟩ := toks_k2 h
      have CT := gap_any t (wr.alloc (.cells #[.int .i64 0, .string ⟨#[]⟩] 89)) (by omega)
      obtain ⟨k, hk0⟩ : ∃ k : Int, gapK (gapG false 0 t.data.toList).1 = k := ⟨_, rfl⟩
      obtain ⟨x, hx⟩ : ∃ x : By, x = [] := ⟨_, rfl⟩
      obtain ⟨u, hu⟩ : ∃ u : By, (gapG false 0 t.data.toList).2 = u := ⟨_, rfl⟩
      rw [hu, size_list] at hle
      rw [hk0, hu] at hT CT
      replace CT : Calls Tryz.prog 37 #[.string t] (wr.alloc (.cells #[.int .i64 0, .string ⟨#[]⟩] 89)) (TokPost (wr.alloc (.cells #[.int .i64 0, .string ⟨#[]⟩] 89)) k x u) := by rw [hx]; exact CT
      rw [← hx] at hT
      obtain ⟨ys, hy⟩ : ∃ ys, xs ++ [(k, x)] = ys := ⟨_, rfl⟩
      have HN := Lib.hid (show ys ++ toks u = R by rw [← HG.out, hT, ← hy]; simp)
      have HYL := Lib.hid (show ys.length = xs.length + 1 by rw [← hy]; simp)
      have HY := Lib.hid hy
      have CC := Lib.hid C
      have CT2 := Lib.hid CT
      have HO := Lib.hid hown
      have HB1 := Lib.hid hb1
      have HBK := Lib.hid hbk1
      clear C CT hT hk0 hx hu h HG hown hb1 hbk1 hy
      go_wp2_with fail
      refine CC.out.mono ?_
      rintro e w' ⟨rfl, rfl⟩
      go_wp2_with fail
      refine CT2.out.mono ?_
      rintro e w2 ⟨rfl, hb2⟩
      have hbk2 := blk_below hb2 HBK.out
      have hw2 : Below wr.heap.size wr w2 := bch HB1.out hb2
      have c0 : w2.cell? ⟨wr.heap.size, 0, none⟩ = some (.int .i64 0) := cell_of hbk2 0
      have c1 : w2.cell? ⟨wr.heap.size, 1, none⟩ = some (.string ⟨#[]⟩) := cell_of hbk2 1
      have f0 := frozen_of hbk2 0
      have f1 := frozen_of hbk2 1
      have SB := stored_below hb hw2 k ⟨x.toArray⟩ (.cells #[.int .i64 k, .string ⟨x.toArray⟩] 89)
      have HO2 := Lib.hid (HO.out.below SB)
      have HB2 := Lib.hid (bch hb SB)
      clear CC CT2 HO HB1 HBK hb2 hbk2 hw2 SB
      go_wp2_with (at_builtin; refine wpList_append_rdn37 _ rfl _ _ rfl w.heap.size _ xs rfl HO2.out (some ⟨w2.heap.size, 0, none⟩) 1 1 [(k, x)] rfl (by first | rfl | simp) (stored_read _ _ _ _ _ k x 89) (by show xs.length + 1 ≤ _; omega) HB2.out.size ys HY.out ?_; intro N2 nc2 w3 hown2 hb3)
      have hb4 := HB2.out.trans hb3
      clear HO2 HB2 hb3
      go_roundw
      case rel => exact ⟨⟨u.toArray⟩, N2, nc2, ys, rfl, rfl, by have := HYL.out; show ys.length + u.length ≤ _; omega, HN, hown2, hb4⟩
      case measure => show u.length < t.size; omega
    · rw [h] at C
      obtain ⟨hT, hle⟩ := toks_k4 h
      have CT := command_any t (wr.alloc (.cells #[.int .i64 0, .string ⟨#[]⟩] 89)) (by omega) (hk_pos (by rw [h]; decide))
      obtain ⟨k, hk0⟩ : ∃ k : Int, (4 : Int) = k := ⟨_, rfl⟩
      obtain ⟨x, hx⟩ : ∃ x : By, (t.data.toList.drop 1).takeWhile ltr = x := ⟨_, rfl⟩
      obtain ⟨u, hu⟩ : ∃ u : By, (t.data.toList.drop 1).dropWhile ltr = u := ⟨_, rfl⟩
      rw [hu, size_list] at hle
      rw [hk0, hx, hu] at hT CT
      obtain ⟨ys, hy⟩ : ∃ ys, xs ++ [(k, x)] = ys := ⟨_, rfl⟩
      have HN := Lib.hid (show ys ++ toks u = R by rw [← HG.out, hT, ← hy]; simp)
      have HYL := Lib.hid (show ys.length = xs.length + 1 by rw [← hy]; simp)
      have HY := Lib.hid hy
      have CC := Lib.hid C
      have CT2 := Lib.hid CT
      have HO := Lib.hid hown
      have HB1 := Lib.hid hb1
      have HBK := Lib.hid hbk1
      clear C CT hT hk0 hx hu h HG hown hb1 hbk1 hy
      go_wp2_with fail
      refine CC.out.mono ?_
      rintro e w' ⟨rfl, rfl⟩
      go_wp2_with fail
      refine CT2.out.mono ?_
      rintro e w2 ⟨rfl, hb2⟩
      have hbk2 := blk_below hb2 HBK.out
      have hw2 : Below wr.heap.size wr w2 := bch HB1.out hb2
      have c0 : w2.cell? ⟨wr.heap.size, 0, none⟩ = some (.int .i64 0) := cell_of hbk2 0
      have c1 : w2.cell? ⟨wr.heap.size, 1, none⟩ = some (.string ⟨#[]⟩) := cell_of hbk2 1
      have f0 := frozen_of hbk2 0
      have f1 := frozen_of hbk2 1
      have SB := stored_below hb hw2 k ⟨x.toArray⟩ (.cells #[.int .i64 k, .string ⟨x.toArray⟩] 89)
      have HO2 := Lib.hid (HO.out.below SB)
      have HB2 := Lib.hid (bch hb SB)
      clear CC CT2 HO HB1 HBK hb2 hbk2 hw2 SB
      go_wp2_with (at_builtin; refine wpList_append_rdn37 _ rfl _ _ rfl w.heap.size _ xs rfl HO2.out (some ⟨w2.heap.size, 0, none⟩) 1 1 [(k, x)] rfl (by first | rfl | simp) (stored_read _ _ _ _ _ k x 89) (by show xs.length + 1 ≤ _; omega) HB2.out.size ys HY.out ?_; intro N2 nc2 w3 hown2 hb3)
      have hb4 := HB2.out.trans hb3
      clear HO2 HB2 hb3
      go_roundw
      case rel => exact ⟨⟨u.toArray⟩, N2, nc2, ys, rfl, rfl, by have := HYL.out; show ys.length + u.length ≤ _; omega, HN, hown2, hb4⟩
      case measure => show u.length < t.size; omega
    · rw [h] at C
      have hT := toks_k5 h (.inl rfl)
      have hl2 := hk_pos (t := t) (by rw [h]; decide)
      obtain ⟨X, hX⟩ : ∃ X : By, [] = X := ⟨_, rfl⟩
      obtain ⟨U, hU⟩ : ∃ U : By, t.extract 1 t.size = ⟨U.toArray⟩ := ⟨_, rfl⟩
      have hu : t.data.toList.drop 1 = U := by
        have := ext_from t 1 t.size (Nat.le_refl _)
        rw [hU] at this; exact this.symm
      have hul : U.length = t.size - 1 := by rw [← hu, List.length_drop, size_list]
      subst hX
      rw [hu] at hT
      obtain ⟨ys, hy⟩ : ∃ ys, xs ++ [(5, ([] : By))] = ys := ⟨_, rfl⟩
      have HN := Lib.hid (show ys ++ toks U = R by rw [← HG.out, hT, ← hy]; simp)
      have HYL := Lib.hid (show ys.length = xs.length + 1 by rw [← hy]; simp)
      have HUL := Lib.hid (show U.length < t.size by omega)
      have HY := Lib.hid hy
      have CC := Lib.hid C
      have c0 := new_fst wr (.int .i64 0) (.string ⟨#[]⟩) 89
      have c1 := new_snd wr (.int .i64 0) (.string ⟨#[]⟩) 89
      have f0 := frozen_of hbk1 0
      have f1 := frozen_of hbk1 1
      have SB : Below wr.heap.size wr ((wr.alloc (.cells #[.int .i64 5, .string ⟨#[]⟩] 89)).drew) := (one_below wr _).trans ⟨rfl, rfl, rfl, Nat.le_refl _, fun _ _ => rfl⟩
      have SB2 := bch SB (one_below _ (.cells #[.int .i64 5, .string ⟨#[]⟩] 89))
      have HO2 := Lib.hid (hown.below SB2)
      have HB2 := Lib.hid (bch hb SB2)
      clear C hT hu hul h HG hown hb1 hbk1 hy SB SB2 
      go_wp2_with fail
      refine CC.out.mono ?_
      rintro e w' ⟨rfl, rfl⟩
      go_wp2_with fail
      go_region
      clear c0 c1 f0 f1
      go_wp2_with (at_builtin; refine wpList_append_rdn37 _ rfl _ _ rfl w.heap.size _ xs rfl HO2.out (some ⟨wr.heap.size + 1, 0, none⟩) 1 1 [(5, ([] : By))] rfl (by first | rfl | simp) (drew_read wr _ 5 ([] : By) 89) (by show xs.length + 1 ≤ _; omega) HB2.out.size ys HY.out ?_; intro N2 nc2 w3 hown2 hb3)
      have hb4 := HB2.out.trans hb3
      clear HO2 HB2 hb3
      go_roundw
      case rel => exact ⟨⟨U.toArray⟩, N2, nc2, ys, rfl, rfl, by have := HYL.out; have := HUL.out; show ys.length + U.length ≤ _; omega, HN, hown2, hb4⟩
      case measure => exact HUL.out
    · rw [h] at C
      have hT := toks_k5 h (.inr rfl)
      have hl2 := hk_pos (t := t) (by rw [h]; decide)
      obtain ⟨X, hX⟩ : ∃ X : By, [] = X := ⟨_, rfl⟩
      obtain ⟨U, hU⟩ : ∃ U : By, t.extract 1 t.size = ⟨U.toArray⟩ := ⟨_, rfl⟩
      have hu : t.data.toList.drop 1 = U := by
        have := ext_from t 1 t.size (Nat.le_refl _)
        rw [hU] at this; exact this.symm
      have hul : U.length = t.size - 1 := by rw [← hu, List.length_drop, size_list]
      subst hX
      rw [hu] at hT
      obtain ⟨ys, hy⟩ : ∃ ys, xs ++ [(6, ([] : By))] = ys := ⟨_, rfl⟩
      have HN := Lib.hid (show ys ++ toks U = R by rw [← HG.out, hT, ← hy]; simp)
      have HYL := Lib.hid (show ys.length = xs.length + 1 by rw [← hy]; simp)
      have HUL := Lib.hid (show U.length < t.size by omega)
      have HY := Lib.hid hy
      have CC := Lib.hid C
      have c0 := new_fst wr (.int .i64 0) (.string ⟨#[]⟩) 89
      have c1 := new_snd wr (.int .i64 0) (.string ⟨#[]⟩) 89
      have f0 := frozen_of hbk1 0
      have f1 := frozen_of hbk1 1
      have SB : Below wr.heap.size wr ((wr.alloc (.cells #[.int .i64 6, .string ⟨#[]⟩] 89)).drew) := (one_below wr _).trans ⟨rfl, rfl, rfl, Nat.le_refl _, fun _ _ => rfl⟩
      have SB2 := bch SB (one_below _ (.cells #[.int .i64 6, .string ⟨#[]⟩] 89))
      have HO2 := Lib.hid (hown.below SB2)
      have HB2 := Lib.hid (bch hb SB2)
      clear C hT hu hul h HG hown hb1 hbk1 hy SB SB2 
      go_wp2_with fail
      refine CC.out.mono ?_
      rintro e w' ⟨rfl, rfl⟩
      go_wp2_with fail
      go_region
      clear c0 c1 f0 f1
      go_wp2_with (at_builtin; refine wpList_append_rdn37 _ rfl _ _ rfl w.heap.size _ xs rfl HO2.out (some ⟨wr.heap.size + 1, 0, none⟩) 1 1 [(6, ([] : By))] rfl (by first | rfl | simp) (drew_read wr _ 6 ([] : By) 89) (by show xs.length + 1 ≤ _; omega) HB2.out.size ys HY.out ?_; intro N2 nc2 w3 hown2 hb3)
      have hb4 := HB2.out.trans hb3
      clear HO2 HB2 hb3
      go_roundw
      case rel => exact ⟨⟨U.toArray⟩, N2, nc2, ys, rfl, rfl, by have := HYL.out; have := HUL.out; show ys.length + U.length ≤ _; omega, HN, hown2, hb4⟩
      case measure => exact HUL.out
    · rw [h] at C
      obtain ⟨hT, hl2⟩ := toks_k7 h
      rw [size_list] at hl2
      obtain ⟨X, hX⟩ : ∃ X : By, t.extract 1 2 = ⟨X.toArray⟩ := ⟨_, rfl⟩
      obtain ⟨U, hU⟩ : ∃ U : By, t.extract 2 t.size = ⟨U.toArray⟩ := ⟨_, rfl⟩
      have hx : (t.data.toList.drop 1).take 1 = X := by
        have := ext_list t 1 2
        rw [hX, List.drop_take] at this; exact this.symm
      have hu : t.data.toList.drop 2 = U := by
        have := ext_from t 2 t.size (Nat.le_refl _)
        rw [hU] at this; exact this.symm
      have hul : U.length = t.size - 2 := by rw [← hu, List.length_drop, size_list]
      rw [hx, hu] at hT
      obtain ⟨ys, hy⟩ : ∃ ys, xs ++ [(7, X)] = ys := ⟨_, rfl⟩
      have HN := Lib.hid (show ys ++ toks U = R by rw [← HG.out, hT, ← hy]; simp)
      have HYL := Lib.hid (show ys.length = xs.length + 1 by rw [← hy]; simp)
      have HUL := Lib.hid (show U.length < t.size by omega)
      have HY := Lib.hid hy
      have CC := Lib.hid C
      have c0 := new_fst wr (.int .i64 0) (.string ⟨#[]⟩) 89
      have c1 := new_snd wr (.int .i64 0) (.string ⟨#[]⟩) 89
      have f0 := frozen_of hbk1 0
      have f1 := frozen_of hbk1 1
      have SB : Below wr.heap.size wr ((wr.alloc (.cells #[.int .i64 7, .string ⟨X.toArray⟩] 89)).drew) := (one_below wr _).trans ⟨rfl, rfl, rfl, Nat.le_refl _, fun _ _ => rfl⟩
      have SB2 := bch SB (one_below _ (.cells #[.int .i64 7, .string ⟨X.toArray⟩] 89))
      have HO2 := Lib.hid (hown.below SB2)
      have HB2 := Lib.hid (bch hb SB2)
      clear C hT hu hul h HG hown hb1 hbk1 hy SB SB2 hx
      go_wp2_with fail
      refine CC.out.mono ?_
      rintro e w' ⟨rfl, rfl⟩
      go_wp2_with fail
      go_region
      clear c0 c1 f0 f1
      go_wp2_with (at_builtin; refine wpList_append_rdn37 _ rfl _ _ rfl w.heap.size _ xs rfl HO2.out (some ⟨wr.heap.size + 1, 0, none⟩) 1 1 [(7, X)] rfl (by first | rfl | simp) (drew_read wr _ 7 X 89) (by show xs.length + 1 ≤ _; omega) HB2.out.size ys HY.out ?_; intro N2 nc2 w3 hown2 hb3)
      have hb4 := HB2.out.trans hb3
      clear HO2 HB2 hb3
      go_roundw
      case rel => exact ⟨⟨U.toArray⟩, N2, nc2, ys, rfl, rfl, by have := HYL.out; have := HUL.out; show ys.length + U.length ≤ _; omega, HN, hown2, hb4⟩
      case measure => exact HUL.out
end Go.Proofs.YtmnbepapgghdaaaGreat

namespace Go.Proofs.YtmnbepapgghdaaaGreat
open Go.RowKit

/-- What an expansion reads: a map of files, in memory that it does not turn. -/
structure Fls (k : Xk) (w : World) (fs : List Fl.Fl) : Prop where
  rd : Fl.Rd w k.FA fs
  n : k.fn = fs.length
  len : fs.length ≤ 1000
  srt : Fl.Sorted fs
  txt : ∀ f ∈ fs, f.2.length ≤ 4000
/-- It lies below the expansion. -/
def Lo (k : Xk) (fs : List Fl.Fl) : Prop := 0 < fs.length → ∀ a, k.FA = some a → a.block < k.base
theorem fl_lt {w : World} {A : Option Addr} {fs : List Fl.Fl} (h : Fl.Rd w A fs) (h0 : 0 < fs.length) : ∀ a, A = some a → a.block < w.heap.size := fun a ha => by
  obtain ⟨b, o, e, hc⟩ := h h0
  obtain ⟨f, hf0⟩ : ∃ f, fs[0]? = some f := ⟨_, List.getElem?_eq_getElem h0⟩
  have hl := World.block_lt_of_cell? w _ (hc 0 f hf0).1
  rw [e] at ha
  cases ha
  exact hl
theorem fl_low {k : Xk} {w w' : World} {fs : List Fl.Fl} (h : Fl.Rd w k.FA fs) (hl : Lo k fs) (hb : Below k.base w w') : Fl.Rd w' k.FA fs := fun h0 => by
  obtain ⟨b, o, e, hc⟩ := h h0
  have hbl := hl h0 _ e
  have q : ∀ j, w'.cell? ⟨b, j, none⟩ = w.cell? ⟨b, j, none⟩ := fun j => by simp only [World.cell?, hb.block b hbl]
  exact ⟨b, o, e, fun i f hi => ⟨(q _).trans (hc i f hi).1, (q _).trans (hc i f hi).2⟩⟩
theorem Fls.low {k : Xk} {w w' : World} {fs : List Fl.Fl} (h : Fls k w fs) (hl : Lo k fs) (hb : Below k.base w w') : Fls k w' fs := ⟨fl_low h.rd hl hb, h.n, h.len, h.srt, h.txt⟩
/-- The text of a name. -/
def flF (fs : List Fl.Fl) (n : By) : Option By := Fl.getL fs n
/-- The same, from a place on. -/
def XWa (k : Xk) (w : World) (e : Ex) (n a : Nat) : Prop := ∃ s : Xs, XR k w s e ∧ s.N ≤ n ∧ s.at_ = a
theorem XWa.xw {k : Xk} {w : World} {e : Ex} {n a : Nat} (h : XWa k w e n a) : XW k w e n := by
  obtain ⟨s, h1, h2, _⟩ := h
  exact ⟨s, h1, h2⟩
theorem XWa.below {k : Xk} {w w' : World} {e : Ex} {n a : Nat} (h : XWa k w e n a) (hb : Below w.heap.size w w') : XWa k w' e n a := by
  obtain ⟨s, h1, h2, h3⟩ := h
  exact ⟨s, h1.below hb, h2, h3⟩
/-- Tokens of a file, in a new row; or that there is none. w1: the world in which the file was asked for already. -/
def AskPost (k : Xk) (w : World) (e : Ex) (n a : Nat) (fs : List Fl.Fl) (nm : By) (en : Ending) (w' : World) : Prop :=
  (flF fs nm = none ∧ en = .returned (.tuple #[.slice none 0 0, errV (some 4)]) ∧ Below k.base w w' ∧ XWa k w' (e.ask nm) n a) ∨
  ∃ t B d w1, flF fs nm = some t ∧ en = .returned (.tuple #[.slice B (toks t).length d, errV none]) ∧ Below k.base w w1 ∧ XWa k w1 (e.ask nm) n a ∧ Own 89 w' w1.heap.size B d (toks t) ∧ Below w1.heap.size w1 w'
theorem tcell_new (w : World) (g : By) : (w.alloc (.cells #[.string ⟨g.toArray⟩] 9)).cell? ⟨w.heap.size, 0, none⟩ = some (.string ⟨g.toArray⟩) := by rw [World.cell?_alloc_new]; rfl
theorem ask_behind {k : Xk} {w0 w w2 : World} {s : Xs} {e : Ex} {A : Option Addr} {c : Nat} {l : List By} (hr : XR k w s e) (hb : Below k.base w0 w) (ho : OwnT w2 k.base A c l) (hg : w.grownBy w2 (Value.slice s.RA e.reads.length s.rc).ownBlock) (hn : (Value.slice A l.length c).ownBlock = (Value.slice s.RA e.reads.length s.rc).ownBlock ∨ (Value.slice A l.length c).ownBlock = some w.heap.size) :
    w2.cell? ⟨k.p, 9, none⟩ = some (.slice s.RA e.reads.length s.rc) ∧ w2.frozen? ⟨k.p, 9, none⟩ = false ∧ Hid (XR k (w2.setCell ⟨k.p, 9, none⟩ (.slice A l.length c)) { s with RA := A, rc := c } { e with reads := l }) ∧ Hid (Below k.base w0 (w2.setCell ⟨k.p, 9, none⟩ (.slice A l.length c))) := by
  rw [obA_own] at hg
  rw [obA_own, obA_own] at hn
  have hk := blk_grown hr hg hr.nRp
  have hs : k.base ≤ w.heap.size := by have := lt_of_blk hr.blk; have := hr.hp; omega
  exact ⟨cell_of hk 9, frozen_of hk 9, Lib.hid (hr.pushR ho hg hn), Lib.hid ((hb.trans (below_grown hr.reads (by rw [obA_own]; exact hg) hs)).setCell hr.hp (p := ⟨k.p, 9, none⟩) _)⟩
set_option maxRecDepth 100000 in
set_option maxHeartbeats 4000000 in
/-- The latter half: the file is asked for already. -/
theorem ask_get (k : Xk) (w0 : World) (e : Ex) (n : Nat) (fs : List Fl.Fl) (nm : By) (hL : Lo k fs) (w : World) (hb : Below k.base w0 w) (h : XW k w (e.ask nm) n) (hF : Fls k w fs) :
    Calls Tryz.prog 49 #[.slice k.FA k.fn k.fc, .string ⟨nm.toArray⟩] w fun en w' => ∃ t b, en = .returned (.tuple #[.string ⟨t.toArray⟩, .bool b]) ∧ Below w.heap.size w w' ∧ (b = false → flF fs nm = none) ∧ (b = true → flF fs nm = some t ∧ t.length ≤ 4000) := by
  have C := Fl.get_any k.FA k.fc fs nm w hF.rd (by have := hF.len; omega) (Lib.hid hF.srt)
  rw [hF.n]
  refine C.mono ?_
  rintro en w' ⟨rfl, hb1⟩
  refine ⟨_, _, rfl, hb1, fun hh => ?_, fun hh => ?_⟩
  · rw [Fl.hasL_get] at hh
    unfold flF
    cases hg : Fl.getL fs nm with
    | none => rfl
    | some t => rw [hg] at hh; cases hh
  · rw [Fl.hasL_get] at hh
    unfold flF
    cases hg : Fl.getL fs nm with
    | none => rw [hg] at hh; cases hh
    | some t =>
      have e1 : Fl.txtL fs nm = t := by unfold Fl.txtL; rw [hg]; rfl
      rw [e1]
      exact ⟨rfl, hF.txt _ (Fl.getL_mem hg)⟩
theorem ask_in {e : Ex} {nm : By} (h : nm ∈ e.reads) : e.ask nm = e := by unfold Ex.ask; rw [if_pos h]
theorem ask_out {e : Ex} {nm : By} (h : nm ∉ e.reads) : e.ask nm = { e with reads := e.reads ++ [nm] } := by unfold Ex.ask; rw [if_neg h]
set_option maxRecDepth 100000 in
set_option maxHeartbeats 4000000 in
theorem xask_s (k : Xk) (s : Xs) (e : Ex) (n : Nat) (fs : List Fl.Fl) (nm : By) (w : World) (hr : XR k w s e) (hsn : s.N ≤ n) (hF : Fls k w fs) (hL : Lo k fs) (hn : e.reads.length ≤ 1000) :
    Calls Tryz.prog 25 #[.pointer (some ⟨k.p, 0, none⟩), .string ⟨nm.toArray⟩] w (AskPost k w e n s.at_ fs nm) := by
  have HZ := Lib.hid (show k.base ≤ w.heap.size by have := lt_of_blk hr.blk; have := hr.hp; omega)
  have c9 : w.cell? ⟨k.p, 9, none⟩ = some (.slice s.RA e.reads.length s.rc) := hr.cell 9
  have C1 := Lib.hid (scontT_any s.RA s.rc e.reads nm w (OwnT.rd hr.reads) (by omega))
  have HF := Lib.hid hF
  have HL := Lib.hid hL
  have HN := Lib.hid hsn
  -- behind the question: what follows of any world in which the file was asked for
  have TAIL : ∀ (w1 : World), Below k.base w w1 → XWa k w1 (e.ask nm) n s.at_ → w1.cell? ⟨k.p, 0, none⟩ = some (.slice k.FA k.fn k.fc) ∧ Hid (Fls k w1 fs) := fun w1 hb1 hx => by
    obtain ⟨s1, hr1, _, _⟩ := hx
    exact ⟨hr1.cell 0, Lib.hid (HF.out.low HL.out hb1)⟩
  have HT := Lib.hid TAIL
  clear TAIL hF hL hsn
  by_cases hm : nm ∈ e.reads
  · rw [decide_eq_true hm] at C1
    have HX := Lib.hid (fun m => (show XWa k (w.drewN m) (e.ask nm) n s.at_ by rw [ask_in hm]; exact ⟨s, hr.below (drewN_below w m), HN.out, rfl⟩))
    have HB := Lib.hid (fun m => (drewN_below w m).mono HZ.out)
    clear hr hm
    go_enter Tryz.func25, Tryz.ntmps25
    go_wp2_with fail
    refine C1.out.mono ?_
    rintro en w1 ⟨rfl, m, rfl⟩
    obtain ⟨c0, HF1⟩ := HT.out (w.drewN m) (HB.out m) (HX.out m)
    have C2 := Lib.hid (ask_get k w e n fs nm HL.out (w.drewN m) (HB.out m) (HX.out m).xw HF1.out)
    go_wp2_with fail
    refine C2.out.mono ?_
    rintro en w2 ⟨t, b, rfl, hb2, hno, hyes⟩
    have HB2 := Lib.hid hb2
    have HX2 := Lib.hid ((HX.out m).below hb2)
    have HBB := Lib.hid ((HB.out m).trans (hb2.mono (show k.base ≤ (w.drewN m).heap.size from HZ.out)))
    cases b
    · have HNO := Lib.hid (hno rfl)
      clear hno hyes hb2
      go_wp2
      go_ret2
      exact .inl ⟨HNO.out, rfl, HBB.out, HX2.out⟩
    · obtain ⟨hy1, hy2⟩ := hyes rfl
      have HY := Lib.hid hy1
      have C3 := Lib.hid (lex_any ⟨t.toArray⟩ w2 (by show t.toArray.size ≤ _; simp; omega))
      clear hno hyes hy1 hy2 hb2
      go_wp2_with fail
      refine C3.out.mono ?_
      rintro en w3 ⟨B, d, rfl, ho3, hb3⟩
      have HO := Lib.hid ho3
      have HB3 := Lib.hid hb3
      clear ho3 hb3
      go_wp2
      go_ret2
      exact .inr ⟨t, B, d, w2, HY.out, rfl, HBB.out, HX2.out, HO.out, HB3.out⟩
  · rw [decide_eq_false hm] at C1
    obtain ⟨r, hr0⟩ : ∃ r, e.reads ++ [nm] = r := ⟨_, rfl⟩
    have HY := Lib.hid hr0
    have HR := Lib.hid (fun m => (hr.below (drewN_below w m)).below (one_below _ (.cells #[.string ⟨nm.toArray⟩] 9)))
    have HB := Lib.hid (fun m => (bch (drewN_below w m) (one_below (w.drewN m) (.cells #[.string ⟨nm.toArray⟩] 9))).mono HZ.out)
    have HA := Lib.hid (show e.ask nm = { e with reads := r } by rw [ask_out hm, hr0])
    clear hr hm hr0
    go_enter Tryz.func25, Tryz.ntmps25
    go_wp2_with fail
    refine C1.out.mono ?_
    rintro en w1 ⟨rfl, m, rfl⟩
    have c91 : ((w.drewN m).alloc (.cells #[.string ⟨nm.toArray⟩] 9)).cell? ⟨k.p, 9, none⟩ = some (.slice s.RA e.reads.length s.rc) := (HR.out m).cell 9
    go_wp2_with (at_builtin; refine wpList_append_t _ rfl _ _ rfl k.base s.RA s.rc e.reads rfl (HR.out m).reads (w.drewN m).heap.size 1 nm rfl (tcell_new _ _) (by omega) (Nat.le_trans HZ.out (HB.out m).size) r HY.out ?_; intro A' c' w2 ho2 hg2 hn2; obtain ⟨d9, f9, HW, HB2⟩ := ask_behind (HR.out m) (HB.out m) ho2 hg2 hn2; have HX2 := Lib.hid (show XWa k (w2.setCell ⟨k.p, 9, none⟩ (.slice A' r.length c')) (e.ask nm) n s.at_ by rw [HA.out]; exact ⟨_, HW.out, HN.out, rfl⟩); obtain ⟨c0, HF1⟩ := HT.out _ HB2.out HX2.out; clear ho2 hg2 hn2)
    have HS2 := Lib.hid (Nat.le_trans HZ.out HB2.out.size)
    obtain ⟨W, hW⟩ : ∃ W, w2.setCell ⟨k.p, 9, none⟩ (.slice A' r.length c') = W := ⟨_, rfl⟩
    rw [hW] at HW HB2 HX2 c0 HF1 HS2 ⊢
    have C2 := Lib.hid (ask_get k w e n fs nm HL.out W HB2.out HX2.out.xw HF1.out)
    refine C2.out.mono ?_
    rintro en w3 ⟨t, b, rfl, hb2, hno, hyes⟩
    have HX3 := Lib.hid (HX2.out.below hb2)
    have HBB := Lib.hid (HB2.out.trans (hb2.mono HS2.out))
    cases b
    · have HNO := Lib.hid (hno rfl)
      clear hno hyes hb2
      go_wp2
      go_ret2
      exact .inl ⟨HNO.out, rfl, HBB.out, HX3.out⟩
    · obtain ⟨hy1, hy2⟩ := hyes rfl
      have HY2 := Lib.hid hy1
      have C3 := Lib.hid (lex_any ⟨t.toArray⟩ w3 (by show t.toArray.size ≤ _; simp; omega))
      clear hno hyes hy1 hy2 hb2
      go_wp2_with fail
      refine C3.out.mono ?_
      rintro en w4 ⟨B, d, rfl, ho3, hb3⟩
      have HO := Lib.hid ho3
      have HB3 := Lib.hid hb3
      clear ho3 hb3
      go_wp2
      go_ret2
      exact .inr ⟨t, B, d, w3, HY2.out, rfl, HBB.out, HX3.out, HO.out, HB3.out⟩
theorem xask_any (k : Xk) (e : Ex) (n : Nat) (fs : List Fl.Fl) (nm : By) (w : World) (h : XW k w e n) (hF : Fls k w fs) (hL : Lo k fs) (hn : e.reads.length ≤ 1000) :
    Calls Tryz.prog 25 #[.pointer (some ⟨k.p, 0, none⟩), .string ⟨nm.toArray⟩] w fun en w' => ∃ a, AskPost k w e n a fs nm en w' := by
  obtain ⟨s, hr, hsn⟩ := h
  exact (xask_s k s e n fs nm w hr hsn hF hL hn).mono fun _ _ q => ⟨_, q⟩
end Go.Proofs.YtmnbepapgghdaaaGreat

namespace Go.Proofs.YtmnbepapgghdaaaGreat
open Go.RowKit

theorem rd_set {w : World} {B : Option Addr} {l : List Tok} {p j : Nat} {v : Value} (h : Rd w B l) (hP : InQ (fun b => b ≠ p) B l.length) : Rd (w.setCell ⟨p, j, none⟩ v) B l :=
  h.heap fun h0 a ha => Below.heap_setCell w ⟨p, j, none⟩ v a.block (hP h0 a ha)
theorem bring_list {full l : List Tok} {a : Nat} (h : a + l.length ≤ full.length) : (full.take a ++ l ++ full.drop (a + l.length)).length = full.length ∧ (full.take a ++ l ++ full.drop (a + l.length)).drop a = l ++ full.drop (a + l.length) := by
  refine ⟨by simp; omega, ?_⟩
  rw [List.append_assoc, List.drop_append_of_le_length (by simp; omega)]
  have : (full.take a).drop a = [] := List.drop_eq_nil_of_le (by simp; omega)
  rw [this, List.nil_append]
theorem bring_in {k : Xk} {w w2 : World} {s : Xs} {e : Ex} {l : List Tok} {a : Nat} (hr : XR k w { s with at_ := a } e) (ha : a + l.length ≤ s.full.length) (ho : Own 89 w2 k.base s.TA s.tc (s.full.take a ++ l ++ s.full.drop (a + l.length))) (hk : ButX (obA s.TA) w w2) :
    XR k w2 { s with at_ := a, full := s.full.take a ++ l ++ s.full.drop (a + l.length) } { e with inp := l ++ s.full.drop (a + l.length) } :=
  hr.turnT (s := { s with at_ := a }) ho (bring_list ha).1 hk (bring_list ha).2
set_option maxRecDepth 100000 in
set_option maxHeartbeats 4000000 in
theorem xbring_s (k : Xk) (s : Xs) (e : Ex) (n : Nat) (B : Option Addr) (d : Nat) (l : List Tok) (w : World) (hx : XR k w s e) (hsn : s.N ≤ n) (hr : Rd w B l) (hP : InQ (fun b => b ≠ k.p) B l.length) (hlen : l.length + e.inp.length ≤ 100000) :
    Calls Tryz.prog 77 #[.pointer (some ⟨k.p, 0, none⟩), .slice B l.length d] w fun en w' => en = .returned (.tuple #[]) ∧ Below k.base w w' ∧ XW k w' { e with inp := l ++ e.inp } n ∧ But2 k.p (obA s.TA) w w' := by
  have HZ := Lib.hid (show k.base ≤ w.heap.size by have := lt_of_blk hx.blk; have := hx.hp; omega)
  have c6 : w.cell? ⟨k.p, 6, none⟩ = some (.slice s.TA s.full.length s.tc) := hx.cell 6
  have c7 : w.cell? ⟨k.p, 7, none⟩ = some (.int .i64 s.at_) := hx.cell 7
  have f7 := hx.froz 7
  have HN := Lib.hid hsn
  have hal := hx.atl
  have hfl := hx.flen
  have hcap := hx.toks.cap
  have hpb := hx.hp
  by_cases hle : l.length ≤ s.at_
  · obtain ⟨a, ha⟩ : ∃ a, a + l.length = s.at_ := ⟨s.at_ - l.length, by omega⟩
    have q : (l.length : Int) ≤ (s.at_ : Int) := by omega
    have hsub : ((s.at_ : Int) - (l.length : Int)) = (a : Int) := by omega
    have hS := hx.setP 7 (.int .i64 ((s.at_ : Int) - (l.length : Int))) (a := a) (e' := { e with inp := s.full.drop a }) (by rw [hsub]; rfl) (by omega) rfl rfl rfl rfl rfl rfl
    have hrd := rd_set (j := 7) (v := .int .i64 ((s.at_ : Int) - (l.length : Int))) hr hP
    have hb1 := (Below.refl k.base w).setCell hpb (p := ⟨k.p, 7, none⟩) (.int .i64 ((s.at_ : Int) - (l.length : Int)))
    obtain ⟨w1, hw1⟩ : ∃ w1, w.setCell ⟨k.p, 7, none⟩ (.int .i64 ((s.at_ : Int) - (l.length : Int))) = w1 := ⟨_, rfl⟩
    rw [hw1] at hS hrd hb1
    have d6 : w1.cell? ⟨k.p, 6, none⟩ = some (.slice s.TA s.full.length s.tc) := hS.cell 6
    have d7 : w1.cell? ⟨k.p, 7, none⟩ = some (.int .i64 a) := hS.cell 7
    have e1 := fun w => tok_from (A := s.TA) (n := s.full.length) (c := s.tc) (l := a) (by omega) w
    have i1 : (0 : Int) ≤ (a : Int) := by omega
    have i2 : (a : Int) ≤ (s.full.length : Int) := by omega
    have HS := Lib.hid (hS.below (below_drew w1))
    have HR := Lib.hid (hrd.below (below_drew w1))
    have HB := Lib.hid (hb1.drew)
    have HK1 := Lib.hid (fun (w2 : World) (hk : ButX (obA s.TA) w1.drew w2) => (show But2 k.p (obA s.TA) w w2 from fun b hl hp hX => by
      have hsz : w.heap.size = w1.heap.size := by rw [← hw1]; simp [World.setCell]
      have e1 : w1.heap[b]? = w.heap[b]? := by rw [← hw1]; exact Below.heap_setCell w ⟨k.p, 7, none⟩ _ b hp
      exact (hk b (by show b < w1.heap.size; omega) hX).trans e1))
    have HA := Lib.hid (show a + l.length ≤ s.full.length by omega)
    have HI := Lib.hid (show { e with inp := l ++ s.full.drop (a + l.length) } = { e with inp := l ++ e.inp } by rw [ha, hx.inp])
    clear hS hrd hb1 hx hr hP hsub hsn
    go_enter Tryz.func77, Tryz.ntmps77
    go_wp2_with fail
    go_region_law (refine step_copy_x w1.drew (by rfl) _ _ (by rfl) k.base s.TA s.tc s.full a B d l.length _ _ l _ (by rfl) ⟨rfl, rfl, rfl⟩ (by rfl) rfl HS.out.toks HR.out HA.out ?_
                   intro w2 HO hk2 hb2)
    all_goals
      go_wp2
      refine bodyPost_ret (results_none rfl _ _ _) rfl ?_
      have hX := bring_in HS.out HA.out HO.out hk2
      have HX : XW k w2 { e with inp := l ++ e.inp } n := by rw [← HI.out]; exact ⟨_, hX, HN.out⟩
      exact ⟨rfl, HB.out.trans hb2, HX, HK1.out w2 hk2⟩
  · have q : ¬ (l.length : Int) ≤ (s.at_ : Int) := by omega
    have e1 := fun w => tok_from (A := s.TA) (n := s.full.length) (c := s.tc) (l := s.at_) (by omega) w
    obtain ⟨gs, hgs⟩ : ∃ gs, s.full.drop s.at_ = gs := ⟨_, rfl⟩
    have hgl : gs.length = s.full.length - s.at_ := by rw [← hgs]; simp
    rw [← hgl] at e1
    have i1 : (0 : Int) ≤ (s.at_ : Int) := by omega
    have i2 : (s.at_ : Int) ≤ (s.full.length : Int) := by omega
    have hie : e.inp = gs := by rw [← hgs, hx.inp]
    have hil : gs.length = e.inp.length := by rw [hie]
    have hq : Rd w.drew (cutS 2 s.TA s.tc s.at_) gs := by
      have := hx.toks.rd.part (l := s.at_) (m := s.full.length - s.at_) (c := s.tc) (by omega) (by omega)
      rw [hgs, List.take_of_length_le (by omega)] at this
      exact this
    have C := Lib.hid (Tk.concat2 B (cutS 2 s.TA s.tc s.at_) d (s.tc - s.at_) 27 l gs w.drew hr hq (by omega))
    obtain ⟨r, hr0⟩ : ∃ r, l ++ gs = r := ⟨_, rfl⟩
    rw [hr0] at C
    have hrl : r.length ≤ 100000 := by rw [← hr0, List.length_append]; omega
    have har : s.at_ ≤ r.length := by rw [← hr0, List.length_append]; omega
    have HI := Lib.hid (show { e with inp := r.drop 0 } = { e with inp := l ++ e.inp } by rw [List.drop_zero, ← hr0, hie])
    have HL := Lib.hid hrl
    have HA := Lib.hid har
    have HS := Lib.hid (hx.below (below_drew w))
    have hd6 : w.drew.cell? ⟨k.p, 6, none⟩ = some (.slice s.TA s.full.length s.tc) := c6
    have hd7 : w.drew.cell? ⟨k.p, 7, none⟩ = some (.int .i64 s.at_) := c7
    have hpl := lt_of_blk hx.blk
    have HP := Lib.hid hpl
    have HQ := Lib.hid hpb
    -- behind the call
    have HT := Lib.hid (fun (w2 : World) (A : Option Addr) (c : Nat) (ho : Own 89 w2 w.drew.heap.size A c r) (hb : Below w.drew.heap.size w.drew w2) => (show
        w2.cell? ⟨k.p, 6, none⟩ = some (.slice s.TA s.full.length s.tc) ∧ w2.frozen? ⟨k.p, 6, none⟩ = false ∧ (w2.setCell ⟨k.p, 6, none⟩ (.slice A r.length c)).cell? ⟨k.p, 7, none⟩ = some (.int .i64 s.at_) ∧ (w2.setCell ⟨k.p, 6, none⟩ (.slice A r.length c)).frozen? ⟨k.p, 7, none⟩ = false ∧
        Hid (But2 k.p (obA s.TA) w ((w2.setCell ⟨k.p, 6, none⟩ (.slice A r.length c)).setCell ⟨k.p, 7, none⟩ (.int .i64 0))) ∧ Hid (XW k ((w2.setCell ⟨k.p, 6, none⟩ (.slice A r.length c)).setCell ⟨k.p, 7, none⟩ (.int .i64 0)) { e with inp := l ++ e.inp } n) ∧ Hid (Below k.base w ((w2.setCell ⟨k.p, 6, none⟩ (.slice A r.length c)).setCell ⟨k.p, 7, none⟩ (.int .i64 0))) by
      have hS := HS.out.below hb
      have hN := HS.out.newT hb (ho.mono HZ.out) (fun g hg => by
        have := (World.ownsRow.lt ho g (by rw [obA_own]; exact hg)).1
        exact this) HA.out HL.out
      have hM := hN.setP 7 (.int .i64 0) (a := 0) (e' := { e with inp := r.drop 0 }) rfl (Nat.zero_le _) rfl rfl rfl rfl rfl rfl
      refine ⟨hS.cell 6, hS.froz 6, hN.cell 7, hN.froz 7, Lib.hid ?_, Lib.hid ?_, Lib.hid ?_⟩
      · exact fun b hl hp _ => ((Below.heap_setCell _ ⟨k.p, 7, none⟩ _ b hp).trans (Below.heap_setCell w2 ⟨k.p, 6, none⟩ _ b hp)).trans (hb.block b hl)
      · rw [← HI.out]; exact ⟨_, hM, HN.out⟩
      · exact ((((below_drew w).mono HZ.out).trans (hb.mono HZ.out)).setCell HQ.out (p := ⟨k.p, 6, none⟩) _).setCell HQ.out (p := ⟨k.p, 7, none⟩) _))
    have HGL := Lib.hid hgl
    clear hx hr hP hsn hq hr0 hrl har HS hgs hgl hie hil
    go_enter Tryz.func77, Tryz.ntmps77
    go_wp2_with fail
    go_region_law (refine step_call (w.drew.alloc (.cells #[.slice B l.length d, .slice (cutS 2 s.TA s.tc s.at_) gs.length (s.tc - s.at_)] 27)) (by rfl) 99 _ _ (by rfl) #[.slice (some ⟨w.heap.size, 0, none⟩) 2 2] (by rfl) (enter99 _ _) (R := fun v w' => ∃ A c, v = .slice A r.length c ∧ Own 89 w' w.drew.heap.size A c r ∧ Below w.drew.heap.size w.drew w') (C.out.mono fun _ _ ⟨A, c, q1, q2, q3⟩ => ⟨_, q1, A, c, rfl, q2, q3⟩) ?_
                   rintro v w2 ⟨A, c, rfl, ho2, hb2⟩
                   obtain ⟨g6, g6f, g7, g7f, HK2, HW, HB2⟩ := HT.out w2 A c ho2 hb2)
    all_goals
      go_wp2
      go_end0
      exact ⟨rfl, HB2.out, HW.out, HK2.out⟩
theorem xbring_any (k : Xk) (e : Ex) (n : Nat) (B : Option Addr) (d : Nat) (l : List Tok) (w : World) (h : XW k w e n) (hr : Rd w B l) (hP : InQ (fun b => b ≠ k.p) B l.length) (hlen : l.length + e.inp.length ≤ 100000) :
    Calls Tryz.prog 77 #[.pointer (some ⟨k.p, 0, none⟩), .slice B l.length d] w fun en w' => en = .returned (.tuple #[]) ∧ Below k.base w w' ∧ XW k w' { e with inp := l ++ e.inp } n := by
  obtain ⟨s, hx, hsn⟩ := h
  exact (xbring_s k s e n B d l w hx hsn hr hP hlen).mono fun _ _ ⟨h1, h2, h3, _⟩ => ⟨h1, h2, h3⟩
end Go.Proofs.YtmnbepapgghdaaaGreat

/-
  Contracts of the document's own answers: word, gap.
  The contract of the document's own answer: Lex.
-/
import Derived.Test.YtmnbepapgghdaaaGreatK32
import Derived.Test.YtmnbepapgghdaaaGreatK23
namespace Go.Proofs.YtmnbepapgghdaaaGreat
open Go.RowKit

/-- A token, and the place behind it; old memory stays. -/
def RTok (w : World) (t : ByteArray) (k : Int) (x u : By) (e : Ending) (w' : World) : Prop := ∃ j : Nat, e = .returned (.tuple #[.agg #[.int .i64 k, .string ⟨x.toArray⟩], .int .i64 j]) ∧ Hid (t.data.toList.drop j = u) ∧ j ≤ t.size ∧ Below w.heap.size w w'
theorem word_at {t : ByteArray} {n : Nat} {l : By} {R : By × By} (hn : n < t.size) (h : (l ++ (wordG (t.data.toList.drop n)).1, (wordG (t.data.toList.drop n)).2) = R) (h1 : kdN t n = 1) :
    (∃ h2 : n + 1 < t.size, (t[n].toNat : Int) = 92 ∧ ((l ++ [t[n + 1]]) ++ (wordG (t.data.toList.drop (n + 2))).1, (wordG (t.data.toList.drop (n + 2))).2) = R) ∨ (((t[n].toNat : Int) == 92) = false ∨ (t[n].toNat : Int) = 92 ∧ ¬ n + 1 < t.size) ∧ ((l ++ [t[n]]) ++ (wordG (t.data.toList.drop (n + 1))).1, (wordG (t.data.toList.drop (n + 1))).2) = R := by
  unfold kdN at h1
  have hd := drop_at t n hn
  rw [hd] at h h1
  have hk1 : kd t[n] (t.data.toList.drop (n + 1)) = 1 := h1
  by_cases hc : t[n] = 92
  · have hx : (t[n].toNat : Int) = 92 := by rw [hc]; rfl
    by_cases h2 : n + 1 < t.size
    · left
      refine ⟨h2, hx, ?_⟩
      have hd1 := drop_at t (n + 1) h2
      rw [hd1] at h hk1
      rw [wordG_two, if_pos hk1, if_pos hc] at h
      rw [← h, List.append_assoc]; rfl
    · right
      refine ⟨.inr ⟨hx, h2⟩, ?_⟩
      have hd1 := drop_end t (n + 1) h2
      rw [hd1] at h hk1 ⊢
      rw [wordG_one, if_pos hk1] at h
      rw [← h]; simp [wordG]
  · right
    refine ⟨.inl ?_, ?_⟩
    · rw [beq_eq_false_iff_ne]; intro q; exact hc (byte_lit (n := 92) q)
    · rw [word_step hc hk1] at h
      rw [← h, List.append_assoc]; rfl
theorem word_off {u l : By} {R : By × By} (h : (l ++ (wordG u).1, (wordG u).2) = R) (h1 : hk u ≠ 1) : R = (l, u) := by
  rw [word_none h1] at h; rw [← h]; simp
theorem tok40_new (w : World) (a b : Value) : (w.alloc (.cells #[a, b] 82)).heap[w.heap.size]? = some (.cells #[a, b] 82) := heap_alloc_new w _
set_option maxRecDepth 100000 in
set_option maxHeartbeats 2000000 in
theorem rword_any (t : ByteArray) (i : Nat) (w : World) (hs : t.size ≤ 190000) (hi : i ≤ t.size) :
    Calls Tryz.prog 41 #[.string t, .int .i64 i] w (RTok w t 1 (wordG (t.data.toList.drop i)).1 (wordG (t.data.toList.drop i)).2) := by
  generalize hg : wordG (t.data.toList.drop i) = R
  have HR := Lib.hid (show (([] : By) ++ (wordG (t.data.toList.drop i)).1, (wordG (t.data.toList.drop i)).2) = R by rw [hg]; rfl)
  clear hg
  have hb0 := one_below w (.cells #[.int .i64 0, .string ⟨#[]⟩] 82)
  have hn0 := tok40_new w (.int .i64 0) (.string ⟨#[]⟩)
  go_enter Tryz.func41, Tryz.ntmps41
  go_wp2_with fail
  go_loopw [1, 6] (fun v1 v6 wr => ∃ (n : Nat) (l : By), v1 = .int .i64 n ∧ v6 = .string ⟨l.toArray⟩ ∧ n ≤ t.size ∧ l.length ≤ n ∧ Hid ((l ++ (wordG (t.data.toList.drop n)).1, (wordG (t.data.toList.drop n)).2) = R) ∧ Below w.heap.size w wr ∧ wr.heap[w.heap.size]? = some (.cells #[.int .i64 0, .string ⟨#[]⟩] 82)) (fun v1 _ _ => t.size - (intOf v1).toNat)
  case atStart => exact ⟨i, [], rfl, rfl, hi, by simp, HR, hb0, hn0⟩
  case round =>
    clear hb0 hn0 HR
    obtain ⟨n, l, rfl, rfl, hn, hll, HG, hb, hbk⟩ := hrel
    by_cases hlt : n < t.size
    · have C := rkind_any t n wr (by omega) hlt
      have i1 : (n : Int) < (t.size : Int) := by omega
      by_cases h1 : kdN t n = 1
      · rw [h1] at C
        have hw := word_at hlt HG.out h1
        have CC := Lib.hid C
        have HBK := Lib.hid hbk
        clear C h1 HG hbk
        rcases hw with ⟨h2, hx, h3⟩ | ⟨hx, h3⟩
        · have hone := one_byteQ t (n + 1) h2
          obtain ⟨l2, hl2⟩ : ∃ l2, l ++ [t[n + 1]] = l2 := ⟨_, rfl⟩
          rw [hl2] at h3
          have HS := Lib.hid (str_appQ hl2)
          have hl2l : l2.length = l.length + 1 := by rw [← hl2]; simp
          have H3 := Lib.hid h3
          have i2 : (n : Int) + 1 < (t.size : Int) := by omega
          generalize t[n + 1] = c at *
          clear h3 hl2
          go_wp2_with fail
          refine CC.out.mono ?_
          rintro e w' ⟨rfl, rfl⟩
          go_wp2
          go_roundw
          case rel => exact ⟨n + 2, l2, by go_num, HS.out, by omega, by omega, H3, hb, HBK.out⟩
          case measure => simp [intOf]; omega
        · have hone := one_byteQ t n hlt
          obtain ⟨l2, hl2⟩ : ∃ l2, l ++ [t[n]] = l2 := ⟨_, rfl⟩
          rw [hl2] at h3
          have HS := Lib.hid (str_appQ hl2)
          have hl2l : l2.length = l.length + 1 := by rw [← hl2]; simp
          have H3 := Lib.hid h3
          obtain ⟨y, hy⟩ : ∃ y : Int, (t[n].toNat : Int) = y := ⟨_, rfl⟩
          rw [hy] at hx
          clear h3 hl2
          rcases hx with hx | ⟨rfl, h2⟩
          · go_wp2_with fail
            refine CC.out.mono ?_
            rintro e w' ⟨rfl, rfl⟩
            go_wp2
            go_roundw
            case rel => exact ⟨n + 1, l2, by go_num, HS.out, by omega, by omega, H3, hb, HBK.out⟩
            case measure => simp [intOf]; omega
          · have i2 : ¬ (n : Int) + 1 < (t.size : Int) := by omega
            go_wp2_with fail
            refine CC.out.mono ?_
            rintro e w' ⟨rfl, rfl⟩
            go_wp2
            go_roundw
            case rel => exact ⟨n + 1, l2, by go_num, HS.out, by omega, by omega, H3, hb, HBK.out⟩
            case measure => simp [intOf]; omega
      · have q2 : (kdN t n == 1) = false := by simpa using h1
        have HE := Lib.hid (word_off HG.out h1)
        clear h1 HG
        generalize kdN t n = V at *
        have CC := Lib.hid C
        have c0 : wr.cell? ⟨w.heap.size, 0, none⟩ = some (.int .i64 0) := cell_of hbk 0
        have c1 : wr.cell? ⟨w.heap.size, 1, none⟩ = some (.string ⟨#[]⟩) := cell_of hbk 1
        have f0 := frozen_of hbk 0
        have f1 := frozen_of hbk 1
        have BK2 : Hid (((wr.setCell ⟨w.heap.size, 0, none⟩ (.int .i64 1)).setCell ⟨w.heap.size, 1, none⟩ (.string ⟨l.toArray⟩)).heap[w.heap.size]? = some (.cells #[.int .i64 1, .string ⟨l.toArray⟩] 82)) := blk_set (blk_set hbk 0 _) 1 _
        have HB := Lib.hid hb
        clear C hbk hb
        go_wp2_with fail
        refine CC.out.mono ?_
        rintro e w' ⟨rfl, rfl⟩
        go_wp2
        refine bodyPost_ret (results_cell_tmp (P := Tryz.prog) rfl _ _ w.heap.size 82 #[.int .i64 1, .string ⟨l.toArray⟩] (0, 0) _ _ (by rfl) (by rfl) BK2.out Tryz.underlying82 rfl (by kernel_rfl)) rfl ?_
        rw [HE.out]
        exact ⟨n, rfl, Lib.hid rfl, hn, (HB.out.setCell (Nat.le_refl _) _).setCell (Nat.le_refl _) _⟩
    · have HE := Lib.hid (word_off HG.out (by rw [drop_end t n hlt]; decide))
      have i1 : ¬ (n : Int) < (t.size : Int) := by omega
      have c0 : wr.cell? ⟨w.heap.size, 0, none⟩ = some (.int .i64 0) := cell_of hbk 0
      have c1 : wr.cell? ⟨w.heap.size, 1, none⟩ = some (.string ⟨#[]⟩) := cell_of hbk 1
      have f0 := frozen_of hbk 0
      have f1 := frozen_of hbk 1
      have BK2 : Hid (((wr.setCell ⟨w.heap.size, 0, none⟩ (.int .i64 1)).setCell ⟨w.heap.size, 1, none⟩ (.string ⟨l.toArray⟩)).heap[w.heap.size]? = some (.cells #[.int .i64 1, .string ⟨l.toArray⟩] 82)) := blk_set (blk_set hbk 0 _) 1 _
      have HB := Lib.hid hb
      clear HG hbk hb
      go_wp2
      refine bodyPost_ret (results_cell_tmp (P := Tryz.prog) rfl _ _ w.heap.size 82 #[.int .i64 1, .string ⟨l.toArray⟩] (0, 0) _ _ (by rfl) (by rfl) BK2.out Tryz.underlying82 rfl (by kernel_rfl)) rfl ?_
      rw [HE.out]
      exact ⟨n, rfl, Lib.hid rfl, hn, (HB.out.setCell (Nat.le_refl _) _).setCell (Nat.le_refl _) _⟩
theorem gap_at_rem {t : ByteArray} {n m : Nat} {R : Nat × By} (hn : n < t.size) (h : gapG true m (t.data.toList.drop n) = R) :
    ((t[n].toNat : Int) = 10 ∧ gapG false m (t.data.toList.drop (n + 1)) = R) ∨ (((t[n].toNat : Int) == 10) = false ∧ gapG true m (t.data.toList.drop (n + 1)) = R) := by
  rw [drop_at t n hn] at h
  by_cases hc : t[n] = 10
  · exact .inl ⟨by rw [hc]; rfl, by rw [← h]; simp [gapG, hc]⟩
  · refine .inr ⟨?_, by rw [← h]; simp [gapG, hc]⟩
    rw [beq_eq_false_iff_ne]; intro q; exact hc (byte_lit (n := 10) q)
theorem gap_at {t : ByteArray} {n m : Nat} {R : Nat × By} (hn : n < t.size) (h : gapG false m (t.data.toList.drop n) = R) (h2 : kdN t n = 2) :
    ((t[n].toNat : Int) = 37 ∧ gapG true m (t.data.toList.drop (n + 1)) = R) ∨ ((t[n].toNat : Int) = 10 ∧ gapG false (m + 1) (t.data.toList.drop (n + 1)) = R) ∨ (((t[n].toNat : Int) == 37) = false ∧ ((t[n].toNat : Int) == 10) = false ∧ gapG false m (t.data.toList.drop (n + 1)) = R) := by
  unfold kdN at h2
  rw [drop_at t n hn] at h h2
  have hk2 : kd t[n] (t.data.toList.drop (n + 1)) = 2 := h2
  rcases kd_blank hk2 with e | e | ⟨e1, e2, e3⟩
  · exact .inl ⟨by rw [e]; rfl, by rw [← h]; simp [gapG, e]⟩
  · exact .inr (.inl ⟨by rw [e]; rfl, by rw [← h]; simp [gapG, e]⟩)
  · refine .inr (.inr ⟨?_, ?_, by rw [← h]; simp [gapG, e1, e2, e3]⟩)
    · rw [beq_eq_false_iff_ne]; intro q; exact e1 (byte_lit (n := 37) q)
    · rw [beq_eq_false_iff_ne]; intro q; exact e2 (byte_lit (n := 10) q)
set_option maxRecDepth 100000 in
set_option maxHeartbeats 4000000 in
theorem rgap_any (t : ByteArray) (i : Nat) (w : World) (hs : t.size ≤ 190000) (hi : i ≤ t.size) :
    Calls Tryz.prog 42 #[.string t, .int .i64 i] w (RTok w t (gapK (gapG false 0 (t.data.toList.drop i)).1) [] (gapG false 0 (t.data.toList.drop i)).2) := by
  generalize hg : gapG false 0 (t.data.toList.drop i) = R
  have HR := Lib.hid hg
  clear hg
  have hb0 := one_below w (.cells #[.int .i64 0, .string ⟨#[]⟩] 82)
  have hn0 := tok40_new w (.int .i64 0) (.string ⟨#[]⟩)
  go_enter Tryz.func42, Tryz.ntmps42
  go_wp2_with fail
  go_loopw [1, 6, 7] (fun v1 v6 v7 wr => ∃ (n m : Nat) (r : Bool), v1 = .int .i64 n ∧ v6 = .int .i64 m ∧ v7 = .bool r ∧ n ≤ t.size ∧ m ≤ n ∧ Hid (gapG r m (t.data.toList.drop n) = R) ∧ Below w.heap.size w wr ∧ wr.heap[w.heap.size]? = some (.cells #[.int .i64 0, .string ⟨#[]⟩] 82)) (fun v1 _ _ _ => t.size - (intOf v1).toNat)
  case atStart => exact ⟨i, 0, false, rfl, rfl, rfl, hi, Nat.zero_le _, HR, hb0, hn0⟩
  case round =>
    clear hb0 hn0 HR
    obtain ⟨n, m, r, rfl, rfl, rfl, hn, hmn, HG, hb, hbk⟩ := hrel
    have HB := Lib.hid hb
    by_cases hlt : n < t.size
    · have i1 : (n : Int) < (t.size : Int) := by omega
      cases r with
      | true =>
        have HBK := Lib.hid hbk
        rcases gap_at_rem hlt HG.out with ⟨hx, h3⟩ | ⟨hx, h3⟩
        · have H3 := Lib.hid h3
          clear h3 hb hbk HG
          go_wp2
          go_roundw
          case rel => exact ⟨n + 1, m, false, by go_num, rfl, rfl, by omega, by omega, H3, HB.out, HBK.out⟩
          case measure => simp [intOf]; omega
        · have H3 := Lib.hid h3
          obtain ⟨y, hy⟩ : ∃ y : Int, (t[n].toNat : Int) = y := ⟨_, rfl⟩
          rw [hy] at hx
          clear h3 hb hbk HG
          cases h37 : (y == 37) <;> (
            go_wp2
            go_roundw
            case rel => exact ⟨n + 1, m, true, by go_num, rfl, rfl, by omega, by omega, H3, HB.out, HBK.out⟩
            case measure => simp [intOf]; omega)
      | false =>
        have C := rkind_any t n wr (by omega) hlt
        by_cases h2 : kdN t n = 2
        · rw [h2] at C
          have CC := Lib.hid C
          have HBK := Lib.hid hbk
          have hw := gap_at hlt HG.out h2
          clear C h2 HG hb hbk
          rcases hw with ⟨hx, h3⟩ | ⟨hx, h3⟩ | ⟨hx, hx2, h3⟩
          · have H3 := Lib.hid h3
            clear h3
            go_wp2_with fail
            refine CC.out.mono ?_
            rintro e w' ⟨rfl, rfl⟩
            go_wp2
            go_roundw
            case rel => exact ⟨n + 1, m, true, by go_num, rfl, rfl, by omega, by omega, H3, HB.out, HBK.out⟩
            case measure => simp [intOf]; omega
          · have H3 := Lib.hid h3
            clear h3
            go_wp2_with fail
            refine CC.out.mono ?_
            rintro e w' ⟨rfl, rfl⟩
            go_wp2
            go_roundw
            case rel => exact ⟨n + 1, m + 1, false, by go_num, by go_num, rfl, by omega, by omega, H3, HB.out, HBK.out⟩
            case measure => simp [intOf]; omega
          · have H3 := Lib.hid h3
            obtain ⟨y, hy⟩ : ∃ y : Int, (t[n].toNat : Int) = y := ⟨_, rfl⟩
            rw [hy] at hx hx2
            clear h3
            go_wp2_with fail
            refine CC.out.mono ?_
            rintro e w' ⟨rfl, rfl⟩
            go_wp2
            go_roundw
            case rel => exact ⟨n + 1, m, false, by go_num, rfl, rfl, by omega, by omega, H3, HB.out, HBK.out⟩
            case measure => simp [intOf]; omega
        · have q2 : (kdN t n == 2) = false := by simpa using h2
          have HE := Lib.hid (show R = (m, t.data.toList.drop n) by rw [← HG.out]; exact gap_none h2 m)
          clear h2 HG
          generalize kdN t n = V at *
          have CC := Lib.hid C
          have c0 : wr.cell? ⟨w.heap.size, 0, none⟩ = some (.int .i64 0) := cell_of hbk 0
          have c1 : wr.cell? ⟨w.heap.size, 1, none⟩ = some (.string ⟨#[]⟩) := cell_of hbk 1
          have f0 := frozen_of hbk 0
          have f1 := frozen_of hbk 1
          have BK2 : Hid (((wr.setCell ⟨w.heap.size, 0, none⟩ (.int .i64 2)).setCell ⟨w.heap.size, 1, none⟩ (.string ⟨#[]⟩)).heap[w.heap.size]? = some (.cells #[.int .i64 2, .string ⟨#[]⟩] 82)) := blk_set (blk_set hbk 0 _) 1 _
          have BK3 : Hid (((wr.setCell ⟨w.heap.size, 0, none⟩ (.int .i64 3)).setCell ⟨w.heap.size, 1, none⟩ (.string ⟨#[]⟩)).heap[w.heap.size]? = some (.cells #[.int .i64 3, .string ⟨#[]⟩] 82)) := blk_set (blk_set hbk 0 _) 1 _
          clear C hbk hb
          by_cases hn2 : m < 2
          · go_wp2_with fail
            refine CC.out.mono ?_
            rintro e w' ⟨rfl, rfl⟩
            go_wp2
            refine bodyPost_ret (results_cell_tmp (P := Tryz.prog) rfl _ _ w.heap.size 82 #[.int .i64 2, .string ⟨#[]⟩] (0, 0) _ _ (by rfl) (by rfl) BK2.out Tryz.underlying82 rfl (by kernel_rfl)) rfl ?_
            rw [HE.out]
            exact ⟨n, (by rw [show gapK (m, t.data.toList.drop n).1 = 2 from if_neg (by show ¬ 2 ≤ m; omega)]; rfl), Lib.hid rfl, hn, (HB.out.setCell (Nat.le_refl _) _).setCell (Nat.le_refl _) _⟩
          · go_wp2_with fail
            refine CC.out.mono ?_
            rintro e w' ⟨rfl, rfl⟩
            go_wp2
            refine bodyPost_ret (results_cell_tmp (P := Tryz.prog) rfl _ _ w.heap.size 82 #[.int .i64 3, .string ⟨#[]⟩] (0, 0) _ _ (by rfl) (by rfl) BK3.out Tryz.underlying82 rfl (by kernel_rfl)) rfl ?_
            rw [HE.out]
            exact ⟨n, (by rw [show gapK (m, t.data.toList.drop n).1 = 3 from if_pos (by show 2 ≤ m; omega)]; rfl), Lib.hid rfl, hn, (HB.out.setCell (Nat.le_refl _) _).setCell (Nat.le_refl _) _⟩
    · have i1 : ¬ (n : Int) < (t.size : Int) := by omega
      have HE := Lib.hid (show R = (m, t.data.toList.drop n) by rw [← HG.out, drop_end t n hlt]; cases r <;> rfl)
      have c0 : wr.cell? ⟨w.heap.size, 0, none⟩ = some (.int .i64 0) := cell_of hbk 0
      have c1 : wr.cell? ⟨w.heap.size, 1, none⟩ = some (.string ⟨#[]⟩) := cell_of hbk 1
      have f0 := frozen_of hbk 0
      have f1 := frozen_of hbk 1
      have BK2 : Hid (((wr.setCell ⟨w.heap.size, 0, none⟩ (.int .i64 2)).setCell ⟨w.heap.size, 1, none⟩ (.string ⟨#[]⟩)).heap[w.heap.size]? = some (.cells #[.int .i64 2, .string ⟨#[]⟩] 82)) := blk_set (blk_set hbk 0 _) 1 _
      have BK3 : Hid (((wr.setCell ⟨w.heap.size, 0, none⟩ (.int .i64 3)).setCell ⟨w.heap.size, 1, none⟩ (.string ⟨#[]⟩)).heap[w.heap.size]? = some (.cells #[.int .i64 3, .string ⟨#[]⟩] 82)) := blk_set (blk_set hbk 0 _) 1 _
      clear HG hbk hb
      by_cases hn2 : m < 2
      · go_wp2
        refine bodyPost_ret (results_cell_tmp (P := Tryz.prog) rfl _ _ w.heap.size 82 #[.int .i64 2, .string ⟨#[]⟩] (0, 0) _ _ (by rfl) (by rfl) BK2.out Tryz.underlying82 rfl (by kernel_rfl)) rfl ?_
        rw [HE.out]
        exact ⟨n, (by rw [show gapK (m, t.data.toList.drop n).1 = 2 from if_neg (by show ¬ 2 ≤ m; omega)]; rfl), Lib.hid rfl, hn, (HB.out.setCell (Nat.le_refl _) _).setCell (Nat.le_refl _) _⟩
      · go_wp2
        refine bodyPost_ret (results_cell_tmp (P := Tryz.prog) rfl _ _ w.heap.size 82 #[.int .i64 3, .string ⟨#[]⟩] (0, 0) _ _ (by rfl) (by rfl) BK3.out Tryz.underlying82 rfl (by kernel_rfl)) rfl ?_
        rw [HE.out]
        exact ⟨n, (by rw [show gapK (m, t.data.toList.drop n).1 = 3 from if_pos (by show 2 ≤ m; omega)]; rfl), Lib.hid rfl, hn, (HB.out.setCell (Nat.le_refl _) _).setCell (Nat.le_refl _) _⟩
end Go.Proofs.YtmnbepapgghdaaaGreat

namespace Go.Proofs.YtmnbepapgghdaaaGreat
open Go.RowKit

theorem lead_at {s : By} {n m : Nat} (ha : ((s.drop n).take (m - n)).all ltr = true) (hn : n ≤ m) (hs : hdB ltr (s.drop m) = false) : (s.drop n).takeWhile ltr = (s.drop n).take (m - n) ∧ (s.drop n).dropWhile ltr = s.drop m := by
  have e : s.drop m = (s.drop n).drop (m - n) := by rw [List.drop_drop]; congr 1; omega
  rw [e] at hs ⊢
  have h := take_ltr ha hs
  rw [List.take_append_drop] at h
  exact h
theorem ext_at (t : ByteArray) (a b : Nat) : (t.extract a b).data.toList = (t.data.toList.drop a).take (b - a) := by rw [ext_list, List.drop_take]
theorem two_readY (w : World) (o : Obj) (k : Int) (x : By) : Rd ((w.alloc o).alloc (.cells #[.int .i64 k, .string ⟨x.toArray⟩] 82)) (some ⟨w.heap.size + 1, 0, none⟩) [(k, x)] := by
  have e : (w.alloc o).heap.size = w.heap.size + 1 := by simp
  rw [← e]
  exact one_read (new_fst _ _ _ _) (new_snd _ _ _ _)
theorem drop_len (t : ByteArray) (n : Nat) : (t.data.toList.drop n).length = t.size - n := by rw [List.length_drop, size_list]
set_option maxRecDepth 100000 in
set_option maxHeartbeats 4000000 in
theorem rlex_any (t : ByteArray) (w : World) (hs : t.size ≤ 190000) :
    Calls Tryz.prog 21 #[.string t] w (Res 82 w (toks t.data.toList)) := by
  generalize hg : toks t.data.toList = R
  have HR := Lib.hid (show ([] : List Tok) ++ toks (t.data.toList.drop 0) = R by rw [List.drop_zero, hg]; rfl)
  clear hg
  have ho0 := own_empty 82 w
  have hb0 := one_below w (.cells #[] 82)
  go_enter Tryz.func21, Tryz.ntmps21
  go_wp2_with fail
  go_loopw [3, 4] (fun v3 v4 wr => ∃ (n : Nat) (A : Option Addr) (c : Nat) (xs : List Tok), v4 = .int .i64 n ∧ v3 = .slice A xs.length c ∧ n ≤ t.size ∧ xs.length ≤ n ∧ Hid (xs ++ toks (t.data.toList.drop n) = R) ∧ Own 82 wr w.heap.size A c xs ∧ Below w.heap.size w wr) (fun _ v4 _ => t.size - (intOf v4).toNat)
  case atStart => exact ⟨0, _, 0, [], rfl, rfl, Nat.zero_le _, by simp, HR, ho0, hb0⟩
  case round =>
    clear HR ho0 hb0
    obtain ⟨n, A, c, xs, rfl, rfl, hn, hxl, HG, hown, hb⟩ := hrel
    by_cases hlt : n < t.size
    · have C := rkind_any t n wr (by omega) hlt
      have i1 : (n : Int) < (t.size : Int) := by omega
      have hdl := drop_len t n
      have hne : hk (t.data.toList.drop n) ≠ 0 := fun e => by
        have := toks_zero e
        rw [this] at hdl; simp at hdl; omega
      unfold kdN at C
      obtain ⟨u, hu⟩ : ∃ u, t.data.toList.drop n = u := ⟨_, rfl⟩
      rw [hu] at C HG hdl hne
      rcases hk_ways u with h | h | h | h | h | h | h
      · exact absurd h hne
      · rw [h] at C
        obtain ⟨hT, hle⟩ := toks_k1 h
        have CT := fun W => rword_any t n W (by omega) hn
        rw [hu] at CT
        obtain ⟨k, hk0⟩ : ∃ k : Int, (1 : Int) = k := ⟨_, rfl⟩
        obtain ⟨x, hx⟩ : ∃ x : By, (wordG u).1 = x := ⟨_, rfl⟩
        obtain ⟨U, hU⟩ : ∃ U : By, (wordG u).2 = U := ⟨_, rfl⟩
        rw [hk0, hx, hU] at hT CT
        rw [hU, hdl] at hle
        obtain ⟨ys, hy⟩ : ∃ ys, xs ++ [(k, x)] = ys := ⟨_, rfl⟩
        have HN := Lib.hid (show ys ++ toks U = R by rw [← HG.out, hT, ← hy]; simp)
        have HYL := Lib.hid (show ys.length = xs.length + 1 by rw [← hy]; simp)
        have HY := Lib.hid hy
        have CC := Lib.hid C
        have CT2 := Lib.hid CT
        have HO := Lib.hid hown
        have hb1 := one_below wr (.cells #[.int .i64 1, .string ⟨#[]⟩] 82)
        have hbk1 := tok40_new wr (.int .i64 1) (.string ⟨#[]⟩)
        have HB1 := Lib.hid hb1
        have HBK := Lib.hid hbk1
        clear C CT hT hk0 hx hU h HG hown hb1 hbk1 hy hdl hu hne
        go_wp2_with fail
        refine CC.out.mono ?_
        rintro e w' ⟨rfl, rfl⟩
        go_wp2_with fail
        refine (CT2.out _).mono ?_
        rintro e w2 ⟨j, rfl, HJ, hj, hb2⟩
        have hbk2 := blk_below hb2 HBK.out
        have hw2 : Below wr.heap.size wr w2 := bch HB1.out hb2
        have c0 : w2.cell? ⟨wr.heap.size, 0, none⟩ = some (.int .i64 1) := cell_of hbk2 0
        have c1 : w2.cell? ⟨wr.heap.size, 1, none⟩ = some (.string ⟨#[]⟩) := cell_of hbk2 1
        have f0 := frozen_of hbk2 0
        have f1 := frozen_of hbk2 1
        have SB := stored_below hb hw2 k ⟨x.toArray⟩ (.cells #[.int .i64 k, .string ⟨x.toArray⟩] 82)
        have HO2 := Lib.hid (HO.out.below SB)
        have HB2 := Lib.hid (bch hb SB)
        have HJL := Lib.hid (show n < j by have := drop_len t j; rw [HJ.out] at this; omega)
        clear CC CT2 HO HB1 HBK hb2 hbk2 hw2 SB
        go_wp2_with (at_builtin; refine wpList_append_rdn40 _ rfl _ _ rfl w.heap.size _ xs rfl HO2.out (some ⟨w2.heap.size, 0, none⟩) 1 1 [(k, x)] rfl (by first | rfl | simp) (stored_read _ _ _ _ _ k x 82) (by show xs.length + 1 ≤ _; omega) HB2.out.size ys HY.out ?_; intro N2 nc2 w3 hown2 hb3)
        have hb4 := HB2.out.trans hb3
        have hjl := HJL.out
        clear HO2 HB2 hb3
        go_roundw
        case rel => exact ⟨j, N2, nc2, ys, rfl, rfl, hj, by have := HYL.out; omega, Lib.hid (by rw [HJ.out]; exact HN.out), hown2, hb4⟩
        case measure => simp [intOf]; omega
      · rw [h] at C
        obtain ⟨hT, hle⟩ := toks_k2 h
        have CT := fun W => rgap_any t n W (by omega) hn
        rw [hu] at CT
        obtain ⟨k, hk0⟩ : ∃ k : Int, gapK (gapG false 0 u).1 = k := ⟨_, rfl⟩
        obtain ⟨x, hx⟩ : ∃ x : By, ([] : By) = x := ⟨_, rfl⟩
        obtain ⟨U, hU⟩ : ∃ U : By, (gapG false 0 u).2 = U := ⟨_, rfl⟩
        rw [hk0, hx, hU] at hT CT
        rw [hU, hdl] at hle
        obtain ⟨ys, hy⟩ : ∃ ys, xs ++ [(k, x)] = ys := ⟨_, rfl⟩
        have HN := Lib.hid (show ys ++ toks U = R by rw [← HG.out, hT, ← hy]; simp)
        have HYL := Lib.hid (show ys.length = xs.length + 1 by rw [← hy]; simp)
        have HY := Lib.hid hy
        have CC := Lib.hid C
        have CT2 := Lib.hid CT
        have HO := Lib.hid hown
        have hb1 := one_below wr (.cells #[.int .i64 2, .string ⟨#[]⟩] 82)
        have hbk1 := tok40_new wr (.int .i64 2) (.string ⟨#[]⟩)
        have HB1 := Lib.hid hb1
        have HBK := Lib.hid hbk1
        clear C CT hT hk0 hx hU h HG hown hb1 hbk1 hy hdl hu hne
        go_wp2_with fail
        refine CC.out.mono ?_
        rintro e w' ⟨rfl, rfl⟩
        go_wp2_with fail
        refine (CT2.out _).mono ?_
        rintro e w2 ⟨j, rfl, HJ, hj, hb2⟩
        have hbk2 := blk_below hb2 HBK.out
        have hw2 : Below wr.heap.size wr w2 := bch HB1.out hb2
        have c0 : w2.cell? ⟨wr.heap.size, 0, none⟩ = some (.int .i64 2) := cell_of hbk2 0
        have c1 : w2.cell? ⟨wr.heap.size, 1, none⟩ = some (.string ⟨#[]⟩) := cell_of hbk2 1
        have f0 := frozen_of hbk2 0
        have f1 := frozen_of hbk2 1
        have SB := stored_below hb hw2 k ⟨x.toArray⟩ (.cells #[.int .i64 k, .string ⟨x.toArray⟩] 82)
        have HO2 := Lib.hid (HO.out.below SB)
        have HB2 := Lib.hid (bch hb SB)
        have HJL := Lib.hid (show n < j by have := drop_len t j; rw [HJ.out] at this; omega)
        clear CC CT2 HO HB1 HBK hb2 hbk2 hw2 SB
        go_wp2_with (at_builtin; refine wpList_append_rdn40 _ rfl _ _ rfl w.heap.size _ xs rfl HO2.out (some ⟨w2.heap.size, 0, none⟩) 1 1 [(k, x)] rfl (by first | rfl | simp) (stored_read _ _ _ _ _ k x 82) (by show xs.length + 1 ≤ _; omega) HB2.out.size ys HY.out ?_; intro N2 nc2 w3 hown2 hb3)
        have hb4 := HB2.out.trans hb3
        have hjl := HJL.out
        clear HO2 HB2 hb3
        go_roundw
        case rel => exact ⟨j, N2, nc2, ys, rfl, rfl, hj, by have := HYL.out; omega, Lib.hid (by rw [HJ.out]; exact HN.out), hown2, hb4⟩
        case measure => simp [intOf]; omega
      · rw [h] at C
        have HT := Lib.hid (toks_k4 h).1
        have HU := Lib.hid hu
        have CC := Lib.hid C
        have HBB := Lib.hid (And.intro hown hb)
        clear C h hdl hu hne hown hb
        go_wp2_with fail
        refine CC.out.mono ?_
        rintro e w' ⟨rfl, rfl⟩
        go_wp2_with fail
        go_loop [7] (fun v7 => ∃ m : Nat, v7 = .int .i64 m ∧ n + 1 ≤ m ∧ m ≤ t.size ∧ Hid (((t.data.toList.drop (n + 1)).take (m - (n + 1))).all ltr = true)) (fun v7 => t.size - (intOf v7).toNat)
        case atStart => exact ⟨n + 1, by go_num, Nat.le_refl _, by omega, Lib.hid (by rw [Nat.sub_self]; rfl)⟩
        case round =>
          obtain ⟨m, rfl, hm1, hm2, HA⟩ := hrel
          by_cases hml : m < t.size
          · have hld := hd_yes ltr t m hml
            rw [ltr_int] at hld
            obtain ⟨z, hz⟩ : ∃ z : Int, (t[m].toNat : Int) = z := ⟨_, rfl⟩
            rw [hz] at hld
            have CL := Lib.hid (fun w => rletter_any z w)
            rw [← hld] at CL
            have i2 : (m : Int) < (t.size : Int) := by omega
            cases hv : hdB ltr (t.data.toList.drop m)
            · rw [hv] at CL
              have HD := Lib.hid hv
              obtain ⟨hown, hb⟩ := HBB.out
              obtain ⟨X, hX⟩ : ∃ X : By, t.extract (n + 1) m = ⟨X.toArray⟩ := ⟨_, rfl⟩
              have hx : (u.drop 1).takeWhile ltr = X ∧ (u.drop 1).dropWhile ltr = t.data.toList.drop m := by
                have e := ext_at t (n + 1) m
                rw [hX] at e
                have h2 := lead_at HA.out hm1 HD.out
                rw [← HU.out, List.drop_drop]
                exact ⟨h2.1.trans e.symm, h2.2⟩
              obtain ⟨ys, hy⟩ : ∃ ys, xs ++ [(4, X)] = ys := ⟨_, rfl⟩
              have HN := Lib.hid (show ys ++ toks (t.data.toList.drop m) = R by rw [← HG.out, HT.out, ← hy, hx.1, hx.2]; simp)
              have HYL := Lib.hid (show ys.length = xs.length + 1 by rw [← hy]; simp)
              have HY := Lib.hid hy
              have SB2 := two_below wr (.cells #[.int .i64 4, .string ⟨(X : By).toArray⟩] 82) (.cells #[.int .i64 4, .string ⟨(X : By).toArray⟩] 82)
              have HO2 := Lib.hid (hown.below SB2)
              have HB2 := Lib.hid (bch hb SB2)
              clear hx hy SB2 hown hb hv hld HA HD HBB HT HU HG
              have i3 : (n : Int) + 1 ≤ (m : Int) := by omega
              go_wp2_with fail
              refine (CL.out _).mono ?_
              rintro e w' ⟨rfl, rfl⟩
              go_wp2_with (at_builtin; refine wpList_append_rdn40 _ rfl _ _ rfl w.heap.size _ xs rfl HO2.out (some ⟨wr.heap.size + 1, 0, none⟩) 1 1 [(4, X)] rfl (by first | rfl | simp) (two_readY wr _ 4 X) (by show xs.length + 1 ≤ _; omega) HB2.out.size ys HY.out ?_; intro N2 nc2 w3 hown2 hb3)
              have hb4 := HB2.out.trans hb3
              clear HO2 HB2 hb3
              go_roundw
              case rel => exact ⟨m, N2, nc2, ys, by go_num, rfl, by omega, by have := HYL.out; omega, HN, hown2, hb4⟩
              case measure => simp [intOf]; omega
            · rw [hv] at CL
              have HN := Lib.hid (show ((t.data.toList.drop (n + 1)).take (m + 1 - (n + 1))).all ltr = true by
                have e1 := drop_at t m hml
                rw [show m + 1 - (n + 1) = (m - (n + 1)) + 1 by omega, List.take_add_one, List.all_append, HA.out, List.getElem?_drop, show n + 1 + (m - (n + 1)) = m by omega]
                have e2 : t.data.toList[m]? = some t[m] := List.getElem?_eq_getElem (by rw [size_list]; exact hml)
                rw [e2]
                have e3 : ltr t[m] = true := by rw [← hd_yes ltr t m hml]; exact hv
                simp [e3])
              clear hv hld HA
              go_wp2_with fail
              refine (CL.out _).mono ?_
              rintro e w' ⟨rfl, rfl⟩
              go_wp2
              go_round
              case rel => exact ⟨m + 1, by go_num, by omega, by omega, HN⟩
              case measure => simp [intOf]; omega
          · have HD := Lib.hid (hd_no ltr t m hml)
            have i2 : ¬ (m : Int) < (t.size : Int) := by omega
            obtain ⟨hown, hb⟩ := HBB.out
            obtain ⟨X, hX⟩ : ∃ X : By, t.extract (n + 1) m = ⟨X.toArray⟩ := ⟨_, rfl⟩
            have hx : (u.drop 1).takeWhile ltr = X ∧ (u.drop 1).dropWhile ltr = t.data.toList.drop m := by
              have e := ext_at t (n + 1) m
              rw [hX] at e
              have h2 := lead_at HA.out hm1 HD.out
              rw [← HU.out, List.drop_drop]
              exact ⟨h2.1.trans e.symm, h2.2⟩
            obtain ⟨ys, hy⟩ : ∃ ys, xs ++ [(4, X)] = ys := ⟨_, rfl⟩
            have HN := Lib.hid (show ys ++ toks (t.data.toList.drop m) = R by rw [← HG.out, HT.out, ← hy, hx.1, hx.2]; simp)
            have HYL := Lib.hid (show ys.length = xs.length + 1 by rw [← hy]; simp)
            have HY := Lib.hid hy
            have SB2 := two_below wr (.cells #[.int .i64 4, .string ⟨(X : By).toArray⟩] 82) (.cells #[.int .i64 4, .string ⟨(X : By).toArray⟩] 82)
            have HO2 := Lib.hid (hown.below SB2)
            have HB2 := Lib.hid (bch hb SB2)
            clear hx hy SB2 hown hb HA HD HBB HT HU HG
            have i3 : (n : Int) + 1 ≤ (m : Int) := by omega
            go_wp2_with (at_builtin; refine wpList_append_rdn40 _ rfl _ _ rfl w.heap.size _ xs rfl HO2.out (some ⟨wr.heap.size + 1, 0, none⟩) 1 1 [(4, X)] rfl (by first | rfl | simp) (two_readY wr _ 4 X) (by show xs.length + 1 ≤ _; omega) HB2.out.size ys HY.out ?_; intro N2 nc2 w3 hown2 hb3)
            have hb4 := HB2.out.trans hb3
            clear HO2 HB2 hb3
            go_roundw
            case rel => exact ⟨m, N2, nc2, ys, by go_num, rfl, by omega, by have := HYL.out; omega, HN, hown2, hb4⟩
            case measure => simp [intOf]; omega
      · rw [h] at C
        have hT := toks_k5 h (.inl rfl)
        obtain ⟨ys, hy⟩ : ∃ ys, xs ++ [(5, ([] : By))] = ys := ⟨_, rfl⟩
        have HN := Lib.hid (show ys ++ toks (t.data.toList.drop (n + 1)) = R by
          rw [← HG.out, hT, ← hy, ← hu, List.drop_drop]; simp)
        have HYL := Lib.hid (show ys.length = xs.length + 1 by rw [← hy]; simp)
        have HY := Lib.hid hy
        have SB2 := two_below wr (.cells #[.int .i64 5, .string ⟨([] : By).toArray⟩] 82) (.cells #[.int .i64 5, .string ⟨([] : By).toArray⟩] 82)
        have HO2 := Lib.hid (hown.below SB2)
        have HB2 := Lib.hid (bch hb SB2)
        have CC := Lib.hid C
        clear C hT h HG hown hb hy SB2 hdl hu hne
        go_wp2_with fail
        refine CC.out.mono ?_
        rintro e w' ⟨rfl, rfl⟩
        go_wp2_with (at_builtin; refine wpList_append_rdn40 _ rfl _ _ rfl w.heap.size _ xs rfl HO2.out (some ⟨wr.heap.size + 1, 0, none⟩) 1 1 [(5, ([] : By))] rfl (by first | rfl | simp) (two_readY wr _ 5 ([] : By)) (by show xs.length + 1 ≤ _; omega) HB2.out.size ys HY.out ?_; intro N2 nc2 w3 hown2 hb3)
        have hb4 := HB2.out.trans hb3
        clear HO2 HB2 hb3
        go_roundw
        case rel => exact ⟨n + 1, N2, nc2, ys, by go_num, rfl, by omega, by have := HYL.out; omega, HN, hown2, hb4⟩
        case measure => simp [intOf]; omega
      · rw [h] at C
        have hT := toks_k5 h (.inr rfl)
        obtain ⟨ys, hy⟩ : ∃ ys, xs ++ [(6, ([] : By))] = ys := ⟨_, rfl⟩
        have HN := Lib.hid (show ys ++ toks (t.data.toList.drop (n + 1)) = R by
          rw [← HG.out, hT, ← hy, ← hu, List.drop_drop]; simp)
        have HYL := Lib.hid (show ys.length = xs.length + 1 by rw [← hy]; simp)
        have HY := Lib.hid hy
        have SB2 := two_below wr (.cells #[.int .i64 6, .string ⟨([] : By).toArray⟩] 82) (.cells #[.int .i64 6, .string ⟨([] : By).toArray⟩] 82)
        have HO2 := Lib.hid (hown.below SB2)
        have HB2 := Lib.hid (bch hb SB2)
        have CC := Lib.hid C
        clear C hT h HG hown hb hy SB2 hdl hu hne
        go_wp2_with fail
        refine CC.out.mono ?_
        rintro e w' ⟨rfl, rfl⟩
        go_wp2_with (at_builtin; refine wpList_append_rdn40 _ rfl _ _ rfl w.heap.size _ xs rfl HO2.out (some ⟨wr.heap.size + 1, 0, none⟩) 1 1 [(6, ([] : By))] rfl (by first | rfl | simp) (two_readY wr _ 6 ([] : By)) (by show xs.length + 1 ≤ _; omega) HB2.out.size ys HY.out ?_; intro N2 nc2 w3 hown2 hb3)
        have hb4 := HB2.out.trans hb3
        clear HO2 HB2 hb3
        go_roundw
        case rel => exact ⟨n + 1, N2, nc2, ys, by go_num, rfl, by omega, by have := HYL.out; omega, HN, hown2, hb4⟩
        case measure => simp [intOf]; omega
      · rw [h] at C
        obtain ⟨hT, hl2⟩ := toks_k7 h
        rw [hdl] at hl2
        obtain ⟨X, hX⟩ : ∃ X : By, t.extract (n + 1) (n + 2) = ⟨X.toArray⟩ := ⟨_, rfl⟩
        have hx : (u.drop 1).take 1 = X := by
          have := ext_at t (n + 1) (n + 2)
          rw [hX] at this
          rw [← hu, List.drop_drop, show n + 2 - (n + 1) = 1 by omega] at *
          exact this.symm
        rw [hx] at hT
        obtain ⟨ys, hy⟩ : ∃ ys, xs ++ [(7, X)] = ys := ⟨_, rfl⟩
        have HN := Lib.hid (show ys ++ toks (t.data.toList.drop (n + 2)) = R by
          rw [← HG.out, hT, ← hy, ← hu, List.drop_drop]; simp)
        have HYL := Lib.hid (show ys.length = xs.length + 1 by rw [← hy]; simp)
        have HY := Lib.hid hy
        have SB2 := two_below wr (.cells #[.int .i64 7, .string ⟨(X : By).toArray⟩] 82) (.cells #[.int .i64 7, .string ⟨(X : By).toArray⟩] 82)
        have HO2 := Lib.hid (hown.below SB2)
        have HB2 := Lib.hid (bch hb SB2)
        have CC := Lib.hid C
        have i2 : (n : Int) + 2 ≤ (t.size : Int) := by omega
        clear C hT h HG hown hb hy SB2 hdl hu hne hx
        go_wp2_with fail
        refine CC.out.mono ?_
        rintro e w' ⟨rfl, rfl⟩
        go_wp2_with (at_builtin; refine wpList_append_rdn40 _ rfl _ _ rfl w.heap.size _ xs rfl HO2.out (some ⟨wr.heap.size + 1, 0, none⟩) 1 1 [(7, X)] rfl (by first | rfl | simp) (two_readY wr _ 7 X) (by show xs.length + 1 ≤ _; omega) HB2.out.size ys HY.out ?_; intro N2 nc2 w3 hown2 hb3)
        have hb4 := HB2.out.trans hb3
        clear HO2 HB2 hb3
        go_roundw
        case rel => exact ⟨n + 2, N2, nc2, ys, by go_num, rfl, by omega, by have := HYL.out; omega, HN, hown2, hb4⟩
        case measure => simp [intOf]; omega
    · have HE := Lib.hid (show R = xs by rw [← HG.out, drop_end t n hlt]; simp [toks_nil])
      have HO := Lib.hid hown
      have i1 : ¬ (n : Int) < (t.size : Int) := by omega
      clear HG hown
      go_wp2
      go_ret
      rw [HE.out]
      exact ⟨A, c, rfl, HO.out, hb⟩
end Go.Proofs.YtmnbepapgghdaaaGreat

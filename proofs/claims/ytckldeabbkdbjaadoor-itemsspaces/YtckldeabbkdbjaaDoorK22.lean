/-
  The walk of LexBlanks: for every input it returns true; old memory stays.
  Contracts of the document's own answers: word, gap.
-/
import Derived.Test.YtckldeabbkdbjaaDoorK05
namespace Go.Proofs.YtckldeabbkdbjaaDoor
open Go.RowKit

theorem str_appQ {a b r : By} (h : a ++ b = r) : Value.string (({ data := a.toArray } : ByteArray) ++ { data := b.toArray }) = Value.string { data := r.toArray } := by
  subst h; congr 1
theorem one_byteQ (t : ByteArray) (k : Nat) (h : k < t.size) : t.extract k (k + 1) = ⟨([t[k]] : By).toArray⟩ := by
  apply str_of
  rw [ext_list, take_step t k h, List.drop_append, List.length_take, size_list]
  rw [List.drop_of_length_le (by rw [List.length_take]; omega), show k - min k t.size = 0 by omega]
  rfl
theorem tabs_app (k : Nat) (a b : By) : tabs k (a ++ b) = tabs k a ++ tabs k b := by simp [tabs]
theorem tabs_one9 (k : Nat) : tabs k [9] = List.replicate (k + 1) 32 := by simp [tabs, sp]
theorem tabs_one {c : UInt8} (k : Nat) (h : c ≠ 9) : tabs k [c] = [c] := by simp [tabs, sp, h]
end Go.Proofs.YtckldeabbkdbjaaDoor

namespace Go.Proofs.YtckldeabbkdbjaaDoor
open Go.RowKit

/-- A token, and the place behind it; old memory stays. -/
def RTok (w : World) (t : ByteArray) (k : Int) (x u : By) (e : Ending) (w' : World) : Prop := ∃ j : Nat, e = .returned (.tuple #[.agg #[.int .i64 k, .string ⟨x.toArray⟩], .int .i64 j]) ∧ Hid (t.data.toList.drop j = u) ∧ j ≤ t.size ∧ Below w.heap.size w w'
theorem word_at {t : ByteArray} {n : Nat} {l : By} {R : By × By} (hn : n < t.size) (h : (l ++ (wordG (t.data.toList.drop n)).1, (wordG (t.data.toList.drop n)).2) = R) (h1 : kdN t n = 1) :
    (∃ h2 : n + 1 < t.size, (t[n].toNat : Int) = 92 ∧ ((l ++ [t[n + 1]]) ++ (wordG (t.data.toList.drop (n + 2))).1, (wordG (t.data.toList.drop (n + 2))).2) = R) ∨ (((t[n].toNat : Int) == 92) = false ∨ (t[n].toNat : Int) = 92 ∧ ¬ n + 1 < t.size) ∧ ((l ++ [t[n]]) ++ (wordG (t.data.toList.drop (n + 1))).1, (wordG (t.data.toList.drop (n + 1))).2) = R := by
  unfold kdN at h1
  have hd := drop_at t n hn
  rw [hd] at h h1
  have hk1 : kd t[n] (t.data.toList.drop (n + 1)) = 1 := h1
  by_cases hc : t[n] = 92
  · have hx : (t[n].toNat : Int) = 92 := by rw [hc]; rfl
    by_cases h2 : n + 1 < t.size
    · left
      refine ⟨h2, hx, ?_⟩
      have hd1 := drop_at t (n + 1) h2
      rw [hd1] at h hk1
      rw [wordG_two, if_pos hk1, if_pos hc] at h
      rw [← h, List.append_assoc]; rfl
    · right
      refine ⟨.inr ⟨hx, h2⟩, ?_⟩
      have hd1 := drop_end t (n + 1) h2
      rw [hd1] at h hk1 ⊢
      rw [wordG_one, if_pos hk1] at h
      rw [← h]; simp [wordG]
  · right
    refine ⟨.inl ?_, ?_⟩
    · rw [beq_eq_false_iff_ne]; intro q; exact hc (byte_lit (n := 92) q)
    · rw [word_step hc hk1] at h
      rw [← h, List.append_assoc]; rfl
theorem word_off {u l : By} {R : By × By} (h : (l ++ (wordG u).1, (wordG u).2) = R) (h1 : hk u ≠ 1) : R = (l, u) := by
  rw [word_none h1] at h; rw [← h]; simp
theorem tok40_new (w : World) (a b : Value) : (w.alloc (.cells #[a, b] 65)).heap[w.heap.size]? = some (.cells #[a, b] 65) := heap_alloc_new w _
set_option maxRecDepth 100000 in
set_option maxHeartbeats 2000000 in
theorem rword_any (t : ByteArray) (i : Nat) (w : World) (hs : t.size ≤ 190000) (hi : i ≤ t.size) :
    Calls Tryd.prog 42 #[.string t, .int .i64 i] w (RTok w t 1 (wordG (t.data.toList.drop i)).1 (wordG (t.data.toList.drop i)).2) := by
  generalize hg : wordG (t.data.toList.drop i) = R
  have HR := Lib.hid (show (([] : By) ++ (wordG (t.data.toList.drop i)).1, (wordG (t.data.toList.drop i)).2) = R by rw [hg]; rfl)
  clear hg
  have hb0 := one_below w (.cells #[.int .i64 0, .string ⟨#[]⟩] 65)
  have hn0 := tok40_new w (.int .i64 0) (.string ⟨#[]⟩)
  go_enter Tryd.func42, Tryd.ntmps42
  go_wp2_with fail
  go_loopw [1, 6] (fun v1 v6 wr => ∃ (n : Nat) (l : By), v1 = .int .i64 n ∧ v6 = .string ⟨l.toArray⟩ ∧ n ≤ t.size ∧ l.length ≤ n ∧ Hid ((l ++ (wordG (t.data.toList.drop n)).1, (wordG (t.data.toList.drop n)).2) = R) ∧ Below w.heap.size w wr ∧ wr.heap[w.heap.size]? = some (.cells #[.int .i64 0, .string ⟨#[]⟩] 65)) (fun v1 _ _ => t.size - (intOf v1).toNat)
  case atStart => exact ⟨i, [], rfl, rfl, hi, by simp, HR, hb0, hn0⟩
  case round =>
    clear hb0 hn0 HR
    obtain ⟨n, l, rfl, rfl, hn, hll, HG, hb, hbk⟩ := hrel
    by_cases hlt : n < t.size
    · have C := rkind_any t n wr (by omega) hlt
      have i1 : (n : Int) < (t.size : Int) := by omega
      by_cases h1 : kdN t n = 1
      · rw [h1] at C
        have hw := word_at hlt HG.out h1
        have CC := Lib.hid C
        have HBK := Lib.hid hbk
        clear C h1 HG hbk
        rcases hw with ⟨h2, hx, h3⟩ | ⟨hx, h3⟩
        · have hone := one_byteQ t (n + 1) h2
          obtain ⟨l2, hl2⟩ : ∃ l2, l ++ [t[n + 1]] = l2 := ⟨_, rfl⟩
          rw [hl2] at h3
          have HS := Lib.hid (str_appQ hl2)
          have hl2l : l2.length = l.length + 1 := by rw [← hl2]; simp
          have H3 := Lib.hid h3
          have i2 : (n : Int) + 1 < (t.size : Int) := by omega
          generalize t[n + 1] = c at *
          clear h3 hl2
          go_wp2_with fail
          refine CC.out.mono ?_
          rintro e w' ⟨rfl, rfl⟩
          go_wp2
          go_roundw
          case rel => exact ⟨n + 2, l2, by go_num, HS.out, by omega, by omega, H3, hb, HBK.out⟩
          case measure => simp [intOf]; omega
        · have hone := one_byteQ t n hlt
          obtain ⟨l2, hl2⟩ : ∃ l2, l ++ [t[n]] = l2 := ⟨_, rfl⟩
          rw [hl2] at h3
          have HS := Lib.hid (str_appQ hl2)
          have hl2l : l2.length = l.length + 1 := by rw [← hl2]; simp
          have H3 := Lib.hid h3
          obtain ⟨y, hy⟩ : ∃ y : Int, (t[n].toNat : Int) = y := ⟨_, rfl⟩
          rw [hy] at hx
          clear h3 hl2
          rcases hx with hx | ⟨rfl, h2⟩
          · go_wp2_with fail
            refine CC.out.mono ?_
            rintro e w' ⟨rfl, rfl⟩
            go_wp2
            go_roundw
            case rel => exact ⟨n + 1, l2, by go_num, HS.out, by omega, by omega, H3, hb, HBK.out⟩
            case measure => simp [intOf]; omega
          · have i2 : ¬ (n : Int) + 1 < (t.size : Int) := by omega
            go_wp2_with fail
            refine CC.out.mono ?_
            rintro e w' ⟨rfl, rfl⟩
            go_wp2
            go_roundw
            case rel => exact ⟨n + 1, l2, by go_num, HS.out, by omega, by omega, H3, hb, HBK.out⟩
            case measure => simp [intOf]; omega
      · have q2 : (kdN t n == 1) = false := by simpa using h1
        have HE := Lib.hid (word_off HG.out h1)
        clear h1 HG
        generalize kdN t n = V at *
        have CC := Lib.hid C
        have c0 : wr.cell? ⟨w.heap.size, 0, none⟩ = some (.int .i64 0) := cell_of hbk 0
        have c1 : wr.cell? ⟨w.heap.size, 1, none⟩ = some (.string ⟨#[]⟩) := cell_of hbk 1
        have f0 := frozen_of hbk 0
        have f1 := frozen_of hbk 1
        have BK2 : Hid (((wr.setCell ⟨w.heap.size, 0, none⟩ (.int .i64 1)).setCell ⟨w.heap.size, 1, none⟩ (.string ⟨l.toArray⟩)).heap[w.heap.size]? = some (.cells #[.int .i64 1, .string ⟨l.toArray⟩] 65)) := blk_set (blk_set hbk 0 _) 1 _
        have HB := Lib.hid hb
        clear C hbk hb
        go_wp2_with fail
        refine CC.out.mono ?_
        rintro e w' ⟨rfl, rfl⟩
        go_wp2
        refine bodyPost_ret (results_cell_tmp (P := Tryd.prog) rfl _ _ w.heap.size 65 #[.int .i64 1, .string ⟨l.toArray⟩] (0, 0) _ _ (by rfl) (by rfl) BK2.out Tryd.underlying65 rfl (by kernel_rfl)) rfl ?_
        rw [HE.out]
        exact ⟨n, rfl, Lib.hid rfl, hn, (HB.out.setCell (Nat.le_refl _) _).setCell (Nat.le_refl _) _⟩
    · have HE := Lib.hid (word_off HG.out (by rw [drop_end t n hlt]; decide))
      have i1 : ¬ (n : Int) < (t.size : Int) := by omega
      have c0 : wr.cell? ⟨w.heap.size, 0, none⟩ = some (.int .i64 0) := cell_of hbk 0
      have c1 : wr.cell? ⟨w.heap.size, 1, none⟩ = some (.string ⟨#[]⟩) := cell_of hbk 1
      have f0 := frozen_of hbk 0
      have f1 := frozen_of hbk 1
      have BK2 : Hid (((wr.setCell ⟨w.heap.size, 0, none⟩ (.int .i64 1)).setCell ⟨w.heap.size, 1, none⟩ (.string ⟨l.toArray⟩)).heap[w.heap.size]? = some (.cells #[.int .i64 1, .string ⟨l.toArray⟩] 65)) := blk_set (blk_set hbk 0 _) 1 _
      have HB := Lib.hid hb
      clear HG hbk hb
      go_wp2
      refine bodyPost_ret (results_cell_tmp (P := Tryd.prog) rfl _ _ w.heap.size 65 #[.int .i64 1, .string ⟨l.toArray⟩] (0, 0) _ _ (by rfl) (by rfl) BK2.out Tryd.underlying65 rfl (by kernel_rfl)) rfl ?_
      rw [HE.out]
      exact ⟨n, rfl, Lib.hid rfl, hn, (HB.out.setCell (Nat.le_refl _) _).setCell (Nat.le_refl _) _⟩
theorem gap_at_rem {t : ByteArray} {n m : Nat} {R : Nat × By} (hn : n < t.size) (h : gapG true m (t.data.toList.drop n) = R) :
    ((t[n].toNat : Int) = 10 ∧ gapG false m (t.data.toList.drop (n + 1)) = R) ∨ (((t[n].toNat : Int) == 10) = false ∧ gapG true m (t.data.toList.drop (n + 1)) = R) := by
  rw [drop_at t n hn] at h
  by_cases hc : t[n] = 10
  · exact .inl ⟨by rw [hc]; rfl, by rw [← h]; simp [gapG, hc]⟩
  · refine .inr ⟨?_, by rw [← h]; simp [gapG, hc]⟩
    rw [beq_eq_false_iff_ne]; intro q; exact hc (byte_lit (n := 10) q)
theorem gap_at {t : ByteArray} {n m : Nat} {R : Nat × By} (hn : n < t.size) (h : gapG false m (t.data.toList.drop n) = R) (h2 : kdN t n = 2) :
    ((t[n].toNat : Int) = 37 ∧ gapG true m (t.data.toList.drop (n + 1)) = R) ∨ ((t[n].toNat : Int) = 10 ∧ gapG false (m + 1) (t.data.toList.drop (n + 1)) = R) ∨ (((t[n].toNat : Int) == 37) = false ∧ ((t[n].toNat : Int) == 10) = false ∧ gapG false m (t.data.toList.drop (n + 1)) = R) := by
  unfold kdN at h2
  rw [drop_at t n hn] at h h2
  have hk2 : kd t[n] (t.data.toList.drop (n + 1)) = 2 := h2
  rcases kd_blank hk2 with e | e | ⟨e1, e2, e3⟩
  · exact .inl ⟨by rw [e]; rfl, by rw [← h]; simp [gapG, e]⟩
  · exact .inr (.inl ⟨by rw [e]; rfl, by rw [← h]; simp [gapG, e]⟩)
  · refine .inr (.inr ⟨?_, ?_, by rw [← h]; simp [gapG, e1, e2, e3]⟩)
    · rw [beq_eq_false_iff_ne]; intro q; exact e1 (byte_lit (n := 37) q)
    · rw [beq_eq_false_iff_ne]; intro q; exact e2 (byte_lit (n := 10) q)
set_option maxRecDepth 100000 in
set_option maxHeartbeats 4000000 in
theorem rgap_any (t : ByteArray) (i : Nat) (w : World) (hs : t.size ≤ 190000) (hi : i ≤ t.size) :
    Calls Tryd.prog 43 #[.string t, .int .i64 i] w (RTok w t (gapK (gapG false 0 (t.data.toList.drop i)).1) [] (gapG false 0 (t.data.toList.drop i)).2) := by
  generalize hg : gapG false 0 (t.data.toList.drop i) = R
  have HR := Lib.hid hg
  clear hg
  have hb0 := one_below w (.cells #[.int .i64 0, .string ⟨#[]⟩] 65)
  have hn0 := tok40_new w (.int .i64 0) (.string ⟨#[]⟩)
  go_enter Tryd.func43, Tryd.ntmps43
  go_wp2_with fail
  go_loopw [1, 6, 7] (fun v1 v6 v7 wr => ∃ (n m : Nat) (r : Bool), v1 = .int .i64 n ∧ v6 = .int .i64 m ∧ v7 = .bool r ∧ n ≤ t.size ∧ m ≤ n ∧ Hid (gapG r m (t.data.toList.drop n) = R) ∧ Below w.heap.size w wr ∧ wr.heap[w.heap.size]? = some (.cells #[.int .i64 0, .string ⟨#[]⟩] 65)) (fun v1 _ _ _ => t.size - (intOf v1).toNat)
  case atStart => exact ⟨i, 0, false, rfl, rfl, rfl, hi, Nat.zero_le _, HR, hb0, hn0⟩
  case round =>
    clear hb0 hn0 HR
    obtain ⟨n, m, r, rfl, rfl, rfl, hn, hmn, HG, hb, hbk⟩ := hrel
    have HB := Lib.hid hb
    by_cases hlt : n < t.size
    · have i1 : (n : Int) < (t.size : Int) := by omega
      cases r with
      | true =>
        have HBK := Lib.hid hbk
        rcases gap_at_rem hlt HG.out with ⟨hx, h3⟩ | ⟨hx, h3⟩
        · have H3 := Lib.hid h3
          clear h3 hb hbk HG
          go_wp2
          go_roundw
          case rel => exact ⟨n + 1, m, false, by go_num, rfl, rfl, by omega, by omega, H3, HB.out, HBK.out⟩
          case measure => simp [intOf]; omega
        · have H3 := Lib.hid h3
          obtain ⟨y, hy⟩ : ∃ y : Int, (t[n].toNat : Int) = y := ⟨_, rfl⟩
          rw [hy] at hx
          clear h3 hb hbk HG
          cases h37 : (y == 37) <;> (
            go_wp2
            go_roundw
            case rel => exact ⟨n + 1, m, true, by go_num, rfl, rfl, by omega, by omega, H3, HB.out, HBK.out⟩
            case measure => simp [intOf]; omega)
      | false =>
        have C := rkind_any t n wr (by omega) hlt
        by_cases h2 : kdN t n = 2
        · rw [h2] at C
          have CC := Lib.hid C
          have HBK := Lib.hid hbk
          have hw := gap_at hlt HG.out h2
          clear C h2 HG hb hbk
          rcases hw with ⟨hx, h3⟩ | ⟨hx, h3⟩ | ⟨hx, hx2, h3⟩
          · have H3 := Lib.hid h3
            clear h3
            go_wp2_with fail
            refine CC.out.mono ?_
            rintro e w' ⟨rfl, rfl⟩
            go_wp2
            go_roundw
            case rel => exact ⟨n + 1, m, true, by go_num, rfl, rfl, by omega, by omega, H3, HB.out, HBK.out⟩
            case measure => simp [intOf]; omega
          · have H3 := Lib.hid h3
            clear h3
            go_wp2_with fail
            refine CC.out.mono ?_
            rintro e w' ⟨rfl, rfl⟩
            go_wp2
            go_roundw
            case rel => exact ⟨n + 1, m + 1, false, by go_num, by go_num, rfl, by omega, by omega, H3, HB.out, HBK.out⟩
            case measure => simp [intOf]; omega
          · have H3 := Lib.hid h3
            obtain ⟨y, hy⟩ : ∃ y : Int, (t[n].toNat : Int) = y := ⟨_, rfl⟩
            rw [hy] at hx hx2
            clear h3
            go_wp2_with fail
            refine CC.out.mono ?_
            rintro e w' ⟨rfl, rfl⟩
            go_wp2
            go_roundw
            case rel => exact ⟨n + 1, m, false, by go_num, rfl, rfl, by omega, by omega, H3, HB.out, HBK.out⟩
            case measure => simp [intOf]; omega
        · have q2 : (kdN t n == 2) = false := by simpa using h2
          have HE := Lib.hid (show R = (m, t.data.toList.drop n) by rw [← HG.out]; exact gap_none h2 m)
          clear h2 HG
          generalize kdN t n = V at *
          have CC := Lib.hid C
          have c0 : wr.cell? ⟨w.heap.size, 0, none⟩ = some (.int .i64 0) := cell_of hbk 0
          have c1 : wr.cell? ⟨w.heap.size, 1, none⟩ = some (.string ⟨#[]⟩) := cell_of hbk 1
          have f0 := frozen_of hbk 0
          have f1 := frozen_of hbk 1
          have BK2 : Hid (((wr.setCell ⟨w.heap.size, 0, none⟩ (.int .i64 2)).setCell ⟨w.heap.size, 1, none⟩ (.string ⟨#[]⟩)).heap[w.heap.size]? = some (.cells #[.int .i64 2, .string ⟨#[]⟩] 65)) := blk_set (blk_set hbk 0 _) 1 _
          have BK3 : Hid (((wr.setCell ⟨w.heap.size, 0, none⟩ (.int .i64 3)).setCell ⟨w.heap.size, 1, none⟩ (.string ⟨#[]⟩)).heap[w.heap.size]? = some (.cells #[.int .i64 3, .string ⟨#[]⟩] 65)) := blk_set (blk_set hbk 0 _) 1 _
          clear C hbk hb
          by_cases hn2 : m < 2
          · go_wp2_with fail
            refine CC.out.mono ?_
            rintro e w' ⟨rfl, rfl⟩
            go_wp2
            refine bodyPost_ret (results_cell_tmp (P := Tryd.prog) rfl _ _ w.heap.size 65 #[.int .i64 2, .string ⟨#[]⟩] (0, 0) _ _ (by rfl) (by rfl) BK2.out Tryd.underlying65 rfl (by kernel_rfl)) rfl ?_
            rw [HE.out]
            exact ⟨n, (by rw [show gapK (m, t.data.toList.drop n).1 = 2 from if_neg (by show ¬ 2 ≤ m; omega)]; rfl), Lib.hid rfl, hn, (HB.out.setCell (Nat.le_refl _) _).setCell (Nat.le_refl _) _⟩
          · go_wp2_with fail
            refine CC.out.mono ?_
            rintro e w' ⟨rfl, rfl⟩
            go_wp2
            refine bodyPost_ret (results_cell_tmp (P := Tryd.prog) rfl _ _ w.heap.size 65 #[.int .i64 3, .string ⟨#[]⟩] (0, 0) _ _ (by rfl) (by rfl) BK3.out Tryd.underlying65 rfl (by kernel_rfl)) rfl ?_
            rw [HE.out]
            exact ⟨n, (by rw [show gapK (m, t.data.toList.drop n).1 = 3 from if_pos (by show 2 ≤ m; omega)]; rfl), Lib.hid rfl, hn, (HB.out.setCell (Nat.le_refl _) _).setCell (Nat.le_refl _) _⟩
    · have i1 : ¬ (n : Int) < (t.size : Int) := by omega
      have HE := Lib.hid (show R = (m, t.data.toList.drop n) by rw [← HG.out, drop_end t n hlt]; cases r <;> rfl)
      have c0 : wr.cell? ⟨w.heap.size, 0, none⟩ = some (.int .i64 0) := cell_of hbk 0
      have c1 : wr.cell? ⟨w.heap.size, 1, none⟩ = some (.string ⟨#[]⟩) := cell_of hbk 1
      have f0 := frozen_of hbk 0
      have f1 := frozen_of hbk 1
      have BK2 : Hid (((wr.setCell ⟨w.heap.size, 0, none⟩ (.int .i64 2)).setCell ⟨w.heap.size, 1, none⟩ (.string ⟨#[]⟩)).heap[w.heap.size]? = some (.cells #[.int .i64 2, .string ⟨#[]⟩] 65)) := blk_set (blk_set hbk 0 _) 1 _
      have BK3 : Hid (((wr.setCell ⟨w.heap.size, 0, none⟩ (.int .i64 3)).setCell ⟨w.heap.size, 1, none⟩ (.string ⟨#[]⟩)).heap[w.heap.size]? = some (.cells #[.int .i64 3, .string ⟨#[]⟩] 65)) := blk_set (blk_set hbk 0 _) 1 _
      clear HG hbk hb
      by_cases hn2 : m < 2
      · go_wp2
        refine bodyPost_ret (results_cell_tmp (P := Tryd.prog) rfl _ _ w.heap.size 65 #[.int .i64 2, .string ⟨#[]⟩] (0, 0) _ _ (by rfl) (by rfl) BK2.out Tryd.underlying65 rfl (by kernel_rfl)) rfl ?_
        rw [HE.out]
        exact ⟨n, (by rw [show gapK (m, t.data.toList.drop n).1 = 2 from if_neg (by show ¬ 2 ≤ m; omega)]; rfl), Lib.hid rfl, hn, (HB.out.setCell (Nat.le_refl _) _).setCell (Nat.le_refl _) _⟩
      · go_wp2
        refine bodyPost_ret (results_cell_tmp (P := Tryd.prog) rfl _ _ w.heap.size 65 #[.int .i64 3, .string ⟨#[]⟩] (0, 0) _ _ (by rfl) (by rfl) BK3.out Tryd.underlying65 rfl (by kernel_rfl)) rfl ?_
        rw [HE.out]
        exact ⟨n, (by rw [show gapK (m, t.data.toList.drop n).1 = 3 from if_pos (by show 2 ≤ m; omega)]; rfl), Lib.hid rfl, hn, (HB.out.setCell (Nat.le_refl _) _).setCell (Nat.le_refl _) _⟩
end Go.Proofs.YtckldeabbkdbjaaDoor

/-
  Contracts of strings.Cut at a line's end, of lex.gap, lex.command: a token, and what stands behind it.
-/
import Derived.Test.YtckldeabbkdbjaaDoorK01
import Derived.Lib.Bytealg
import Derived.BigRegion
namespace Go.Proofs.YtckldeabbkdbjaaDoor
open Go.RowKit

/-- What stands behind the first line's end. -/
def aftL : By → By
  | [] => []
  | c :: r => if c = 10 then r else aftL r
theorem ib_aft : ∀ (u : By), (Lib.indexByte u 10 = -1 ∧ aftL u = []) ∨ ∃ i : Nat, Lib.indexByte u 10 = (i : Int) ∧ i < u.length ∧ aftL u = u.drop (i + 1)
  | [] => .inl ⟨rfl, rfl⟩
  | c :: r => by
    by_cases h : c = 10
    · subst h
      exact .inr ⟨0, by simp [Lib.indexByte], by simp, by simp [aftL]⟩
    · have e : (c == 10) = false := by simpa using h
      rcases ib_aft r with ⟨h1, h2⟩ | ⟨i, h1, h2, h3⟩
      · exact .inl ⟨by simp [Lib.indexByte, e, h1], by simp [aftL, h, h2]⟩
      · refine .inr ⟨i + 1, ?_, by simp; omega, by simp [aftL, h, h3]⟩
        have q : ((i : Int) == -1) = false := by rw [beq_eq_false_iff_ne]; omega
        simp [Lib.indexByte, e, h1, q]
theorem gap_rem : ∀ (u : By) (n : Nat), gapG true n u = gapG false n (aftL u)
  | [], n => rfl
  | c :: r, n => by
    by_cases h : c = 10
    · simp [gapG, aftL, h]
    · simp only [gapG, aftL, h, if_false]; exact gap_rem r n
theorem aft_len : ∀ (u : By), (aftL u).length ≤ u.length
  | [] => Nat.le_refl _
  | c :: r => by
    unfold aftL
    split
    · simp
    · have := aft_len r; simp; omega
set_option maxRecDepth 100000 in
theorem indexByte_any (t : ByteArray) (w : World) : Calls Tryd.prog 88 #[.string t, .int .u8 10] w fun e w' => e = .returned (.int .i64 (Lib.indexByte t.data.toList 10)) ∧ w = w' := by
  go_enter Tryd.func88, Tryd.ntmps88
  go_wp2
  rw [run_callFunc_extern Tryd.func95 (by kernel_rfl) (by kernel_rfl) (by kernel_rfl) (e := Extern.BytealgIndexByte.indexByte) (by kernel_rfl), Lib.run_indexByteString]
  simp only [Result.andThen]
  rw [Oper.upon_value]
  go_wp2
  go_ret
  exact ⟨rfl, rfl⟩
set_option maxHeartbeats 1000000 in
theorem index_any (t : ByteArray) (w : World) (hne : (([10] : List UInt8) == t.toList) = false) :
    Calls Tryd.prog 82 #[.string t, .string ⟨#[10]⟩] w fun e w' => e = .returned (.int .i64 (Lib.indexByte t.data.toList 10)) ∧ w = w' := by
  have C := Lib.hid (indexByte_any t w)
  generalize Lib.indexByte t.data.toList 10 = v at *
  go_enter Tryd.func82, Tryd.ntmps82
  go_wp2_with fail
  refine C.out.mono ?_
  rintro e w' ⟨rfl, rfl⟩
  go_wp2
  go_ret
  exact ⟨rfl, rfl⟩
/-- What Cut answers: the text behind, and more. -/
def CutPost (w : World) (l : By) (e : Ending) (w' : World) : Prop := ∃ (b a : ByteArray) (f : Bool) (n : Nat), e = .returned (.tuple #[.string b, .string a, .bool f]) ∧ a.data.toList = l ∧ w' = w.drewN n
set_option maxHeartbeats 1000000 in
theorem scut_any (t : ByteArray) (w : World) (hs : t.size ≤ 4611686018427387904) (hne : (([10] : List UInt8) == t.toList) = false) :
    Calls Tryd.prog 71 #[.string t, .string ⟨#[10]⟩] w (CutPost w (aftL t.data.toList)) := by
  have C := Lib.hid (index_any t w hne)
  rcases ib_aft t.data.toList with ⟨h1, h2⟩ | ⟨i, h1, h2, h3⟩
  · rw [h1] at C
    have HA := Lib.hid h2
    clear h1 h2
    go_enter Tryd.func71, Tryd.ntmps71
    go_wp2_with fail
    refine C.out.mono ?_
    rintro e w' ⟨rfl, rfl⟩
    go_wp2
    go_ret3
    exact ⟨_, _, _, 0, rfl, HA.out.symm, rfl⟩
  · rw [h1] at C
    have HA := Lib.hid h3
    rw [size_list] at h2
    clear h1 h3
    have c1 : (0 : Int) ≤ (i : Int) := by omega
    have c2 : (i : Int) ≤ (t.size : Int) := by omega
    have c3 : (0 : Int) ≤ (i : Int) + 1 := by omega
    have c4 : (i : Int) + 1 ≤ (t.size : Int) := by omega
    go_enter Tryd.func71, Tryd.ntmps71
    go_wp2_with fail
    refine C.out.mono ?_
    rintro e w' ⟨rfl, rfl⟩
    go_wp2_with fail
    go_region
    go_wp2
    go_ret3
    exact ⟨_, _, _, 1, rfl, (by rw [HA.out]; exact ext_from _ _ _ (Nat.le_refl _)), rfl⟩
theorem cut_any (t : ByteArray) (w : World) (hs : t.size ≤ 4611686018427387904) (hne : (([10] : List UInt8) == t.toList) = false) :
    Calls Tryd.prog 58 #[.string t, .string ⟨#[10]⟩] w (CutPost w (aftL t.data.toList)) := by
  have C := Lib.hid (scut_any t w hs hne)
  generalize aftL t.data.toList = l at *
  go_enter Tryd.func58, Tryd.ntmps58
  go_wp2_with fail
  refine C.out.mono ?_
  rintro e w' ⟨b, a, f, n, rfl, ha, rfl⟩
  have HA := Lib.hid ha
  clear ha
  go_wp2
  go_ret3
  exact ⟨b, a, f, n, rfl, HA.out, rfl⟩
theorem gap_way {t : ByteArray} {n : Nat} {R : Nat × By} (h : gapG false n t.data.toList = R) (h2 : hk t.data.toList = 2) :
    ∃ h0 : 0 < t.size, (t[0].toNat : Int) = 37 ∧ gapG false n (aftL t.data.toList) = R ∧ (([10] : List UInt8) == t.toList) = false ∧ (aftL t.data.toList).length < t.size ∨ (t[0].toNat : Int) = 10 ∧ gapG false (n + 1) (t.data.toList.drop 1) = R ∨ ((t[0].toNat : Int) == 37) = false ∧ ((t[0].toNat : Int) == 10) = false ∧ gapG false n (t.data.toList.drop 1) = R := by
  have h0 : 0 < t.size := by
    rcases Nat.lt_or_ge 0 t.size with q | q
    · exact q
    · rw [str_none (by omega)] at h2; cases h2
  refine ⟨h0, ?_⟩
  have hd := drop_at t 0 h0
  rw [List.drop_zero] at hd
  rw [hd] at h h2
  have hk2 : kd t[0] (t.data.toList.drop (0 + 1)) = 2 := h2
  rcases kd_blank hk2 with e | e | ⟨e1, e2, e3⟩
  · left
    refine ⟨by rw [e]; rfl, ?_, ?_, ?_⟩
    · rw [hd, ← h]
      simp only [gapG, aftL, e]
      rw [gap_rem]; rfl
    · rw [ByteArray.toList_eq, hd, e, beq_eq_false_iff_ne]; intro q; simp at q
    · rw [hd, e]
      have := aft_len (t.data.toList.drop (0 + 1))
      rw [List.length_drop, size_list] at this
      simp only [aftL]
      rw [if_neg (by decide)]
      omega
  · right; left
    refine ⟨by rw [e]; rfl, ?_⟩
    rw [← h, e]
    simp [gapG]
  · right; right
    refine ⟨?_, ?_, ?_⟩
    · rw [beq_eq_false_iff_ne]; intro q; exact e1 (byte_lit (n := 37) q)
    · rw [beq_eq_false_iff_ne]; intro q; exact e2 (byte_lit (n := 10) q)
    · rw [← h]
      simp [gapG, e1, e2, e3]
def gapK (n : Nat) : Int := if 2 ≤ n then 3 else 2
theorem ret_tok {k : Int} {s u : By} {t : ByteArray} (h : t.data.toList = u) {k' : Int} (hk : k = k') : Ending.returned (.tuple #[.agg #[.int .i64 k, .string ⟨s.toArray⟩], .string t]) = .returned (.tuple #[.agg #[.int .i64 k', .string ⟨s.toArray⟩], .string ⟨u.toArray⟩]) := by
  rw [str_of h, hk]
/-- A token, and what stands behind it; old memory stays. -/
def TokPost (w : World) (k : Int) (s u : By) (e : Ending) (w' : World) : Prop := e = .returned (.tuple #[.agg #[.int .i64 k, .string ⟨s.toArray⟩], .string ⟨u.toArray⟩]) ∧ Below w.heap.size w w'
theorem tok_new (w : World) : (w.alloc (.cells #[.int .i64 0, .string ⟨#[]⟩] 48)).heap[w.heap.size]? = some (.cells #[.int .i64 0, .string ⟨#[]⟩] 48) := heap_alloc_new w _
set_option maxRecDepth 100000 in
set_option maxHeartbeats 1000000 in
theorem gap_any (s : ByteArray) (w : World) (hs : s.size ≤ 4611686018427387904) :
    Calls Tryd.prog 39 #[.string s] w (TokPost w (gapK (gapG false 0 s.data.toList).1) [] (gapG false 0 s.data.toList).2) := by
  generalize hg : gapG false 0 s.data.toList = R
  have HR := Lib.hid hg
  clear hg
  have hb0 := one_below w (.cells #[.int .i64 0, .string ⟨#[]⟩] 48)
  have hn0 := tok_new w
  go_enter Tryd.func39, Tryd.ntmps39
  go_wp2_with fail
  go_loopw [0, 4] (fun v0 v4 wr => ∃ (t : ByteArray) (n : Nat), v0 = .string t ∧ v4 = .int .i64 n ∧ n + t.size ≤ s.size ∧ Hid (gapG false n t.data.toList = R) ∧ Below w.heap.size w wr ∧ wr.heap[w.heap.size]? = some (.cells #[.int .i64 0, .string ⟨#[]⟩] 48)) (fun v0 _ _ => strSz v0)
  case atStart => exact ⟨s, 0, rfl, rfl, by omega, HR, hb0, hn0⟩
  case round =>
    clear hb0 hn0 HR
    obtain ⟨t, n, rfl, rfl, hn, HG, hb, hbk⟩ := hrel
    have C := begins_any t wr (by omega)
    by_cases h2 : hk t.data.toList = 2
    · rw [h2] at C
      obtain ⟨h0, hw⟩ := gap_way HG.out h2
      have CC := Lib.hid C
      have HBK := Lib.hid hbk
      clear C h2 HG hbk
      rcases hw with ⟨hx, h3, hne, hl⟩ | ⟨hx, h3⟩ | ⟨hx, hx2, h3⟩
      · have H3 := Lib.hid h3
        have CT := Lib.hid (cut_any t wr (by omega) hne)
        generalize aftL t.data.toList = u at *
        clear h3 hne
        go_wp2_with fail
        refine CC.out.mono ?_
        rintro e w' ⟨rfl, rfl⟩
        go_wp2_with fail
        refine CT.out.mono ?_
        rintro e w' ⟨b, a, f, m, rfl, ha, rfl⟩
        have hsz : a.size = u.length := by rw [← size_list, ha]
        have HA := Lib.hid ha
        have hb2 : Below w.heap.size w (wr.drewN m) := hb.trans ⟨rfl, rfl, rfl, Nat.le_refl _, fun _ _ => rfl⟩
        have hbk2 : Hid ((wr.drewN m).heap[w.heap.size]? = some (.cells #[.int .i64 0, .string ⟨#[]⟩] 48)) := HBK
        clear ha
        go_wp2
        go_roundw
        case rel => exact ⟨a, n, rfl, rfl, by omega, Lib.hid (by rw [HA.out]; exact H3.out), hb2, hbk2.out⟩
        case measure => simp only [strSz]; omega
      · have H3 := Lib.hid h3
        clear h3
        obtain ⟨a, ha⟩ : ∃ a, t.extract 1 t.size = a := ⟨_, rfl⟩
        have HL := Lib.hid (show a.data.toList = t.data.toList.drop 1 by rw [← ha]; exact ext_from _ _ _ (Nat.le_refl _))
        have hsz : a.size = t.size - 1 := by rw [← ha]; exact ext_size _ _ _ (Nat.le_refl _)
        go_wp2_with fail
        refine CC.out.mono ?_
        rintro e w' ⟨rfl, rfl⟩
        go_wp2
        go_roundw
        case rel => exact ⟨a, n + 1, rfl, by go_num, by omega, Lib.hid (by rw [HL.out]; exact H3.out), hb, HBK.out⟩
        case measure => simp only [strSz]; omega
      · have H3 := Lib.hid h3
        clear h3
        obtain ⟨a, ha⟩ : ∃ a, t.extract 1 t.size = a := ⟨_, rfl⟩
        have HL := Lib.hid (show a.data.toList = t.data.toList.drop 1 by rw [← ha]; exact ext_from _ _ _ (Nat.le_refl _))
        have hsz : a.size = t.size - 1 := by rw [← ha]; exact ext_size _ _ _ (Nat.le_refl _)
        go_wp2_with fail
        refine CC.out.mono ?_
        rintro e w' ⟨rfl, rfl⟩
        go_wp2
        go_roundw
        case rel => exact ⟨a, n, rfl, rfl, by omega, Lib.hid (by rw [HL.out]; exact H3.out), hb, HBK.out⟩
        case measure => simp only [strSz]; omega
    · have q2 : (hk t.data.toList == 2) = false := by simpa using h2
      have HE := Lib.hid (show R = (n, t.data.toList) by rw [← HG.out]; exact gap_none h2 n)
      clear h2 HG
      generalize hk t.data.toList = V at *
      have CC := Lib.hid C
      have c0 : wr.cell? ⟨w.heap.size, 0, none⟩ = some (.int .i64 0) := cell_of hbk 0
      have c1 : wr.cell? ⟨w.heap.size, 1, none⟩ = some (.string ⟨#[]⟩) := cell_of hbk 1
      have f0 := frozen_of hbk 0
      have f1 := frozen_of hbk 1
      have BK2 : Hid (((wr.setCell ⟨w.heap.size, 0, none⟩ (.int .i64 2)).setCell ⟨w.heap.size, 1, none⟩ (.string ⟨#[]⟩)).heap[w.heap.size]? = some (.cells #[.int .i64 2, .string ⟨#[]⟩] 48)) := blk_set (blk_set hbk 0 _) 1 _
      have BK3 : Hid (((wr.setCell ⟨w.heap.size, 0, none⟩ (.int .i64 3)).setCell ⟨w.heap.size, 1, none⟩ (.string ⟨#[]⟩)).heap[w.heap.size]? = some (.cells #[.int .i64 3, .string ⟨#[]⟩] 48)) := blk_set (blk_set hbk 0 _) 1 _
      have HB := Lib.hid hb
      clear C hbk hb
      by_cases hn2 : n < 2
      · go_wp2_with fail
        refine CC.out.mono ?_
        rintro e w' ⟨rfl, rfl⟩
        go_wp2
        refine bodyPost_ret (results_cell_tmp (P := Tryd.prog) rfl _ _ w.heap.size 48 #[.int .i64 2, .string ⟨#[]⟩] (0, 0) _ _ (by rfl) (by rfl) BK2.out Tryd.underlying48 rfl (by kernel_rfl)) rfl ?_
        rw [HE.out]
        exact ⟨ret_tok (s := []) rfl (by unfold gapK; rw [if_neg (by omega)]), (HB.out.setCell (Nat.le_refl _) _).setCell (Nat.le_refl _) _⟩
      · go_wp2_with fail
        refine CC.out.mono ?_
        rintro e w' ⟨rfl, rfl⟩
        go_wp2
        refine bodyPost_ret (results_cell_tmp (P := Tryd.prog) rfl _ _ w.heap.size 48 #[.int .i64 3, .string ⟨#[]⟩] (0, 0) _ _ (by rfl) (by rfl) BK3.out Tryd.underlying48 rfl (by kernel_rfl)) rfl ?_
        rw [HE.out]
        exact ⟨ret_tok (s := []) rfl (by unfold gapK; rw [if_pos (by omega)]), (HB.out.setCell (Nat.le_refl _) _).setCell (Nat.le_refl _) _⟩
end Go.Proofs.YtckldeabbkdbjaaDoor

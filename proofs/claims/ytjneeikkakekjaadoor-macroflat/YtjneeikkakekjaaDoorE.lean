/-
  Contracts of lex.command and lex.word: a token, and what stands behind it.
-/
import Derived.Test.YtjneeikkakekjaaDoorD
import Derived.Test.YtjneeikkakekjaaDoorShelf
namespace Go.Proofs.YtjneeikkakekjaaDoor
open Go.RowKit

theorem lead_le (s : By) : (s.takeWhile ltr).length ≤ s.length := (List.takeWhile_prefix _).length_le
theorem take_lead (s : By) : s.take (s.takeWhile ltr).length = s.takeWhile ltr ∧ s.drop (s.takeWhile ltr).length = s.dropWhile ltr := by
  have h := List.takeWhile_append_dropWhile (p := ltr) (l := s)
  constructor
  · have := congrArg (List.take (s.takeWhile ltr).length) h
    rw [List.take_append] at this
    simpa using this.symm
  · have := congrArg (List.drop (s.takeWhile ltr).length) h
    rw [List.drop_append] at this
    simpa using this.symm
set_option maxRecDepth 100000 in
set_option maxHeartbeats 1000000 in
theorem command_any (t : ByteArray) (w : World) (hs : t.size ≤ 4611686018427387904) (h0 : 0 < t.size) :
    Calls Tryd.prog 53 #[.string t] w (TokPost w 4 ((t.data.toList.drop 1).takeWhile ltr) ((t.data.toList.drop 1).dropWhile ltr)) := by
  obtain ⟨a, ha⟩ : ∃ a, t.extract 1 t.size = a := ⟨_, rfl⟩
  have hal : a.data.toList = t.data.toList.drop 1 := by rw [← ha]; exact ext_from _ _ _ (Nat.le_refl _)
  have hsz : a.size = t.size - 1 := by rw [← ha]; exact ext_size _ _ _ (Nat.le_refl _)
  have C := letters_any a (w.alloc (.cells #[.int .i64 0, .string ⟨#[]⟩] 41)) (by omega)
  obtain ⟨n, hn⟩ : ∃ n, (a.data.toList.takeWhile ltr).length = n := ⟨_, rfl⟩
  have hle := lead_le a.data.toList
  rw [hn, size_list] at hle
  rw [hn] at C
  obtain ⟨k1, k2⟩ := take_lead a.data.toList
  rw [hn, hal] at k1 k2
  have HX := Lib.hid (show (t.extract 1 (1 + n)).data.toList = (t.data.toList.drop 1).takeWhile ltr by rw [ext_list, ← k1, List.drop_take]; congr 1; omega)
  have HY := Lib.hid (show (t.extract (1 + n) t.size).data.toList = (t.data.toList.drop 1).dropWhile ltr by rw [ext_from _ _ _ (Nat.le_refl _), ← k2, List.drop_drop])
  generalize (t.data.toList.drop 1).takeWhile ltr = x at *
  generalize (t.data.toList.drop 1).dropWhile ltr = y at *
  have CC := Lib.hid C
  clear C k1 k2 hn hal
  have hbk := tok_new w
  obtain ⟨wa, hwa⟩ : ∃ wa, w.alloc (.cells #[.int .i64 0, .string ⟨#[]⟩] 41) = wa := ⟨_, rfl⟩
  have hb := one_below w (.cells #[.int .i64 0, .string ⟨#[]⟩] 41)
  have hszw : wa.heap.size = w.heap.size + 1 := by rw [← hwa]; simp
  have c0 : (w.alloc (.cells #[.int .i64 0, .string ⟨#[]⟩] 41)).cell? ⟨w.heap.size, 0, none⟩ = some (.int .i64 0) := cell_of hbk 0
  have c1 : (w.alloc (.cells #[.int .i64 0, .string ⟨#[]⟩] 41)).cell? ⟨w.heap.size, 1, none⟩ = some (.string ⟨#[]⟩) := cell_of hbk 1
  have f0 := frozen_of hbk 0
  have f1 := frozen_of hbk 1
  have BK := Lib.hid hbk
  have HB := Lib.hid hb
  clear hwa hszw hb hbk wa
  have i1 : (0 : Int) ≤ 1 + (n : Int) := by omega
  have i2 : (1 : Int) ≤ 1 + (n : Int) := by omega
  have i3 : 1 + (n : Int) ≤ (t.size : Int) := by omega
  have i4 : (1 : Int) ≤ (t.size : Int) := by omega
  go_enter Tryd.func53, Tryd.ntmps53
  go_wp2_with fail
  refine CC.out.mono ?_
  rintro e w' ⟨rfl, rfl⟩
  go_wp2_with fail
  go_region
  go_wp2
  refine bodyPost_ret (results_cell_tmp (P := Tryd.prog) rfl _ _ w.heap.size 41 #[.int .i64 4, .string (t.extract 1 (1 + n))] (0, 0) _ _ (by rfl) (by rfl) (heap_alloc_new w _) Tryd.underlying41 rfl (by kernel_rfl)) rfl ?_
  exact ⟨by rw [str_of HX.out, str_of HY.out]; rfl, (one_below w _).trans ⟨rfl, rfl, rfl, Nat.le_refl _, fun _ _ => rfl⟩⟩
theorem BuilderAtF_below {T e : TypeId} {B b : Nat} {p : Value} {bs : List Value} {W W' : World} (h : Lib.BuilderAtF T e B b p bs W) (hb : Below W.heap.size W W') : Lib.BuilderAtF T e B b p bs W' := by
  have hlt := h.lt
  obtain ⟨hB, v, hv, hown, hne⟩ := h
  exact ⟨hB, v, (hb.block b hlt).trans hv, hown.kept (row := none) ⟨hb.os, hb.tape, hb.output, hb.size, fun k hk _ => hb.block k hk⟩ (Classical.em _), hne⟩
theorem IsBuilderF_below {T e : TypeId} {B b : Nat} {bs : List Value} {W W' : World} (h : Lib.IsBuilderF T e B b bs W) (hb : Below W.heap.size W W') : Lib.IsBuilderF T e B b bs W' :=
  h.elim (fun x => .inl (BuilderAtF_below x hb)) (fun x => .inr (BuilderAtF_below x hb))
theorem byteCells_app (a b : By) : Lib.byteCells a ++ Lib.strCells ⟨b.toArray⟩ = Lib.byteCells (a ++ b) := by simp [Lib.byteCells, Lib.strCells]
theorem byteCells_one (a : By) (c : UInt8) : Lib.byteCells a ++ [.int .u8 (c.toNat : Int)] = Lib.byteCells (a ++ [c]) := by simp [Lib.byteCells]
theorem byteCells_len (a : By) : (Lib.byteCells a).length = a.length := by simp [Lib.byteCells]
/-- The builder, written once. -/
theorem write_any (B : Nat) (l m r : By) (w : World) (h : Lib.IsBuilderF 89 5 B B (Lib.byteCells l) w) (hl : l.length ≤ 400000000) (hm : m.length ≤ 2000000) (hr : l ++ m = r) (hBw : B ≤ w.heap.size) :
    Calls Tryd.prog 41 #[.pointer (some ⟨B, 0, none⟩), .string ⟨m.toArray⟩] w fun e w' => e = .returned (.tuple #[.int .i64 m.length, .nilIface]) ∧ Lib.IsBuilderF 89 5 B B (Lib.byteCells r) w' ∧ Below B w w' ∧ Lib.OthersKept 5 (some B) w w' := by
  refine (Tryd.Builder_WriteString B B (Lib.byteCells l) ⟨m.toArray⟩ w h (by rw [byteCells_len]; show l.length + m.length ≤ _; omega) hBw).mono ?_
  rintro e w' ⟨he, h1, h2, h3⟩
  rw [byteCells_app, hr] at h1
  exact ⟨he, .inr h1, h2, h3⟩
/-- The builder, one byte more. -/
theorem byte_any (B : Nat) (l r : By) (c : UInt8) (x : Int) (w : World) (h : Lib.IsBuilderF 89 5 B B (Lib.byteCells l) w) (hx : (c.toNat : Int) = x) (hl : l.length ≤ 400000000) (hr : l ++ [c] = r) (hBw : B ≤ w.heap.size) :
    Calls Tryd.prog 42 #[.pointer (some ⟨B, 0, none⟩), .int .u8 x] w fun e w' => e = .returned .nilIface ∧ Lib.IsBuilderF 89 5 B B (Lib.byteCells r) w' ∧ Below B w w' ∧ Lib.OthersKept 5 (some B) w w' := by
  refine (Tryd.Builder_WriteByte B B (Lib.byteCells l) x w h (by rw [byteCells_len]; omega) hBw).mono ?_
  rintro e w' ⟨he, h1, h2, h3⟩
  rw [← hx, byteCells_one, hr] at h1
  exact ⟨he, .inr h1, h2, h3⟩
theorem word_way {t : ByteArray} {l : By} {R : By × By} (h : (l ++ (wordG t.data.toList).1, (wordG t.data.toList).2) = R) (h1 : hk t.data.toList = 1) :
    ∃ h0 : 0 < t.size, (∃ h2 : 1 < t.size, (t[0].toNat : Int) = 92 ∧ ((l ++ [t[1]]) ++ (wordG (t.data.toList.drop 2)).1, (wordG (t.data.toList.drop 2)).2) = R) ∨ (((t[0].toNat : Int) == 92) = false ∨ (t[0].toNat : Int) = 92 ∧ ¬ 1 < t.size) ∧ ((l ++ [t[0]]) ++ (wordG (t.data.toList.drop 1)).1, (wordG (t.data.toList.drop 1)).2) = R := by
  have h0 : 0 < t.size := by
    rcases Nat.lt_or_ge 0 t.size with q | q
    · exact q
    · rw [str_none (by omega)] at h1; cases h1
  refine ⟨h0, ?_⟩
  have hd := drop_at t 0 h0
  rw [List.drop_zero] at hd
  rw [hd] at h h1
  have hk1 : kd t[0] (t.data.toList.drop (0 + 1)) = 1 := h1
  by_cases hc : t[0] = 92
  · have hx : (t[0].toNat : Int) = 92 := by rw [hc]; rfl
    by_cases h2 : 1 < t.size
    · left
      refine ⟨h2, hx, ?_⟩
      have hd1 := drop_at t 1 h2
      rw [hd1] at h hk1
      rw [wordG_two, if_pos hk1, if_pos hc] at h
      rw [← h, List.append_assoc]; rfl
    · right
      refine ⟨.inr ⟨hx, h2⟩, ?_⟩
      have hd1 := drop_end t 1 h2
      rw [hd1] at h hk1 ⊢
      rw [wordG_one, if_pos hk1] at h
      rw [← h]; simp [wordG]
  · right
    refine ⟨.inl ?_, ?_⟩
    · rw [beq_eq_false_iff_ne]; intro q; exact hc (byte_lit (n := 92) q)
    · rw [word_step hc hk1] at h
      rw [← h, List.append_assoc]; rfl
theorem word_end {t : ByteArray} {l : By} {R : By × By} (h : (l ++ (wordG t.data.toList).1, (wordG t.data.toList).2) = R) (h1 : hk t.data.toList ≠ 1) : R = (l, t.data.toList) := by
  rw [word_none h1] at h; rw [← h]; simp
theorem two_below (w : World) (o o2 : Obj) : Below w.heap.size w ((w.alloc o).alloc o2) := bch (one_below w o) (one_below _ _)
set_option maxRecDepth 100000 in
set_option maxHeartbeats 2000000 in
theorem word_any (s : ByteArray) (w : World) (hs : s.size ≤ 190000) :
    Calls Tryd.prog 51 #[.string s] w (TokPost w 1 (wordG s.data.toList).1 (wordG s.data.toList).2) := by
  generalize hg : wordG s.data.toList = R
  have HR := Lib.hid (show (([] : By) ++ (wordG s.data.toList).1, (wordG s.data.toList).2) = R by rw [hg]; rfl)
  clear hg
  have hb0 := two_below w (.cells #[.int .i64 0, .string ⟨#[]⟩] 41) (.cells #[.pointer none, .slice none 0 0] 89)
  have hn0 := blk_below (one_below (w.alloc (.cells #[.int .i64 0, .string ⟨#[]⟩] 41)) (.cells #[.pointer none, .slice none 0 0] 89)) (tok_new w)
  have hbu := Lib.IsBuilderF.of (Lib.fresh_isBuilder 89 5 (w.alloc (.cells #[.int .i64 0, .string ⟨#[]⟩] 41)))
  have hsz0 : (w.alloc (.cells #[.int .i64 0, .string ⟨#[]⟩] 41)).heap.size = w.heap.size + 1 := by simp
  rw [hsz0] at hbu
  clear hsz0
  go_enter Tryd.func51, Tryd.ntmps51
  go_wp2_with fail
  go_loopw [0] (fun v0 wr => ∃ (t : ByteArray) (l : By), v0 = .string t ∧ l.length + t.size ≤ s.size ∧ Hid ((l ++ (wordG t.data.toList).1, (wordG t.data.toList).2) = R) ∧ Below w.heap.size w wr ∧ wr.heap[w.heap.size]? = some (.cells #[.int .i64 0, .string ⟨#[]⟩] 41) ∧ Lib.IsBuilderF 89 5 (w.heap.size + 1) (w.heap.size + 1) (Lib.byteCells l) wr) (fun v0 _ => strSz v0)
  case atStart => exact ⟨s, [], rfl, by simp, HR, hb0, hn0, hbu⟩
  case round =>
    clear hb0 hn0 HR hbu
    obtain ⟨t, l, rfl, hn, HG, hb, hbk, hbu⟩ := hrel
    have C := begins_any t wr (by omega)
    have hsw : w.heap.size + 1 ≤ wr.heap.size := lt_of_blk hbk
    by_cases h1 : hk t.data.toList = 1
    · rw [h1] at C
      obtain ⟨h0, hw⟩ := word_way HG.out h1
      have CC := Lib.hid C
      clear C h1 HG
      rcases hw with ⟨h2, hx, h3⟩ | ⟨hx, h3⟩
      · obtain ⟨a, ha⟩ : ∃ a, t.extract 1 t.size = a := ⟨_, rfl⟩
        have hal : a.data.toList = t.data.toList.drop 1 := by rw [← ha]; exact ext_from _ _ _ (Nat.le_refl _)
        have hsz : a.size = t.size - 1 := by rw [← ha]; exact ext_size _ _ _ (Nat.le_refl _)
        have ha0 : 0 < a.size := by omega
        obtain ⟨b, hb1⟩ : ∃ b, a.extract 1 a.size = b := ⟨_, rfl⟩
        have hbl : b.data.toList = t.data.toList.drop 2 := by rw [← hb1, ext_from _ _ _ (Nat.le_refl _), hal, List.drop_drop]
        have hszb : b.size = a.size - 1 := by rw [← hb1]; exact ext_size _ _ _ (Nat.le_refl _)
        have hcc : a[0] = t[1] := by
          have e1 := drop_at a 0 ha0
          rw [List.drop_zero, hal, drop_at t 1 h2] at e1
          exact (List.cons.inj e1).1.symm
        obtain ⟨y, hy⟩ : ∃ y : Int, (a[0].toNat : Int) = y := ⟨_, rfl⟩
        obtain ⟨l2, hl2⟩ : ∃ l2, l ++ [t[1]] = l2 := ⟨_, rfl⟩
        have H3 := Lib.hid (show (l2 ++ (wordG b.data.toList).1, (wordG b.data.toList).2) = R by rw [hbl, ← hl2]; exact h3)
        have hl2l : l2.length = l.length + 1 := by rw [← hl2]; simp
        have CW := Lib.hid (byte_any (w.heap.size + 1) l l2 t[1] y wr hbu (by rw [← hcc]; exact hy) (by omega) hl2 hsw)
        have HBK := Lib.hid hbk
        have HSZ := Lib.hid (show b.size + 2 = t.size by omega)
        clear h3 hal hbl hl2 hcc hbu hbk hsz hszb
        have d1 : decide ((1 : Int) < (t.size : Int)) = true := by simp; omega
        go_wp2_with fail
        refine CC.out.mono ?_
        rintro e w' ⟨rfl, rfl⟩
        go_wp2_with fail
        refine CW.out.mono ?_
        rintro e w2 ⟨rfl, hbu2, hb2, _⟩
        have hb3 : Below w.heap.size w w2 := hb.trans (hb2.mono (by omega))
        have hbk2 := (hb2.block w.heap.size (by omega)).trans HBK.out
        have HBU := Lib.hid hbu2
        have HBK2 := Lib.hid hbk2
        clear hb hb2 hbk2 hbu2 CW CC
        go_wp2
        go_roundw
        case rel => exact ⟨b, l2, rfl, by have := HSZ.out; omega, H3, hb3, HBK2.out, HBU.out⟩
        case measure => have := HSZ.out; simp only [strSz]; omega
      · obtain ⟨a, ha⟩ : ∃ a, t.extract 1 t.size = a := ⟨_, rfl⟩
        have hal : a.data.toList = t.data.toList.drop 1 := by rw [← ha]; exact ext_from _ _ _ (Nat.le_refl _)
        have hsz : a.size = t.size - 1 := by rw [← ha]; exact ext_size _ _ _ (Nat.le_refl _)
        obtain ⟨l2, hl2⟩ : ∃ l2, l ++ [t[0]] = l2 := ⟨_, rfl⟩
        have H3 := Lib.hid (show (l2 ++ (wordG a.data.toList).1, (wordG a.data.toList).2) = R by rw [hal, ← hl2]; exact h3)
        have hl2l : l2.length = l.length + 1 := by rw [← hl2]; simp
        obtain ⟨y, hy⟩ : ∃ y : Int, (t[0].toNat : Int) = y := ⟨_, rfl⟩
        have CW := Lib.hid (byte_any (w.heap.size + 1) l l2 t[0] y wr hbu hy (by omega) hl2 hsw)
        have HBK := Lib.hid hbk
        rw [hy] at hx
        clear h3 hal hl2 hbu hbk
        rcases hx with hx | ⟨hx, h2⟩
        · go_wp2_with fail
          refine CC.out.mono ?_
          rintro e w' ⟨rfl, rfl⟩
          go_wp2_with fail
          refine CW.out.mono ?_
          rintro e w2 ⟨rfl, hbu2, hb2, _⟩
          have hb3 : Below w.heap.size w w2 := hb.trans (hb2.mono (by omega))
          have hbk2 := (hb2.block w.heap.size (by omega)).trans HBK.out
          have HBU := Lib.hid hbu2
          have HBK2 := Lib.hid hbk2
          clear hb hb2 hbk2 hbu2 CW CC
          go_wp2
          go_roundw
          case rel => exact ⟨a, l2, rfl, by omega, H3, hb3, HBK2.out, HBU.out⟩
          case measure => simp only [strSz]; omega
        · subst hx
          go_wp2_with fail
          refine CC.out.mono ?_
          rintro e w' ⟨rfl, rfl⟩
          go_wp2_with fail
          refine CW.out.mono ?_
          rintro e w2 ⟨rfl, hbu2, hb2, _⟩
          have hb3 : Below w.heap.size w w2 := hb.trans (hb2.mono (by omega))
          have hbk2 := (hb2.block w.heap.size (by omega)).trans HBK.out
          have HBU := Lib.hid hbu2
          have HBK2 := Lib.hid hbk2
          clear hb hb2 hbk2 hbu2 CW CC
          go_wp2
          go_roundw
          case rel => exact ⟨a, l2, rfl, by omega, H3, hb3, HBK2.out, HBU.out⟩
          case measure => simp only [strSz]; omega
    · have q2 : (hk t.data.toList == 1) = false := by simpa using h1
      have HE := Lib.hid (word_end HG.out h1)
      clear h1 HG
      generalize hk t.data.toList = V at *
      have CC := Lib.hid C
      have CS := Lib.hid (Tryd.Builder_String_anyF (w.heap.size + 1) (w.heap.size + 1) l wr hbu hsw)
      have HBK := Lib.hid hbk
      clear C hbu hbk
      go_wp2_with fail
      refine CC.out.mono ?_
      rintro e w' ⟨rfl, rfl⟩
      go_wp2_with fail
      refine CS.out.mono ?_
      rintro e w2 ⟨rfl, _, hb2, _⟩
      have hb3 : Below w.heap.size w w2 := hb.trans (hb2.mono (by omega))
      have hbk2 := (hb2.block w.heap.size (by omega)).trans HBK.out
      have c0 : w2.cell? ⟨w.heap.size, 0, none⟩ = some (.int .i64 0) := cell_of hbk2 0
      have c1 : w2.cell? ⟨w.heap.size, 1, none⟩ = some (.string ⟨#[]⟩) := cell_of hbk2 1
      have f0 := frozen_of hbk2 0
      have f1 := frozen_of hbk2 1
      have BK2 : Hid (((w2.setCell ⟨w.heap.size, 0, none⟩ (.int .i64 1)).setCell ⟨w.heap.size, 1, none⟩ (.string ⟨l.toArray⟩)).heap[w.heap.size]? = some (.cells #[.int .i64 1, .string ⟨l.toArray⟩] 41)) := blk_set (blk_set hbk2 0 _) 1 _
      have HB := Lib.hid hb3
      clear CC CS hbk2 hb2 hb3 hb
      go_wp2
      refine bodyPost_ret (results_cell_tmp (P := Tryd.prog) rfl _ _ w.heap.size 41 #[.int .i64 1, .string ⟨l.toArray⟩] (0, 0) _ _ (by rfl) (by rfl) BK2.out Tryd.underlying41 rfl (by kernel_rfl)) rfl ?_
      rw [HE.out]
      exact ⟨ret_tok rfl rfl, (HB.out.setCell (Nat.le_refl _) _).setCell (Nat.le_refl _) _⟩
end Go.Proofs.YtjneeikkakekjaaDoor

/-
  Contracts of lex.command and lex.word: a token, and what stands behind it.
  Append of tokens onto a row of tokens of one's own.
  Contracts of lex.escaped and lex.Text: a text that has these tokens; old memory stays.
  The contract of lex.Text: a text that has these tokens; old memory stays.
-/
import Derived.Test.YtckldeabbkdbjaaDoorK02
import Derived.Test.YtckldeabbkdbjaaDoorK03
namespace Go.Proofs.YtckldeabbkdbjaaDoor
open Go.RowKit

theorem lead_le (s : By) : (s.takeWhile ltr).length ≤ s.length := (List.takeWhile_prefix _).length_le
theorem take_lead (s : By) : s.take (s.takeWhile ltr).length = s.takeWhile ltr ∧ s.drop (s.takeWhile ltr).length = s.dropWhile ltr := by
  have h := List.takeWhile_append_dropWhile (p := ltr) (l := s)
  constructor
  · have := congrArg (List.take (s.takeWhile ltr).length) h
    rw [List.take_append] at this
    simpa using this.symm
  · have := congrArg (List.drop (s.takeWhile ltr).length) h
    rw [List.drop_append] at this
    simpa using this.symm
set_option maxRecDepth 100000 in
set_option maxHeartbeats 1000000 in
theorem command_any (t : ByteArray) (w : World) (hs : t.size ≤ 4611686018427387904) (h0 : 0 < t.size) :
    Calls Tryd.prog 40 #[.string t] w (TokPost w 4 ((t.data.toList.drop 1).takeWhile ltr) ((t.data.toList.drop 1).dropWhile ltr)) := by
  obtain ⟨a, ha⟩ : ∃ a, t.extract 1 t.size = a := ⟨_, rfl⟩
  have hal : a.data.toList = t.data.toList.drop 1 := by rw [← ha]; exact ext_from _ _ _ (Nat.le_refl _)
  have hsz : a.size = t.size - 1 := by rw [← ha]; exact ext_size _ _ _ (Nat.le_refl _)
  have C := letters_any a (w.alloc (.cells #[.int .i64 0, .string ⟨#[]⟩] 48)) (by omega)
  obtain ⟨n, hn⟩ : ∃ n, (a.data.toList.takeWhile ltr).length = n := ⟨_, rfl⟩
  have hle := lead_le a.data.toList
  rw [hn, size_list] at hle
  rw [hn] at C
  obtain ⟨k1, k2⟩ := take_lead a.data.toList
  rw [hn, hal] at k1 k2
  have HX := Lib.hid (show (t.extract 1 (1 + n)).data.toList = (t.data.toList.drop 1).takeWhile ltr by rw [ext_list, ← k1, List.drop_take]; congr 1; omega)
  have HY := Lib.hid (show (t.extract (1 + n) t.size).data.toList = (t.data.toList.drop 1).dropWhile ltr by rw [ext_from _ _ _ (Nat.le_refl _), ← k2, List.drop_drop])
  generalize (t.data.toList.drop 1).takeWhile ltr = x at *
  generalize (t.data.toList.drop 1).dropWhile ltr = y at *
  have CC := Lib.hid C
  clear C k1 k2 hn hal
  have hbk := tok_new w
  obtain ⟨wa, hwa⟩ : ∃ wa, w.alloc (.cells #[.int .i64 0, .string ⟨#[]⟩] 48) = wa := ⟨_, rfl⟩
  have hb := one_below w (.cells #[.int .i64 0, .string ⟨#[]⟩] 48)
  have hszw : wa.heap.size = w.heap.size + 1 := by rw [← hwa]; simp
  have c0 : (w.alloc (.cells #[.int .i64 0, .string ⟨#[]⟩] 48)).cell? ⟨w.heap.size, 0, none⟩ = some (.int .i64 0) := cell_of hbk 0
  have c1 : (w.alloc (.cells #[.int .i64 0, .string ⟨#[]⟩] 48)).cell? ⟨w.heap.size, 1, none⟩ = some (.string ⟨#[]⟩) := cell_of hbk 1
  have f0 := frozen_of hbk 0
  have f1 := frozen_of hbk 1
  have BK := Lib.hid hbk
  have HB := Lib.hid hb
  clear hwa hszw hb hbk wa
  have i1 : (0 : Int) ≤ 1 + (n : Int) := by omega
  have i2 : (1 : Int) ≤ 1 + (n : Int) := by omega
  have i3 : 1 + (n : Int) ≤ (t.size : Int) := by omega
  have i4 : (1 : Int) ≤ (t.size : Int) := by omega
  go_enter Tryd.func40, Tryd.ntmps40
  go_wp2_with fail
  refine CC.out.mono ?_
  rintro e w' ⟨rfl, rfl⟩
  go_wp2_with fail
  go_region
  go_wp2
  refine bodyPost_ret (results_cell_tmp (P := Tryd.prog) rfl _ _ w.heap.size 48 #[.int .i64 4, .string (t.extract 1 (1 + n))] (0, 0) _ _ (by rfl) (by rfl) (heap_alloc_new w _) Tryd.underlying48 rfl (by kernel_rfl)) rfl ?_
  exact ⟨by rw [str_of HX.out, str_of HY.out]; rfl, (one_below w _).trans ⟨rfl, rfl, rfl, Nat.le_refl _, fun _ _ => rfl⟩⟩
theorem BuilderAtF_below {T e : TypeId} {B b : Nat} {p : Value} {bs : List Value} {W W' : World} (h : Lib.BuilderAtF T e B b p bs W) (hb : Below W.heap.size W W') : Lib.BuilderAtF T e B b p bs W' := by
  have hlt := h.lt
  obtain ⟨hB, v, hv, hown, hne⟩ := h
  exact ⟨hB, v, (hb.block b hlt).trans hv, hown.kept (row := none) ⟨hb.os, hb.tape, hb.output, hb.size, fun k hk _ => hb.block k hk⟩ (Classical.em _), hne⟩
theorem IsBuilderF_below {T e : TypeId} {B b : Nat} {bs : List Value} {W W' : World} (h : Lib.IsBuilderF T e B b bs W) (hb : Below W.heap.size W W') : Lib.IsBuilderF T e B b bs W' :=
  h.elim (fun x => .inl (BuilderAtF_below x hb)) (fun x => .inr (BuilderAtF_below x hb))
theorem byteCells_app (a b : By) : Lib.byteCells a ++ Lib.strCells ⟨b.toArray⟩ = Lib.byteCells (a ++ b) := by simp [Lib.byteCells, Lib.strCells]
theorem byteCells_one (a : By) (c : UInt8) : Lib.byteCells a ++ [.int .u8 (c.toNat : Int)] = Lib.byteCells (a ++ [c]) := by simp [Lib.byteCells]
theorem byteCells_len (a : By) : (Lib.byteCells a).length = a.length := by simp [Lib.byteCells]
/-- The builder, written once. -/
theorem write_any (B : Nat) (l m r : By) (w : World) (h : Lib.IsBuilderF 87 5 B B (Lib.byteCells l) w) (hl : l.length ≤ 400000000) (hm : m.length ≤ 2000000) (hr : l ++ m = r) (hBw : B ≤ w.heap.size) :
    Calls Tryd.prog 46 #[.pointer (some ⟨B, 0, none⟩), .string ⟨m.toArray⟩] w fun e w' => e = .returned (.tuple #[.int .i64 m.length, .nilIface]) ∧ Lib.IsBuilderF 87 5 B B (Lib.byteCells r) w' ∧ Below B w w' ∧ Lib.OthersKept 5 (some B) w w' := by
  refine (Tryd.Builder_WriteString B B (Lib.byteCells l) ⟨m.toArray⟩ w h (by rw [byteCells_len]; show l.length + m.length ≤ _; omega) hBw).mono ?_
  rintro e w' ⟨he, h1, h2, h3⟩
  rw [byteCells_app, hr] at h1
  exact ⟨he, .inr h1, h2, h3⟩
/-- The builder, one byte more. -/
theorem byte_any (B : Nat) (l r : By) (c : UInt8) (x : Int) (w : World) (h : Lib.IsBuilderF 87 5 B B (Lib.byteCells l) w) (hx : (c.toNat : Int) = x) (hl : l.length ≤ 400000000) (hr : l ++ [c] = r) (hBw : B ≤ w.heap.size) :
    Calls Tryd.prog 55 #[.pointer (some ⟨B, 0, none⟩), .int .u8 x] w fun e w' => e = .returned .nilIface ∧ Lib.IsBuilderF 87 5 B B (Lib.byteCells r) w' ∧ Below B w w' ∧ Lib.OthersKept 5 (some B) w w' := by
  refine (Tryd.Builder_WriteByte B B (Lib.byteCells l) x w h (by rw [byteCells_len]; omega) hBw).mono ?_
  rintro e w' ⟨he, h1, h2, h3⟩
  rw [← hx, byteCells_one, hr] at h1
  exact ⟨he, .inr h1, h2, h3⟩
theorem word_way {t : ByteArray} {l : By} {R : By × By} (h : (l ++ (wordG t.data.toList).1, (wordG t.data.toList).2) = R) (h1 : hk t.data.toList = 1) :
    ∃ h0 : 0 < t.size, (∃ h2 : 1 < t.size, (t[0].toNat : Int) = 92 ∧ ((l ++ [t[1]]) ++ (wordG (t.data.toList.drop 2)).1, (wordG (t.data.toList.drop 2)).2) = R) ∨ (((t[0].toNat : Int) == 92) = false ∨ (t[0].toNat : Int) = 92 ∧ ¬ 1 < t.size) ∧ ((l ++ [t[0]]) ++ (wordG (t.data.toList.drop 1)).1, (wordG (t.data.toList.drop 1)).2) = R := by
  have h0 : 0 < t.size := by
    rcases Nat.lt_or_ge 0 t.size with q | q
    · exact q
    · rw [str_none (by omega)] at h1; cases h1
  refine ⟨h0, ?_⟩
  have hd := drop_at t 0 h0
  rw [List.drop_zero] at hd
  rw [hd] at h h1
  have hk1 : kd t[0] (t.data.toList.drop (0 + 1)) = 1 := h1
  by_cases hc : t[0] = 92
  · have hx : (t[0].toNat : Int) = 92 := by rw [hc]; rfl
    by_cases h2 : 1 < t.size
    · left
      refine ⟨h2, hx, ?_⟩
      have hd1 := drop_at t 1 h2
      rw [hd1] at h hk1
      rw [wordG_two, if_pos hk1, if_pos hc] at h
      rw [← h, List.append_assoc]; rfl
    · right
      refine ⟨.inr ⟨hx, h2⟩, ?_⟩
      have hd1 := drop_end t 1 h2
      rw [hd1] at h hk1 ⊢
      rw [wordG_one, if_pos hk1] at h
      rw [← h]; simp [wordG]
  · right
    refine ⟨.inl ?_, ?_⟩
    · rw [beq_eq_false_iff_ne]; intro q; exact hc (byte_lit (n := 92) q)
    · rw [word_step hc hk1] at h
      rw [← h, List.append_assoc]; rfl
theorem word_end {t : ByteArray} {l : By} {R : By × By} (h : (l ++ (wordG t.data.toList).1, (wordG t.data.toList).2) = R) (h1 : hk t.data.toList ≠ 1) : R = (l, t.data.toList) := by
  rw [word_none h1] at h; rw [← h]; simp
theorem two_below (w : World) (o o2 : Obj) : Below w.heap.size w ((w.alloc o).alloc o2) := bch (one_below w o) (one_below _ _)
set_option maxRecDepth 100000 in
set_option maxHeartbeats 2000000 in
theorem word_any (s : ByteArray) (w : World) (hs : s.size ≤ 190000) :
    Calls Tryd.prog 38 #[.string s] w (TokPost w 1 (wordG s.data.toList).1 (wordG s.data.toList).2) := by
  generalize hg : wordG s.data.toList = R
  have HR := Lib.hid (show (([] : By) ++ (wordG s.data.toList).1, (wordG s.data.toList).2) = R by rw [hg]; rfl)
  clear hg
  have hb0 := two_below w (.cells #[.int .i64 0, .string ⟨#[]⟩] 48) (.cells #[.pointer none, .slice none 0 0] 87)
  have hn0 := blk_below (one_below (w.alloc (.cells #[.int .i64 0, .string ⟨#[]⟩] 48)) (.cells #[.pointer none, .slice none 0 0] 87)) (tok_new w)
  have hbu := Lib.IsBuilderF.of (Lib.fresh_isBuilder 87 5 (w.alloc (.cells #[.int .i64 0, .string ⟨#[]⟩] 48)))
  have hsz0 : (w.alloc (.cells #[.int .i64 0, .string ⟨#[]⟩] 48)).heap.size = w.heap.size + 1 := by simp
  rw [hsz0] at hbu
  clear hsz0
  go_enter Tryd.func38, Tryd.ntmps38
  go_wp2_with fail
  go_loopw [0] (fun v0 wr => ∃ (t : ByteArray) (l : By), v0 = .string t ∧ l.length + t.size ≤ s.size ∧ Hid ((l ++ (wordG t.data.toList).1, (wordG t.data.toList).2) = R) ∧ Below w.heap.size w wr ∧ wr.heap[w.heap.size]? = some (.cells #[.int .i64 0, .string ⟨#[]⟩] 48) ∧ Lib.IsBuilderF 87 5 (w.heap.size + 1) (w.heap.size + 1) (Lib.byteCells l) wr) (fun v0 _ => strSz v0)
  case atStart => exact ⟨s, [], rfl, by simp, HR, hb0, hn0, hbu⟩
  case round =>
    clear hb0 hn0 HR hbu
    obtain ⟨t, l, rfl, hn, HG, hb, hbk, hbu⟩ := hrel
    have C := begins_any t wr (by omega)
    have hsw : w.heap.size + 1 ≤ wr.heap.size := lt_of_blk hbk
    by_cases h1 : hk t.data.toList = 1
    · rw [h1] at C
      obtain ⟨h0, hw⟩ := word_way HG.out h1
      have CC := Lib.hid C
      clear C h1 HG
      rcases hw with ⟨h2, hx, h3⟩ | ⟨hx, h3⟩
      · obtain ⟨a, ha⟩ : ∃ a, t.extract 1 t.size = a := ⟨_, rfl⟩
        have hal : a.data.toList = t.data.toList.drop 1 := by rw [← ha]; exact ext_from _ _ _ (Nat.le_refl _)
        have hsz : a.size = t.size - 1 := by rw [← ha]; exact ext_size _ _ _ (Nat.le_refl _)
        have ha0 : 0 < a.size := by omega
        obtain ⟨b, hb1⟩ : ∃ b, a.extract 1 a.size = b := ⟨_, rfl⟩
        have hbl : b.data.toList = t.data.toList.drop 2 := by rw [← hb1, ext_from _ _ _ (Nat.le_refl _), hal, List.drop_drop]
        have hszb : b.size = a.size - 1 := by rw [← hb1]; exact ext_size _ _ _ (Nat.le_refl _)
        have hcc : a[0] = t[1] := by
          have e1 := drop_at a 0 ha0
          rw [List.drop_zero, hal, drop_at t 1 h2] at e1
          exact (List.cons.inj e1).1.symm
        obtain ⟨y, hy⟩ : ∃ y : Int, (a[0].toNat : Int) = y := ⟨_, rfl⟩
        obtain ⟨l2, hl2⟩ : ∃ l2, l ++ [t[1]] = l2 := ⟨_, rfl⟩
        have H3 := Lib.hid (show (l2 ++ (wordG b.data.toList).1, (wordG b.data.toList).2) = R by rw [hbl, ← hl2]; exact h3)
        have hl2l : l2.length = l.length + 1 := by rw [← hl2]; simp
        have CW := Lib.hid (byte_any (w.heap.size + 1) l l2 t[1] y wr hbu (by rw [← hcc]; exact hy) (by omega) hl2 hsw)
        have HBK := Lib.hid hbk
        have HSZ := Lib.hid (show b.size + 2 = t.size by omega)
        clear h3 hal hbl hl2 hcc hbu hbk hsz hszb
        have d1 : decide ((1 : Int) < (t.size : Int)) = true := by simp; omega
        go_wp2_with fail
        refine CC.out.mono ?_
        rintro e w' ⟨rfl, rfl⟩
        go_wp2_with fail
        refine CW.out.mono ?_
        rintro e w2 ⟨rfl, hbu2, hb2, _⟩
        have hb3 : Below w.heap.size w w2 := hb.trans (hb2.mono (by omega))
        have hbk2 := (hb2.block w.heap.size (by omega)).trans HBK.out
        have HBU := Lib.hid hbu2
        have HBK2 := Lib.hid hbk2
        clear hb hb2 hbk2 hbu2 CW CC
        go_wp2
        go_roundw
        case rel => exact ⟨b, l2, rfl, by have := HSZ.out; omega, H3, hb3, HBK2.out, HBU.out⟩
        case measure => have := HSZ.out; simp only [strSz]; omega
      · obtain ⟨a, ha⟩ : ∃ a, t.extract 1 t.size = a := ⟨_, rfl⟩
        have hal : a.data.toList = t.data.toList.drop 1 := by rw [← ha]; exact ext_from _ _ _ (Nat.le_refl _)
        have hsz : a.size = t.size - 1 := by rw [← ha]; exact ext_size _ _ _ (Nat.le_refl _)
        obtain ⟨l2, hl2⟩ : ∃ l2, l ++ [t[0]] = l2 := ⟨_, rfl⟩
        have H3 := Lib.hid (show (l2 ++ (wordG a.data.toList).1, (wordG a.data.toList).2) = R by rw [hal, ← hl2]; exact h3)
        have hl2l : l2.length = l.length + 1 := by rw [← hl2]; simp
        obtain ⟨y, hy⟩ : ∃ y : Int, (t[0].toNat : Int) = y := ⟨_, rfl⟩
        have CW := Lib.hid (byte_any (w.heap.size + 1) l l2 t[0] y wr hbu hy (by omega) hl2 hsw)
        have HBK := Lib.hid hbk
        rw [hy] at hx
        clear h3 hal hl2 hbu hbk
        rcases hx with hx | ⟨hx, h2⟩
        · go_wp2_with fail
          refine CC.out.mono ?_
          rintro e w' ⟨rfl, rfl⟩
          go_wp2_with fail
          refine CW.out.mono ?_
          rintro e w2 ⟨rfl, hbu2, hb2, _⟩
          have hb3 : Below w.heap.size w w2 := hb.trans (hb2.mono (by omega))
          have hbk2 := (hb2.block w.heap.size (by omega)).trans HBK.out
          have HBU := Lib.hid hbu2
          have HBK2 := Lib.hid hbk2
          clear hb hb2 hbk2 hbu2 CW CC
          go_wp2
          go_roundw
          case rel => exact ⟨a, l2, rfl, by omega, H3, hb3, HBK2.out, HBU.out⟩
          case measure => simp only [strSz]; omega
        · subst hx
          go_wp2_with fail
          refine CC.out.mono ?_
          rintro e w' ⟨rfl, rfl⟩
          go_wp2_with fail
          refine CW.out.mono ?_
          rintro e w2 ⟨rfl, hbu2, hb2, _⟩
          have hb3 : Below w.heap.size w w2 := hb.trans (hb2.mono (by omega))
          have hbk2 := (hb2.block w.heap.size (by omega)).trans HBK.out
          have HBU := Lib.hid hbu2
          have HBK2 := Lib.hid hbk2
          clear hb hb2 hbk2 hbu2 CW CC
          go_wp2
          go_roundw
          case rel => exact ⟨a, l2, rfl, by omega, H3, hb3, HBK2.out, HBU.out⟩
          case measure => simp only [strSz]; omega
    · have q2 : (hk t.data.toList == 1) = false := by simpa using h1
      have HE := Lib.hid (word_end HG.out h1)
      clear h1 HG
      generalize hk t.data.toList = V at *
      have CC := Lib.hid C
      have CS := Lib.hid (Tryd.Builder_String_anyF (w.heap.size + 1) (w.heap.size + 1) l wr hbu hsw)
      have HBK := Lib.hid hbk
      clear C hbu hbk
      go_wp2_with fail
      refine CC.out.mono ?_
      rintro e w' ⟨rfl, rfl⟩
      go_wp2_with fail
      refine CS.out.mono ?_
      rintro e w2 ⟨rfl, _, hb2, _⟩
      have hb3 : Below w.heap.size w w2 := hb.trans (hb2.mono (by omega))
      have hbk2 := (hb2.block w.heap.size (by omega)).trans HBK.out
      have c0 : w2.cell? ⟨w.heap.size, 0, none⟩ = some (.int .i64 0) := cell_of hbk2 0
      have c1 : w2.cell? ⟨w.heap.size, 1, none⟩ = some (.string ⟨#[]⟩) := cell_of hbk2 1
      have f0 := frozen_of hbk2 0
      have f1 := frozen_of hbk2 1
      have BK2 : Hid (((w2.setCell ⟨w.heap.size, 0, none⟩ (.int .i64 1)).setCell ⟨w.heap.size, 1, none⟩ (.string ⟨l.toArray⟩)).heap[w.heap.size]? = some (.cells #[.int .i64 1, .string ⟨l.toArray⟩] 48)) := blk_set (blk_set hbk2 0 _) 1 _
      have HB := Lib.hid hb3
      clear CC CS hbk2 hb2 hb3 hb
      go_wp2
      refine bodyPost_ret (results_cell_tmp (P := Tryd.prog) rfl _ _ w.heap.size 48 #[.int .i64 1, .string ⟨l.toArray⟩] (0, 0) _ _ (by rfl) (by rfl) BK2.out Tryd.underlying48 rfl (by kernel_rfl)) rfl ?_
      rw [HE.out]
      exact ⟨ret_tok rfl rfl, (HB.out.setCell (Nat.le_refl _) _).setCell (Nat.le_refl _) _⟩
end Go.Proofs.YtckldeabbkdbjaaDoor

namespace Go.Proofs.YtckldeabbkdbjaaDoor
open Go.RowKit

theorem fcells_inv : ∀ (gs : List Tok) (j : Nat) (u : Value), (fcells gs)[j]? = some u → ∃ f, gs[j / 2]? = some f ∧ ((j = j / 2 * 2 ∧ u = .int .i64 f.1) ∨ (j = j / 2 * 2 + 1 ∧ u = .string ⟨f.2.toArray⟩))
  | [], j, u, h => by simp [fcells] at h
  | f :: r, 0, u, h => by simp [fcells] at h; exact ⟨f, rfl, .inl ⟨rfl, h.symm⟩⟩
  | f :: r, 1, u, h => by simp [fcells] at h; exact ⟨f, rfl, .inr ⟨rfl, h.symm⟩⟩
  | f :: r, j + 2, u, h => by
    obtain ⟨g, h1, h2⟩ := fcells_inv r j u (by simpa [fcells] using h)
    have e : (j + 2) / 2 = j / 2 + 1 := by omega
    refine ⟨g, by rw [e]; simpa using h1, ?_⟩
    rw [e]
    rcases h2 with ⟨h2, h3⟩ | ⟨h2, h3⟩
    · exact .inl ⟨by omega, h3⟩
    · exact .inr ⟨by omega, h3⟩
theorem add_lit (b o j : Nat) : (⟨b, o, none⟩ : Addr).add j = ⟨b, o + j, none⟩ := by unfold Addr.add; split <;> simp_all
theorem Rd.news {w : World} {b o : Nat} {gs : List Tok} (h : ∀ i f, gs[i]? = some f → w.cell? ⟨b, o + i * 2, none⟩ = some (.int .i64 f.1) ∧ w.cell? ⟨b, o + i * 2 + 1, none⟩ = some (.string ⟨f.2.toArray⟩)) :
    ∀ j u, (fcells gs)[j]? = some u → w.cell? ((⟨b, o, none⟩ : Addr).add j) = some u := fun j u hu => by
  obtain ⟨f, h1, h2⟩ := fcells_inv gs j u hu
  obtain ⟨k1, k2⟩ := h _ f h1
  rw [add_lit]
  rcases h2 with ⟨e, rfl⟩ | ⟨e, rfl⟩
  · rw [e]; exact k1
  · rw [e, ← Nat.add_assoc]; exact k2

theorem Tryd.info48 : (Tryd.prog.info? 48).map (fun i => (i.zero, i.size, i.bytes)) = some (some (.agg #[.int .i64 0, .string ⟨#[]⟩]), 2, 24) := by kernel_rfl
theorem Tryd.info65 : (Tryd.prog.info? 65).map (fun i => (i.zero, i.size, i.bytes)) = some (some (.agg #[.int .i64 0, .string ⟨#[]⟩]), 2, 24) := by kernel_rfl
theorem run_append_none (w : World) (base : Nat) (t ty e : TypeId) (i : TypeInfo) (size c : Nat) (ht : Tryd.prog.underlying t = some (.slice e)) (hi : Tryd.prog.info? e = some i)
    (v : Value) (n : Nat) (xs : List Value) (hown : w.ownsRow base e size v n xs) :
    (Builtin.append_ #[t, t] ty #[v, .slice none 0 c]).run Tryd.prog w = .ok v w := by
  rcases hown.2 with ⟨rfl, rfl⟩ | ⟨g, cap, cur, rfl, _, _, hnc, _⟩
  · simp [Builtin.append_, run_underlying ht, sizeOf, typeInfo, hi, Builtin.lenOf, Builtin.firstCells]
  · simp [Builtin.append_, run_underlying ht, sizeOf, typeInfo, hi, Builtin.lenOf, Builtin.firstCells, hnc, storeCells]

theorem own_shape {w : World} {base e size n : Nat} {v : Value} {xs : List Value} (h : w.ownsRow base e size v n xs) : ∃ A c, v = .slice A n c := by
  rcases h.2 with ⟨hv, h0⟩ | ⟨g, cap, cur, hv, _⟩
  · subst h0; exact ⟨_, _, hv⟩
  · exact ⟨_, _, hv⟩
theorem below_grown {w w' : World} {base e size n : Nat} {v : Value} {xs : List Value} (h : w.ownsRow base e size v n xs) (hg : w.grownBy w' v.ownBlock) (hb : base ≤ w.heap.size) : Below base w w' :=
  (Below.refl base w).grown hg hb fun k hk => (h.lt k hk).1

theorem run_append_rd37 (w : World) (base : Nat) (ty : TypeId) (v : Value) (xs : List Tok) (hown : w.ownsRow base 48 2 v xs.length (fcells xs)) (A : Option Addr) (c : Nat) (gs : List Tok) (hr : Rd w A gs)
    (hlen : xs.length + gs.length ≤ 200000) (hbase : base ≤ w.heap.size) :
    ∃ A' c' w', (Builtin.append_ #[22, 22] ty #[v, .slice A gs.length c]).run Tryd.prog w = .ok (.slice A' (xs ++ gs).length c') w' ∧ Own 48 w' base A' c' (xs ++ gs) ∧ Below base w w' := by
  obtain ⟨i0, hi, hz0, hz1, hz2⟩ := info_parts Tryd.info48
  have main : ∀ (ad : Addr), (∀ j u, (fcells gs)[j]? = some u → w.cell? (ad.add j) = some u) →
      ∃ A' c' w', (Builtin.append_ #[22, 22] ty #[v, .slice (some ad) gs.length c]).run Tryd.prog w = .ok (.slice A' (xs ++ gs).length c') w' ∧ Own 48 w' base A' c' (xs ++ gs) ∧ Below base w w' := fun ad hn => by
    obtain ⟨v', w', h1, h2, h3, _⟩ := run_append_own (P := Tryd.prog) w base 22 ty 48 i0 _ 2 24 Tryd.underlying22 hi hz0 hz1 hz2 rfl (by decide) v xs.length (fcells xs) hown ad gs.length c (fcells gs) (fcells_len gs) hn (fcells_one gs)
      (by unfold maxLen; omega) (by omega) hbase
    rw [← fcells_app] at h2
    obtain ⟨A', c', rfl⟩ := own_shape h2
    rw [← List.length_append] at h2 h1
    exact ⟨A', c', w', h1, h2, below_grown hown h3 hbase⟩
  cases A with
  | none =>
    have hg : gs = [] := by
      rcases Nat.eq_zero_or_pos gs.length with h | h
      · exact List.length_eq_zero_iff.1 h
      · obtain ⟨b, o, e, _⟩ := hr h; cases e
    subst hg
    obtain ⟨A', c', rfl⟩ := own_shape hown
    refine ⟨A', c', w, ?_, ?_, Below.refl _ _⟩
    · rw [List.append_nil]; exact run_append_none w base 22 ty 48 i0 2 c Tryd.underlying22 hi _ _ _ hown
    · rw [List.append_nil]; exact hown
  | some ad =>
    rcases Nat.eq_zero_or_pos gs.length with h | h
    · have hg := List.length_eq_zero_iff.1 h
      subst hg
      exact main ad fun j u hu => by simp [fcells] at hu
    · obtain ⟨b, o, e, hc⟩ := hr h
      cases e
      exact main _ (Rd.news hc)
theorem wpList_append_rd37 {ops : Array Oper} {rest : List Oper} {o : Oper} {a : Act} {Q : Exit → Act → World → Prop} (w : World) (hgd : o.guard = none) (s x : Operand)
    (ho : o.op = .call { callee := .builtin .append, args := #[s, x], argTypes := #[22, 22] }) (base : Nat) (v : Value) (xs : List Tok) (hs : a.eval s = v) (hown : w.ownsRow base 48 2 v xs.length (fcells xs))
    (A : Option Addr) (c : Nat) (gs : List Tok) (hx : a.eval x = .slice A gs.length c) (hr : Rd w A gs) (hlen : xs.length + gs.length ≤ 200000) (hbase : base ≤ w.heap.size)
    (h : ∀ A' c' w', Own 48 w' base A' c' (xs ++ gs) → Below base w w' → wpList Tryd.prog ops Q rest (a.put o.dst (.slice A' (xs ++ gs).length c')) w') : wpList Tryd.prog ops Q (o :: rest) a w := by
  refine wpList_plain hgd fun K hK => ?_
  obtain ⟨A', c', w', hrun, h2, h3⟩ := run_append_rd37 w base o.type v xs hown A c gs hr hlen hbase
  unfold Oper.wp
  simp only [execOp, ho, resolve, invoke, builtin, Sem.run_bind, Sem.run_pure, Result.andThen_ok, List.map_toArray, List.map_cons, List.map_nil, hs, hx, hrun]
  exact hK _ _ (h A' c' w' h2 h3)

/-- The same, the source's length as it is spelt. -/
theorem wpList_append_rdn37 {ops : Array Oper} {rest : List Oper} {o : Oper} {a : Act} {Q : Exit → Act → World → Prop} (w : World) (hgd : o.guard = none) (s x : Operand)
    (ho : o.op = .call { callee := .builtin .append, args := #[s, x], argTypes := #[22, 22] }) (base : Nat) (v : Value) (xs : List Tok) (hs : a.eval s = v) (hown : w.ownsRow base 48 2 v xs.length (fcells xs))
    (A : Option Addr) (m c : Nat) (gs : List Tok) (hm : m = gs.length) (hx : a.eval x = .slice A m c) (hr : Rd w A gs) (hlen : xs.length + gs.length ≤ 200000) (hbase : base ≤ w.heap.size) (r : List Tok) (hr0 : xs ++ gs = r)
    (h : ∀ A' c' w', Own 48 w' base A' c' r → Below base w w' → wpList Tryd.prog ops Q rest (a.put o.dst (.slice A' r.length c')) w') : wpList Tryd.prog ops Q (o :: rest) a w := by
  subst hm hr0
  exact wpList_append_rd37 w hgd s x ho base v xs hs hown A c gs hx hr hlen hbase h

theorem run_append_rd40 (w : World) (base : Nat) (ty : TypeId) (v : Value) (xs : List Tok) (hown : w.ownsRow base 65 2 v xs.length (fcells xs)) (A : Option Addr) (c : Nat) (gs : List Tok) (hr : Rd w A gs)
    (hlen : xs.length + gs.length ≤ 200000) (hbase : base ≤ w.heap.size) :
    ∃ A' c' w', (Builtin.append_ #[32, 32] ty #[v, .slice A gs.length c]).run Tryd.prog w = .ok (.slice A' (xs ++ gs).length c') w' ∧ Own 65 w' base A' c' (xs ++ gs) ∧ Below base w w' := by
  obtain ⟨i0, hi, hz0, hz1, hz2⟩ := info_parts Tryd.info65
  have main : ∀ (ad : Addr), (∀ j u, (fcells gs)[j]? = some u → w.cell? (ad.add j) = some u) →
      ∃ A' c' w', (Builtin.append_ #[32, 32] ty #[v, .slice (some ad) gs.length c]).run Tryd.prog w = .ok (.slice A' (xs ++ gs).length c') w' ∧ Own 65 w' base A' c' (xs ++ gs) ∧ Below base w w' := fun ad hn => by
    obtain ⟨v', w', h1, h2, h3, _⟩ := run_append_own (P := Tryd.prog) w base 32 ty 65 i0 _ 2 24 Tryd.underlying32 hi hz0 hz1 hz2 rfl (by decide) v xs.length (fcells xs) hown ad gs.length c (fcells gs) (fcells_len gs) hn (fcells_one gs)
      (by unfold maxLen; omega) (by omega) hbase
    rw [← fcells_app] at h2
    obtain ⟨A', c', rfl⟩ := own_shape h2
    rw [← List.length_append] at h2 h1
    exact ⟨A', c', w', h1, h2, below_grown hown h3 hbase⟩
  cases A with
  | none =>
    have hg : gs = [] := by
      rcases Nat.eq_zero_or_pos gs.length with h | h
      · exact List.length_eq_zero_iff.1 h
      · obtain ⟨b, o, e, _⟩ := hr h; cases e
    subst hg
    obtain ⟨A', c', rfl⟩ := own_shape hown
    refine ⟨A', c', w, ?_, ?_, Below.refl _ _⟩
    · rw [List.append_nil]; exact run_append_none w base 32 ty 65 i0 2 c Tryd.underlying32 hi _ _ _ hown
    · rw [List.append_nil]; exact hown
  | some ad =>
    rcases Nat.eq_zero_or_pos gs.length with h | h
    · have hg := List.length_eq_zero_iff.1 h
      subst hg
      exact main ad fun j u hu => by simp [fcells] at hu
    · obtain ⟨b, o, e, hc⟩ := hr h
      cases e
      exact main _ (Rd.news hc)
theorem wpList_append_rd40 {ops : Array Oper} {rest : List Oper} {o : Oper} {a : Act} {Q : Exit → Act → World → Prop} (w : World) (hgd : o.guard = none) (s x : Operand)
    (ho : o.op = .call { callee := .builtin .append, args := #[s, x], argTypes := #[32, 32] }) (base : Nat) (v : Value) (xs : List Tok) (hs : a.eval s = v) (hown : w.ownsRow base 65 2 v xs.length (fcells xs))
    (A : Option Addr) (c : Nat) (gs : List Tok) (hx : a.eval x = .slice A gs.length c) (hr : Rd w A gs) (hlen : xs.length + gs.length ≤ 200000) (hbase : base ≤ w.heap.size)
    (h : ∀ A' c' w', Own 65 w' base A' c' (xs ++ gs) → Below base w w' → wpList Tryd.prog ops Q rest (a.put o.dst (.slice A' (xs ++ gs).length c')) w') : wpList Tryd.prog ops Q (o :: rest) a w := by
  refine wpList_plain hgd fun K hK => ?_
  obtain ⟨A', c', w', hrun, h2, h3⟩ := run_append_rd40 w base o.type v xs hown A c gs hr hlen hbase
  unfold Oper.wp
  simp only [execOp, ho, resolve, invoke, builtin, Sem.run_bind, Sem.run_pure, Result.andThen_ok, List.map_toArray, List.map_cons, List.map_nil, hs, hx, hrun]
  exact hK _ _ (h A' c' w' h2 h3)

/-- The same, the source's length as it is spelt. -/
theorem wpList_append_rdn40 {ops : Array Oper} {rest : List Oper} {o : Oper} {a : Act} {Q : Exit → Act → World → Prop} (w : World) (hgd : o.guard = none) (s x : Operand)
    (ho : o.op = .call { callee := .builtin .append, args := #[s, x], argTypes := #[32, 32] }) (base : Nat) (v : Value) (xs : List Tok) (hs : a.eval s = v) (hown : w.ownsRow base 65 2 v xs.length (fcells xs))
    (A : Option Addr) (m c : Nat) (gs : List Tok) (hm : m = gs.length) (hx : a.eval x = .slice A m c) (hr : Rd w A gs) (hlen : xs.length + gs.length ≤ 200000) (hbase : base ≤ w.heap.size) (r : List Tok) (hr0 : xs ++ gs = r)
    (h : ∀ A' c' w', Own 65 w' base A' c' r → Below base w w' → wpList Tryd.prog ops Q rest (a.put o.dst (.slice A' r.length c')) w') : wpList Tryd.prog ops Q (o :: rest) a w := by
  subst hm hr0
  exact wpList_append_rd40 w hgd s x ho base v xs hs hown A c gs hx hr hlen hbase h

/-- A new list of the call's own. -/
def Res (t : TypeId) (w : World) (fs : List Tok) (e : Ending) (w' : World) : Prop := ∃ A c, e = .returned (.slice A fs.length c) ∧ Own t w' w.heap.size A c fs ∧ Below w.heap.size w w'
theorem one_read {w : World} {b : Nat} {f : Tok} (h1 : w.cell? ⟨b, 0, none⟩ = some (.int .i64 f.1)) (h2 : w.cell? ⟨b, 1, none⟩ = some (.string ⟨f.2.toArray⟩)) : Rd w (some ⟨b, 0, none⟩) [f] := fun _ =>
  ⟨b, 0, rfl, fun i g hi => by
    match i, hi with
    | 0, hi => simp at hi; subst hi; exact ⟨h1, h2⟩
    | i + 1, hi => simp at hi⟩
theorem Res.from {t : TypeId} {w w1 : World} {fs : List Tok} {e : Ending} {w' : World} (h : Res t w1 fs e w') (hb : Below w.heap.size w w1) : Res t w fs e w' := by
  obtain ⟨A, c, he, ho, hb1⟩ := h
  exact ⟨A, c, he, ho.mono hb.size, bch hb hb1⟩

end Go.Proofs.YtckldeabbkdbjaaDoor

namespace Go.Proofs.YtckldeabbkdbjaaDoor
open Go.RowKit

theorem esc_int {c : UInt8} {x : Int} (hx : (c.toNat : Int) = x) (h : x = 32 ∨ x = 9 ∨ x = 10 ∨ x = 37 ∨ x = 123 ∨ x = 125 ∨ x = 92 ∨ x = 35) : escB c = true := by
  subst hx
  unfold escB
  rcases h with h | h | h | h | h | h | h | h
  · rw [byte_lit (n := 32) h]; rfl
  · rw [byte_lit (n := 9) h]; rfl
  · rw [byte_lit (n := 10) h]; rfl
  · rw [byte_lit (n := 37) h]; rfl
  · rw [byte_lit (n := 123) h]; rfl
  · rw [byte_lit (n := 125) h]; rfl
  · rw [byte_lit (n := 92) h]; rfl
  · rw [byte_lit (n := 35) h]; rfl
theorem esc_not {c : UInt8} {x : Int} (hx : (c.toNat : Int) = x) (h : x ≠ 32 ∧ x ≠ 9 ∧ x ≠ 10 ∧ x ≠ 37 ∧ x ≠ 123 ∧ x ≠ 125 ∧ x ≠ 92 ∧ x ≠ 35) : escB c = false := by
  subst hx
  obtain ⟨h1, h2, h3, h4, h5, h6, h7, h8⟩ := h
  unfold escB blk
  simp only [Bool.or_eq_false_iff, beq_eq_false_iff_ne]
  exact ⟨⟨⟨⟨⟨⟨⟨byte_ne (n := 32) h1 (by omega), byte_ne (n := 9) h2 (by omega)⟩, byte_ne (n := 10) h3 (by omega)⟩, byte_ne (n := 92) h7 (by omega)⟩, byte_ne (n := 123) h5 (by omega)⟩, byte_ne (n := 125) h6 (by omega)⟩, byte_ne (n := 37) h4 (by omega)⟩, byte_ne (n := 35) h8 (by omega)⟩
theorem safe_app (a b : By) : safeL (a ++ b) = safeL a ++ safeL b := by simp [safeL]
theorem safe_yes {c : UInt8} (h : escB c = true) : safeL [c] = [92, c] := by simp [safeL, h]
theorem safe_no {c : UInt8} (h : escB c = false) : safeL [c] = [c] := by simp [safeL, h]
theorem safe_len : ∀ (w : By), (safeL w).length ≤ 2 * w.length
  | [] => by simp [safeL]
  | c :: w => by
    have := safe_len w
    rw [safe_cons, List.length_append]
    have : (if escB c = true then [92, c] else [c]).length ≤ 2 := by split <;> simp
    simp only [List.length_cons]
    omega
theorem str_eq {a b : By} (h : a = b) : Value.string ⟨a.toArray⟩ = .string ⟨b.toArray⟩ := by rw [h]
theorem ret_eq {a b : Value} (h : a = b) : Ending.returned a = .returned b := by rw [h]
set_option maxRecDepth 100000 in
set_option maxHeartbeats 2000000 in
theorem escaped_any (s : ByteArray) (w : World) (hs : s.size ≤ 4000) :
    Calls Tryd.prog 54 #[.string s] w fun e w' => e = .returned (.string ⟨(safeL s.data.toList).toArray⟩) ∧ Below w.heap.size w w' := by
  have hb0 := Lib.IsBuilderF.of (Lib.fresh_isBuilder 87 5 w)
  go_enter Tryd.func54, Tryd.ntmps54
  go_wp2_with fail
  go_loopw [7] (fun i wr => ∃ (k : Nat) (l : By), k ≤ s.size ∧ i = .int .i64 k ∧ Hid (safeL (s.data.toList.take k) = l) ∧ l.length ≤ 2 * k ∧ Lib.IsBuilderF 87 5 w.heap.size w.heap.size (Lib.byteCells l) wr ∧ Below w.heap.size w wr) (fun i _ => s.size - (intOf i).toNat)
  case atStart => exact ⟨0, [], Nat.zero_le _, rfl, Lib.hid rfl, by simp, hb0, one_below _ _⟩
  case round =>
    clear hb0
    obtain ⟨k, l, hk, rfl, HL, hll, hbu, hb⟩ := hrel
    by_cases hlt : k < s.size
    · have hst := take_step s k hlt
      obtain ⟨x, hx⟩ : ∃ x : Int, (s[k].toNat : Int) = x := ⟨_, rfl⟩
      obtain ⟨l1, hl1⟩ : ∃ l1, l ++ [(92 : UInt8)] = l1 := ⟨_, rfl⟩
      obtain ⟨l2, hl2⟩ : ∃ l2, l1 ++ [s[k]] = l2 := ⟨_, rfl⟩
      obtain ⟨m, hm⟩ : ∃ m, l ++ [s[k]] = m := ⟨_, rfl⟩
      have hl1l : l1.length = l.length + 1 := by rw [← hl1]; simp
      have hl2l : l2.length = l.length + 2 := by rw [← hl2]; simp [hl1l]
      have hml : m.length = l.length + 1 := by rw [← hm]; simp
      have HX := Lib.hid hx
      rcases kd_cases x with h | h | h | h | h | h | h | h | h
      case inr.inr.inr.inr.inr.inr.inr.inr =>
        have HN := Lib.hid (show safeL (s.data.toList.take (k + 1)) = m by rw [hst, safe_app, safe_no (esc_not hx h), HL.out, hm])
        have C := Lib.hid (byte_any w.heap.size l m s[k] x wr hbu hx (by omega) hm hb.size)
        obtain ⟨h1, h2, h3, h4, h5, h6, h7, h8⟩ := h
        have d1 : (x == 32) = false := by simpa using h1
        have d2 : (x == 9) = false := by simpa using h2
        have d3 : (x == 10) = false := by simpa using h3
        have d4 : (x == 37) = false := by simpa using h4
        have d5 : (x == 123) = false := by simpa using h5
        have d6 : (x == 125) = false := by simpa using h6
        have d7 : (x == 92) = false := by simpa using h7
        have d8 : (x == 35) = false := by simpa using h8
        clear h1 h2 h3 h4 h5 h6 h7 h8 hst hl1 hl2 hm hbu HL hl1l hl2l
        go_wp2_with fail
        refine C.out.mono ?_
        rintro e w1 ⟨rfl, hbu1, hb1, _⟩
        have hb2 := hb.trans hb1
        clear C hb hb1
        go_wp2_with fail
        go_roundw
        case rel => exact ⟨k + 1, m, by omega, by go_num, HN, by omega, hbu1, hb2⟩
        case measure => simp [intOf]; omega
      all_goals
        have HN := Lib.hid (show safeL (s.data.toList.take (k + 1)) = l2 by rw [hst, safe_app, safe_yes (esc_int hx (by subst h; simp)), HL.out, ← hl2, ← hl1]; simp)
        have C1 := Lib.hid (byte_any w.heap.size l l1 92 92 wr hbu (by rfl) (by omega) hl1 hb.size)
        have HL2 := Lib.hid hl2
        subst h
        clear hst hl1 hl2 hm hbu HL hml
        go_wp2_with fail
        refine C1.out.mono ?_
        rintro e w1 ⟨rfl, hbu1, hb1, _⟩
        have hb2 := hb.trans hb1
        have C2 := Lib.hid (byte_any w.heap.size l1 l2 s[k] _ w1 hbu1 HX.out (by omega) HL2.out hb2.size)
        clear C1 hb hb1 hbu1
        go_wp2_with fail
        refine C2.out.mono ?_
        rintro e w3 ⟨rfl, hbu3, hb3, _⟩
        have hb4 := hb2.trans hb3
        clear C2 hb2 hb3
        go_wp2_with fail
        go_roundw
        case rel => exact ⟨k + 1, l2, by omega, by go_num, HN, by omega, hbu3, hb4⟩
        case measure => simp [intOf]; omega
    · have hfin := HL.out
      rw [List.take_of_length_le (by rw [size_list]; omega)] at hfin
      have HF := Lib.hid hfin
      have C := Lib.hid (Tryd.Builder_String_anyF w.heap.size w.heap.size l wr hbu hb.size)
      clear hfin HL hbu
      go_wp2_with fail
      refine C.out.mono ?_
      rintro e w' ⟨rfl, _, hb2, _⟩
      go_wp2
      go_ret
      exact ⟨ret_eq (str_eq HF.out.symm), hb.trans hb2⟩
end Go.Proofs.YtckldeabbkdbjaaDoor

namespace Go.Proofs.YtckldeabbkdbjaaDoor
open Go.RowKit

theorem at_take {α : Type} {l : List α} {k : Nat} {f : α} (h : l[k]? = some f) : l.take (k + 1) = l.take k ++ [f] := by
  rw [List.take_add_one, h]; rfl
theorem text_step {ts : List Tok} {k : Nat} {f : Tok} (h : ts[k]? = some f) : textL (ts.take (k + 1)) = textL (ts.take k) ++ tokT f := by
  rw [at_take h]; unfold textL; rw [List.flatMap_append]; simp
def Mild (ts : List Tok) : Prop := ∀ t ∈ ts, t.2.length ≤ 4000
theorem tokT_len (t : Tok) (h : t.2.length ≤ 4000) : (tokT t).length ≤ 8100 := by
  unfold tokT
  have := safe_len t.2
  split
  · omega
  · split
    · simp
    · split
      · simp
      · split
        · simp; omega
        · split
          · simp
          · split
            · simp
            · split
              · simp; omega
              · simp
theorem cells_two {w : World} {h : Nat} {a b : Value} {t : TypeId} {fr : Nat × Nat} (hh : w.heap[h]? = some (.cells #[a, b] t fr)) : w.cell? ⟨h, 0, none⟩ = some a ∧ w.cell? ⟨h, 1, none⟩ = some b := by
  constructor <;> simp [World.cell?, hh]
theorem kind_ways (k : Int) : k = 1 ∨ k = 2 ∨ k = 3 ∨ k = 4 ∨ k = 5 ∨ k = 6 ∨ k = 7 ∨ (k ≠ 1 ∧ k ≠ 2 ∧ k ≠ 3 ∧ k ≠ 4 ∧ k ≠ 5 ∧ k ≠ 6 ∧ k ≠ 7) := by omega
set_option maxRecDepth 100000 in
set_option maxHeartbeats 4000000 in
theorem text_any (A : Option Addr) (c : Nat) (ts : List Tok) (w : World) (hr : Rd w A ts) (hm : Hid (Mild ts)) (hl : ts.length ≤ 10000) :
    Calls Tryd.prog 36 #[.slice A ts.length c] w fun e w' => e = .returned (.string ⟨(textL ts).toArray⟩) ∧ Below w.heap.size w w' := by
  have hb0 := Lib.IsBuilderF.of (Lib.fresh_isBuilder 87 5 w)
  go_enter Tryd.func36, Tryd.ntmps36
  go_wp2_with fail
  go_loopw [8] (fun i wr => ∃ (k : Nat) (l : By), k ≤ ts.length ∧ i = .int .i64 k ∧ Hid (textL (ts.take k) = l) ∧ l.length ≤ 8100 * k ∧ Lib.IsBuilderF 87 5 w.heap.size w.heap.size (Lib.byteCells l) wr ∧ Below w.heap.size w wr ∧ w.heap.size < wr.heap.size) (fun i _ => ts.length - (intOf i).toNat)
  case atStart => exact ⟨0, [], Nat.zero_le _, rfl, Lib.hid rfl, by simp, hb0, one_below _ _, by simp⟩
  case round =>
    clear hb0
    obtain ⟨k, l, hk, rfl, HL, hll, hbu, hb, hsz⟩ := hrel
    by_cases hlt : k < ts.length
    · obtain ⟨b, o, rfl, hcell⟩ := (hr.below hb) (by omega)
      obtain ⟨f, hf⟩ : ∃ f, ts[k]? = some f := ⟨_, List.getElem?_eq_getElem hlt⟩
      obtain ⟨c1, c2⟩ := hcell k f hf
      have hz := hm.out f (List.mem_of_getElem? hf)
      have hst := text_step hf
      have htl := tokT_len f hz
      rw [HL.out] at hst
      obtain ⟨κ, z⟩ := f
      simp only at c1 c2 hz
      obtain ⟨m, hmm⟩ : ∃ m, l ++ tokT (κ, z) = m := ⟨_, rfl⟩
      rw [hmm] at hst
      have HN := Lib.hid hst
      have hml : m.length ≤ 8100 * (k + 1) := by rw [← hmm, List.length_append]; omega
      have b1 := bch hb (one_below wr (.cells #[.int .i64 κ, .string ⟨z.toArray⟩] 48))
      have HBL : Hid ((wr.alloc (.cells #[.int .i64 κ, .string ⟨z.toArray⟩] 48)).heap[wr.heap.size]? = some (.cells #[.int .i64 κ, .string ⟨z.toArray⟩] 48)) := Lib.hid (heap_alloc_new wr _)
      have HBU := Lib.hid (IsBuilderF_below hbu (one_below wr (.cells #[.int .i64 κ, .string ⟨z.toArray⟩] 48)))
      have hll2 : l.length ≤ 90000000 := by omega
      clear hf hcell hst htl hbu HL hll
      rcases kind_ways κ with rfl | rfl | rfl | rfl | rfl | rfl | rfl | hκ
      · have C1 := Lib.hid (escaped_any ⟨z.toArray⟩ (wr.alloc (.cells #[.int .i64 1, .string ⟨z.toArray⟩] 48)) hz)
        rw [show (⟨z.toArray⟩ : ByteArray).data.toList = z from rfl] at C1
        obtain ⟨p, hp⟩ : ∃ p, safeL z = p := ⟨_, rfl⟩
        have hpl : p.length ≤ 8000 := by rw [← hp]; have := safe_len z; omega
        have HM := Lib.hid (show l ++ p = m by rw [← hmm, ← hp]; rfl)
        rw [hp] at C1
        clear hmm hp
        go_wp2_with fail
        refine C1.out.mono ?_
        rintro e wa ⟨rfl, hba⟩
        have b2 := bch b1 hba
        have C2 := Lib.hid (write_any w.heap.size l p m wa (IsBuilderF_below HBU.out hba) (by omega) (by omega) HM.out b2.size)
        clear HBL hba b1 C1 HBU c1 c2
        go_wp2_with fail
        refine C2.out.mono ?_
        rintro e wd ⟨rfl, hbuD, hbd, _⟩
        have b5 := b2.trans hbd
        clear C2 b2 hbd
        go_wp2_with fail
        go_roundw
        case rel => exact ⟨k + 1, m, by omega, by go_num, HN, hml, hbuD, b5, by have := hbuD.elim (fun h => h.lt) (fun h => h.lt); omega⟩
        case measure => simp [intOf]; omega
      · have C1 := Lib.hid (byte_any w.heap.size l m 32 32 (wr.alloc (.cells #[.int .i64 2, .string ⟨z.toArray⟩] 48)) HBU.out (by rfl) (by omega) hmm b1.size)
        clear hmm HBL HBU
        go_wp2_with fail
        refine C1.out.mono ?_
        rintro e wd ⟨rfl, hbuD, hbd, _⟩
        have b5 := b1.trans hbd
        clear C1 b1 hbd c1 c2
        go_wp2_with fail
        go_roundw
        case rel => exact ⟨k + 1, m, by omega, by go_num, HN, hml, hbuD, b5, by have := hbuD.elim (fun h => h.lt) (fun h => h.lt); omega⟩
        case measure => simp [intOf]; omega
      · have C1 := Lib.hid (write_any w.heap.size l [10, 10] m (wr.alloc (.cells #[.int .i64 3, .string ⟨z.toArray⟩] 48)) HBU.out (by omega) (by simp) hmm b1.size)
        clear hmm HBL HBU
        go_wp2_with fail
        refine C1.out.mono ?_
        rintro e wd ⟨rfl, hbuD, hbd, _⟩
        have b5 := b1.trans hbd
        clear C1 b1 hbd c1 c2
        go_wp2_with fail
        go_roundw
        case rel => exact ⟨k + 1, m, by omega, by go_num, HN, hml, hbuD, b5, by have := hbuD.elim (fun h => h.lt) (fun h => h.lt); omega⟩
        case measure => simp [intOf]; omega
      · obtain ⟨m1, hm1⟩ : ∃ m1, l ++ [(92 : UInt8)] = m1 := ⟨_, rfl⟩
        have hm1l : m1.length = l.length + 1 := by rw [← hm1]; simp
        have HM := Lib.hid (show m1 ++ z = m by rw [← hmm, ← hm1]; simp [tokT])
        have C1 := Lib.hid (byte_any w.heap.size l m1 92 92 (wr.alloc (.cells #[.int .i64 4, .string ⟨z.toArray⟩] 48)) HBU.out (by rfl) (by omega) hm1 b1.size)
        clear hmm HBU hm1
        go_wp2_with fail
        refine C1.out.mono ?_
        rintro e wb ⟨rfl, hbuB, hbb, hkB⟩
        have hbl2 := hkB wr.heap.size _ HBL.out (fun q => by simp at q; omega) (fun c fz q => by simp at q)
        obtain ⟨d1, d2⟩ := cells_two hbl2
        have b3 := b1.trans hbb
        have C4 := Lib.hid (write_any w.heap.size m1 z m wb hbuB (by omega) (by omega) HM.out b3.size)
        clear C1 HBL b1 hbb hkB hbl2 hbuB c1 c2
        go_wp2_with fail
        refine C4.out.mono ?_
        rintro e wd ⟨rfl, hbuD, hbd, _⟩
        have b5 := b3.trans hbd
        clear C4 b3 hbd d1 d2
        go_wp2_with fail
        go_roundw
        case rel => exact ⟨k + 1, m, by omega, by go_num, HN, hml, hbuD, b5, by have := hbuD.elim (fun h => h.lt) (fun h => h.lt); omega⟩
        case measure => simp [intOf]; omega
      · have C1 := Lib.hid (byte_any w.heap.size l m 123 123 (wr.alloc (.cells #[.int .i64 5, .string ⟨z.toArray⟩] 48)) HBU.out (by rfl) (by omega) hmm b1.size)
        clear hmm HBL HBU
        go_wp2_with fail
        refine C1.out.mono ?_
        rintro e wd ⟨rfl, hbuD, hbd, _⟩
        have b5 := b1.trans hbd
        clear C1 b1 hbd c1 c2
        go_wp2_with fail
        go_roundw
        case rel => exact ⟨k + 1, m, by omega, by go_num, HN, hml, hbuD, b5, by have := hbuD.elim (fun h => h.lt) (fun h => h.lt); omega⟩
        case measure => simp [intOf]; omega
      · have C1 := Lib.hid (byte_any w.heap.size l m 125 125 (wr.alloc (.cells #[.int .i64 6, .string ⟨z.toArray⟩] 48)) HBU.out (by rfl) (by omega) hmm b1.size)
        clear hmm HBL HBU
        go_wp2_with fail
        refine C1.out.mono ?_
        rintro e wd ⟨rfl, hbuD, hbd, _⟩
        have b5 := b1.trans hbd
        clear C1 b1 hbd c1 c2
        go_wp2_with fail
        go_roundw
        case rel => exact ⟨k + 1, m, by omega, by go_num, HN, hml, hbuD, b5, by have := hbuD.elim (fun h => h.lt) (fun h => h.lt); omega⟩
        case measure => simp [intOf]; omega
      · obtain ⟨m1, hm1⟩ : ∃ m1, l ++ [(35 : UInt8)] = m1 := ⟨_, rfl⟩
        have hm1l : m1.length = l.length + 1 := by rw [← hm1]; simp
        have HM := Lib.hid (show m1 ++ z = m by rw [← hmm, ← hm1]; simp [tokT])
        have C1 := Lib.hid (byte_any w.heap.size l m1 35 35 (wr.alloc (.cells #[.int .i64 7, .string ⟨z.toArray⟩] 48)) HBU.out (by rfl) (by omega) hm1 b1.size)
        clear hmm HBU hm1
        go_wp2_with fail
        refine C1.out.mono ?_
        rintro e wb ⟨rfl, hbuB, hbb, hkB⟩
        have hbl2 := hkB wr.heap.size _ HBL.out (fun q => by simp at q; omega) (fun c fz q => by simp at q)
        obtain ⟨d1, d2⟩ := cells_two hbl2
        have b3 := b1.trans hbb
        have C4 := Lib.hid (write_any w.heap.size m1 z m wb hbuB (by omega) (by omega) HM.out b3.size)
        clear C1 HBL b1 hbb hkB hbl2 hbuB c1 c2
        go_wp2_with fail
        refine C4.out.mono ?_
        rintro e wd ⟨rfl, hbuD, hbd, _⟩
        have b5 := b3.trans hbd
        clear C4 b3 hbd d1 d2
        go_wp2_with fail
        go_roundw
        case rel => exact ⟨k + 1, m, by omega, by go_num, HN, hml, hbuD, b5, by have := hbuD.elim (fun h => h.lt) (fun h => h.lt); omega⟩
        case measure => simp [intOf]; omega
      · obtain ⟨h1, h2, h3, h4, h5, h6, h7⟩ := hκ
        have e1 : m = l := by rw [← hmm]; unfold tokT; simp [h1, h2, h3, h4, h5, h6, h7]
        have d1 : (κ == 1) = false := by simpa using h1
        have d2 : (κ == 2) = false := by simpa using h2
        have d3 : (κ == 3) = false := by simpa using h3
        have d4 : (κ == 4) = false := by simpa using h4
        have d5 : (κ == 5) = false := by simpa using h5
        have d6 : (κ == 6) = false := by simpa using h6
        have d7 : (κ == 7) = false := by simpa using h7
        have hbuD : Lib.IsBuilderF 87 5 w.heap.size w.heap.size (Lib.byteCells m) (wr.alloc (.cells #[.int .i64 κ, .string ⟨z.toArray⟩] 48)) := by rw [e1]; exact HBU.out
        have HD := Lib.hid hbuD
        have B5 := Lib.hid b1
        clear h1 h2 h3 h4 h5 h6 h7 hmm HBL HBU e1 hbuD b1
        go_wp2_with fail
        go_roundw
        case rel => exact ⟨k + 1, m, by omega, by go_num, HN, hml, HD.out, B5.out, by simp; omega⟩
        case measure => simp [intOf]; omega
    · have hfin := HL.out
      rw [List.take_of_length_le (by omega)] at hfin
      have HF := Lib.hid hfin
      have C := Lib.hid (Tryd.Builder_String_anyF w.heap.size w.heap.size l wr hbu hb.size)
      clear hfin HL hbu
      go_wp2_with fail
      refine C.out.mono ?_
      rintro e w' ⟨rfl, _, hb2, _⟩
      go_wp2
      go_ret
      exact ⟨ret_eq (str_eq HF.out.symm), hb.trans hb2⟩
end Go.Proofs.YtckldeabbkdbjaaDoor

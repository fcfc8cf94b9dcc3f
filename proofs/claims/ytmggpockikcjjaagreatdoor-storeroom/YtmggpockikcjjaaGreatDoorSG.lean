/-
  Contracts of read and Load: what a store holds; the disk and the store stay as they are.
-/
import Derived.Test.YtmggpockikcjjaaGreatDoorSE
import Derived.BigQuiet
namespace Go.Proofs.YtmggpockikcjjaaGreatDoor
open Go.RowKit
open Dsk (DS Tx Wt Kp DiskAt readS readE NoB)

theorem read_at {st : DS} {n i : Nat} (hn : st.n = n) (hp : st.pend = []) (hi : i < n) : readS st i = st.base i := by
  unfold readS
  rw [show Dsk.hasB st i = true by unfold Dsk.hasB; simp; omega, if_pos rfl, hp]
  simp [Dsk.doL_nil]
theorem SAt.below {w w' : World} {q s : Nat} {F : Nat → Prop} {n : Nat} {fs : List Fl} {st : DS} (h : SAt w q s F n fs st) (hb : Below w.heap.size w w') : SAt w' q s F n fs st := by
  obtain ⟨hd, hnq, hlo, hqlo, n4, n64, hn, hp, a, k, hH, bq⟩ := h
  exact ⟨hd.kp (Kp.of_below hb NoB) (fun _ _ h => h), hnq, hlo, hqlo, n4, n64, hn, hp, a, k, hH, blk_below hb bq⟩

set_option maxRecDepth 100000 in
set_option maxHeartbeats 4000000 in
theorem sread_any (q s n : Nat) (F : Nat → Prop) (st : DS) (fs : List Fl) (w : World) (hS : SAt w q s F n fs st) :
    Calls Tryz.prog 32 #[.pointer (some ⟨q, 0, none⟩)] w fun e w' => e = .returned (.string ⟨(filesL fs).toArray⟩) ∧ Below w.heap.size w w' := by
  obtain ⟨hd, hnq, hlo, hqlo, n4, n64, hn, hp, h, k, hH, bq⟩ := hS
  have hok := hd.ok
  have h1 := hH.h1
  have hk := hH.k1
  have hh2 : halfN n ≤ 31 := by unfold halfN; omega
  obtain ⟨f, hf⟩ : ∃ f, firstN n h = f := ⟨_, rfl⟩
  have hfe : f + halfN n ≤ n := by rw [← hf]; exact first_end n4
  have HX := Lib.hid (show catR st.base f k = filesL fs by rw [← hf]; exact hH.text)
  have HB := Lib.hid hok.base
  have HD := Lib.hid hd
  have HN := Lib.hid (And.intro hn hp)
  have B0 := Lib.IsBuilderF.of (Lib.fresh_isBuilder 82 5 w)
  have hqa : q < w.heap.size := Dsk.lt_of_blk bq
  have c0 : w.cell? ⟨q, 0, none⟩ = some (.pointer (some ⟨s, 0, none⟩)) := Dsk.cell_of bq 0
  have c3 : w.cell? ⟨q, 3, none⟩ = some (.int .i64 h) := Dsk.cell_of bq 3
  have c4 : w.cell? ⟨q, 4, none⟩ = some (.int .i64 k) := Dsk.cell_of bq 4
  have ch : w.cell? ⟨q, 1 + h, none⟩ = some (.int .i64 f) := by
    rcases (show h = 0 ∨ h = 1 by omega) with rfl | rfl
    · rw [← hf]; exact Dsk.cell_of bq 1
    · rw [← hf]; exact Dsk.cell_of bq 2
  generalize filesL fs = text at *
  clear hd hok hH hn hp bq hf hnq hlo hqlo
  rcases (show h = 0 ∨ h = 1 by omega) with rfl | rfl
  all_goals
    go_enter Tryz.func32, Tryz.ntmps32
    go_wp2_with fail
    go_quiet (fail)
    go_wp2_with fail
    go_loopw [23] (fun i wr => ∃ (j : Nat) (l : List UInt8), j ≤ k ∧ i = .int .i64 j ∧ Hid (catR st.base f j = l) ∧ Lib.IsBuilderF 82 5 w.heap.size w.heap.size (Lib.byteCells l) wr ∧ Below w.heap.size w wr ∧ w.heap.size < wr.heap.size) (fun i _ => k - (intOf i).toNat)
    case atStart => exact ⟨0, [], Nat.zero_le _, rfl, Lib.hid rfl, IsBuilderF_below B0 (drewN_below _ _), bch (one_below _ _) (drewN_below _ _), by simp [World.drewN]⟩
    case round =>
      obtain ⟨j, l, hj, rfl, HL, hbu, hb, hsz⟩ := hrel
      have HBU := Lib.hid hbu
      have HBW := Lib.hid hb
      have hll : l.length ≤ 2000 := by have := catR_len (f := f) HB.out j; rw [HL.out] at this; omega
      by_cases hlt : j < k
      · have hqw := cell_below hb c0
        obtain ⟨p, hp⟩ : ∃ p, st.base (f + j) = p := ⟨_, rfl⟩
        have hpl : p.length ≤ 64 := by rw [← hp]; exact HB.out _
        obtain ⟨m, hm⟩ : ∃ m, l ++ p = m := ⟨_, rfl⟩
        have HNX := Lib.hid (show catR st.base f (j + 1) = m by rw [← hm, ← hp, ← HL.out]; rfl)
        have C := Dsk.read_any ((f : Int) + j) s F st wr (HD.out.kp (Kp.of_below hb NoB) (fun _ _ h => h))
        rw [show readS st ((f : Int) + j) = p by rw [show ((f : Int) + j) = ((f + j : Nat) : Int) by omega, read_at HN.out.1 HN.out.2 (by omega), hp]] at C
        generalize readE st ((f : Int) + j) = E at C
        have CH := Lib.hid C
        have HM := Lib.hid hm
        clear C hm hp hbu hb HL B0
        go_wp2_with fail
        refine CH.out.mono ?_
        rintro e wr ⟨rfl, rfl⟩
        clear CH
        go_wp2_with fail
        refine (write_any w.heap.size l p m wr HBU.out (by omega) (by omega) HM.out HBW.out.size).mono ?_
        rintro e w2 ⟨rfl, hb2, hb3, _⟩
        have H2 := Lib.hid (And.intro hb2 (HBW.out.trans hb3))
        clear hb2 hb3 hqw HBU HBW
        go_wp2_with fail
        go_roundw
        case rel => exact ⟨j + 1, m, by omega, by go_num, HNX, H2.out.1, H2.out.2, by have := H2.out.1.elim (fun h => h.lt) (fun h => h.lt); omega⟩
        case measure => simp [intOf]; omega
      · obtain rfl : j = k := by omega
        have HF := Lib.hid (HX.out.symm.trans HL.out)
        have C := Lib.hid (Tryz.Builder_String_anyF w.heap.size w.heap.size l wr hbu hb.size)
        clear HL hbu hb HBU
        go_wp2_with fail
        refine C.out.mono ?_
        rintro e w' ⟨rfl, _, hb2, _⟩
        go_wp2
        go_ret
        exact ⟨ret_eq (str_eq HF.out.symm), HBW.out.trans hb2⟩

set_option maxHeartbeats 1000000 in
theorem load_any (q s n : Nat) (F : Nat → Prop) (st : DS) (fs : List Fl) (w : World) (hS : SAt w q s F n fs st) :
    Calls Tryz.prog 16 #[.pointer (some ⟨q, 0, none⟩)] w (Res w fs) := by
  have C := Lib.hid (sread_any q s n F st fs w hS)
  obtain ⟨hd, hnq, hlo, hqlo, n4, n64, hn, hp, h, k, hH, bq⟩ := hS
  have hl : (filesL fs).length ≤ 2000 := by
    rw [← hH.text]
    have := catR_len (f := firstN n h) hd.ok.base k
    have := hH.k1
    unfold halfN at this; omega
  have C2 := Lib.hid (fun (w : World) => parse_yes (filesL fs) fs w (by omega) (parse_files hH.good))
  generalize filesL fs = text at *
  clear hd hH bq hlo
  go_enter Tryz.func16, Tryz.ntmps16
  go_wp2_with fail
  refine C.out.mono ?_
  rintro e w1 ⟨rfl, hb1⟩
  go_wp2_with fail
  refine (C2.out w1).mono ?_
  rintro e w2 ⟨A, c, rfl, ho, hb2⟩
  have H2 := Lib.hid (And.intro ho hb2)
  clear ho hb2 C C2
  go_wp2
  go_ret
  exact ⟨A, c, rfl, H2.out.1.mono hb1.size, bch hb1 H2.out.2⟩
end Go.Proofs.YtmggpockikcjjaaGreatDoor

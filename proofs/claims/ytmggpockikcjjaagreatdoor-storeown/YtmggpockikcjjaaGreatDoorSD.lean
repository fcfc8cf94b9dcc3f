/-
  The contract of fill: the pieces of a text, written sector by sector; where the disk stops it panics.
-/
import Derived.Test.YtmggpockikcjjaaGreatDoorSB
import Derived.Test.YtmggpockikcjjaaGreatDoorJ
namespace Go.Proofs.YtmggpockikcjjaaGreatDoor
open Go.RowKit
open Dsk (DS Tx Wt Kp DiskAt liveB writeE writeS usedS pushS hasB)

theorem cut_behind (s r : List UInt8) (c : Nat) (hc : c ≤ s.length) (hr : s.drop c = r) (w : World) : (Instr.slice 9 (.string ⟨s.toArray⟩) (some (.int .i64 c)) none none).run Tryz.prog w = .ok (.string ⟨r.toArray⟩) w := by
  rw [run_slice_string_from_if w 9 ⟨s.toArray⟩ .i64 _ Tryz.underlying9, if_pos ⟨by omega, by show (c : Int) ≤ ((s.toArray.size : Nat) : Int); simp; omega⟩]
  subst hr
  congr 2
  apply ByteArray.ext
  simp
  exact List.take_of_length_le (by rw [List.length_drop]; exact Nat.le_refl _)
theorem drop_next {text r piece : Tx} {j : Nat} (hr : text.drop (64 * j) = r) (hp : r.take 64 = piece) : r.drop piece.length = text.drop (64 * (j + 1)) := by
  subst hr hp
  rw [List.length_take, List.drop_drop]
  by_cases h : 64 ≤ (text.drop (64 * j)).length
  · rw [Nat.min_eq_left h, show 64 * j + 64 = 64 * (j + 1) by omega]
  · rw [List.length_drop] at *
    rw [List.drop_eq_nil_of_le (by omega), List.drop_eq_nil_of_le (by omega)]
theorem write_in {st : DS} {i : Nat} {t : Tx} (hi : i < st.n) (ht : t.length ≤ 64) : (liveB st = true → writeE st i t = 0 ∧ writeS st i t = pushS (usedS st) i t) ∧ (liveB st = false → writeE st i t = 8 ∧ writeS st i t = st) := by
  have hb : hasB st i = true := by unfold hasB; simp; omega
  unfold writeE writeS
  rw [hb]
  simp only [ht, if_true]
  refine ⟨fun h => ?_, fun h => ?_⟩
  · rw [h]; simp
  · rw [h]; simp
def FillPost (w : World) (s n : Nat) (F : Nat → Prop) (st0 : DS) (first : Nat) (text : Tx) (e : Ending) (w' : World) : Prop :=
  Kp F w w' ∧ ∃ F' st j, DiskAt w' s F' st ∧ (∀ x, F' x → F x ∨ w.heap.size ≤ x) ∧ FillI st0 first text j st ∧ j ≤ halfN n ∧ ((e = .returned (.int .i64 (j : Nat)) ∧ text.take (64 * j) = text) ∨ (e = .panicked pan8 ∧ liveB st = false))
theorem first_cell {w : World} {q : Nat} {v : Value} {F : Nat → Prop} {w' : World} (h : w.cell? ⟨q, 0, none⟩ = some v) (hk : Kp F w w') (hq : ¬ F q) : w'.cell? ⟨q, 0, none⟩ = some v :=
  (World.cell?_of_block (hk.block q (World.block_lt_of_cell? w _ h) hq)).trans h

set_option maxRecDepth 100000 in
set_option maxHeartbeats 4000000 in
theorem fill_any (q s n first : Nat) (F : Nat → Prop) (st0 : DS) (text : Tx) (w : World) (hd : DiskAt w s F st0) (hq : w.cell? ⟨q, 0, none⟩ = some (.pointer (some ⟨s, 0, none⟩))) (hnq : ¬ F q) (hn : st0.n = n) (n4 : n ≤ 4096)
    (hp : st0.pend = []) (hf : first + halfN n ≤ n) (hl : text.length ≤ 64 * halfN n) (hc : st0.cnt + halfN n + 1 < 1000) :
    Calls Tryz.prog 42 #[.pointer (some ⟨q, 0, none⟩), .int .i64 first, .string ⟨text.toArray⟩] w (FillPost w s n F st0 first text) := by
  have hh := half_le n4
  have hlen : text.length ≤ 200000 := by omega
  have HQ := Lib.hid hq
  have HNQ := Lib.hid hnq
  have HD := Lib.hid hd
  have HI := Lib.hid (FillI.start first text hp)
  have HN := Lib.hid hn
  have HL := Lib.hid hl
  clear hq hnq hd hp hn hl
  go_enter Tryz.func42, Tryz.ntmps42
  go_wp2_with fail
  go_loopw [2, 7] (fun vt vj wr => ∃ (j : Nat) (r : Tx) (F' : Nat → Prop) (st : DS), j ≤ halfN n ∧ vj = .int .i64 j ∧ vt = .string ⟨r.toArray⟩ ∧ Hid (text.drop (64 * j) = r) ∧ r.length ≤ 200000 ∧ Hid (FillI st0 first text j st) ∧ Hid (DiskAt wr s F' st ∧ (∀ x, F' x → F x ∨ w.heap.size ≤ x) ∧ Kp F w wr))
    (fun _ vj _ => halfN n + 1 - (intOf vj).toNat)
  case atStart => exact ⟨0, text, F, st0, Nat.zero_le _, rfl, rfl, Lib.hid (by simp), hlen, HI, Lib.hid ⟨HD.out, fun _ hx => .inl hx, Kp.refl _ _⟩⟩
  case round =>
    obtain ⟨j, r, F', st, hj, rfl, rfl, HR, hrl, HF, HS⟩ := hrel
    clear HI HD
    by_cases hlt : 0 < r.length
    · have hjh : j < halfN n := by
        have := HL.out
        have h2 := HR.out
        rw [← h2, List.length_drop] at hlt; omega
      obtain ⟨c, piece, HT, ht, e1, e2⟩ := cut_facts r 64 64 rfl
      obtain ⟨r2, hr2⟩ : ∃ r2, r.drop piece.length = r2 := ⟨_, rfl⟩
      have hpl : piece.length ≤ r.length := by rw [← HT.out, List.length_take]; omega
      have e3 := cut_behind r r2 piece.length hpl hr2
      have HR2 := Lib.hid (((drop_next HR.out HT.out).symm.trans hr2))
      have hr2l : r2.length ≤ 200000 := by rw [← hr2, List.length_drop]; omega
      have hqw := first_cell HQ.out HS.out.2.2 HNQ.out
      have hin : first + j < st.n := by have := HF.out.n; have := HN.out; omega
      have hcn : st.cnt < 1000 := by have := HF.out.cnt; omega
      have W := Dsk.write_disk ((first : Int) + j) s piece F' st wr HS.out.1 hcn (by omega)
      rw [show ((first : Int) + j) = ((first + j : Nat) : Int) by omega] at W
      have f1 : IntKind.i64.wrap ((first : Int) + j) = ((first + j : Nat) : Int) := by rw [IntWalk.i64_in _ (by omega)]; omega
      obtain ⟨z1, z2⟩ := write_in hin ht
      clear hr2 hpl
      cases hv : liveB st
      · obtain ⟨y1, y2⟩ := z2 hv
        rw [y1, y2] at W
        have WH := Lib.hid W
        have HV := Lib.hid hv
        clear W y1 y2 z1 z2 hv
        go_wp2_with fail
        refine WH.out.mono ?_
        rintro e w1 ⟨rfl, hk1, F1, hd1, hF1⟩
        have H1 := Lib.hid (And.intro hk1 (And.intro hd1 hF1))
        clear hk1 hd1 hF1 WH
        go_wp2_with fail
        refine (must_dead w1).mono ?_
        rintro e w1' ⟨rfl, rfl⟩
        go_wp2
        have hs := HS.out.2.2.size
        refine ⟨rfl, HS.out.2.2.trans H1.out.1 (fun x hx p => by rcases HS.out.2.1 x p with p | p; exact p; omega), F1, st, j, H1.out.2.1, fun x hx => ?_, HF.out, hj, .inr ⟨rfl, HV.out⟩⟩
        rcases H1.out.2.2 x hx with p | p
        · exact HS.out.2.1 x p
        · exact .inr (by omega)
      · obtain ⟨y1, y2⟩ := z1 hv
        rw [y1, y2] at W
        have WH := Lib.hid W
        have HF2 := Lib.hid (HF.out.step (piece := piece) hv (by rw [HR.out]; exact HT.out))
        clear W y1 y2 z1 z2 hv
        go_wp2_with fail
        refine WH.out.mono ?_
        rintro e w1 ⟨rfl, hk1, F1, hd1, hF1⟩
        have H1 := Lib.hid (And.intro hk1 (And.intro hd1 hF1))
        clear hk1 hd1 hF1 WH
        go_wp2_with fail
        refine (must_ok w1).mono ?_
        rintro e w1' ⟨rfl, rfl⟩
        go_wp2
        go_roundw
        case rel =>
          refine ⟨j + 1, r2, F1, _, by omega, by go_num, rfl, HR2, hr2l, HF2, Lib.hid ⟨H1.out.2.1, fun x hx => ?_, ?_⟩⟩
          · have hs := HS.out.2.2.size
            rcases H1.out.2.2 x hx with p | p
            · exact HS.out.2.1 x p
            · exact .inr (by omega)
          · exact HS.out.2.2.trans H1.out.1 (fun x hx p => by rcases HS.out.2.1 x p with p | p; exact p; omega)
        case measure => simp [intOf]; omega
    · obtain rfl : r = [] := List.eq_nil_of_length_eq_zero (by omega)
      go_wp2
      go_ret
      refine ⟨HS.out.2.2, F', st, j, HS.out.1, HS.out.2.1, HF.out, hj, .inl ⟨rfl, ?_⟩⟩
      have := HR.out
      rw [List.drop_eq_nil_iff] at this
      exact List.take_of_length_le this
end Go.Proofs.YtmggpockikcjjaaGreatDoor

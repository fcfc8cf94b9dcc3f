/-
  What strconv.Atoi makes of a number's digits; contracts of store.markOn.
-/
import Derived.Test.YtmggpockikcjjaaGreatDoorSA
import Derived.Test.YtmggpockikcjjaaGreatDoorN
import Derived.OwnWalk
import Derived.Laws.Rows
import Derived.Lib.UnsafeStr
namespace Go.Proofs.YtmggpockikcjjaaGreatDoor
open Go.RowKit
open Dsk (DS Tx Kp DiskAt readS readE)

theorem digit_of (d : Nat) (h : d < 10) : Lib.digitVal (UInt8.ofNat (48 + d)) = some d := by
  rcases (show d = 0 ∨ d = 1 ∨ d = 2 ∨ d = 3 ∨ d = 4 ∨ d = 5 ∨ d = 6 ∨ d = 7 ∨ d = 8 ∨ d = 9 by omega) with rfl | rfl | rfl | rfl | rfl | rfl | rfl | rfl | rfl | rfl <;> rfl
theorem decFrom_app : ∀ (l r : List UInt8) (a : Nat), Lib.decFrom a (l ++ r) = (Lib.decFrom a l).bind fun m => Lib.decFrom m r
  | [], r, a => rfl
  | b :: l, r, a => by
    simp only [List.cons_append, Lib.decFrom]
    cases Lib.digitVal b with
    | none => rfl
    | some d => exact decFrom_app l r _
theorem decFrom_dec (n : Nat) : Lib.decFrom 0 (Lib.decDigits n) = some n := by
  induction n using Nat.strongRecOn with
  | _ n ih =>
    by_cases h : n < 10
    · rw [dec_small n h]
      simp only [Lib.decFrom, digit_of n h]
      simp
    · rw [dec_big n h, decFrom_app, ih (n / 10) (by omega)]
      simp only [Option.bind_some, Lib.decFrom, digit_of (n % 10) (by omega)]
      congr 1; omega
theorem dec_head (n : Nat) : ∃ d r, d < 10 ∧ Lib.decDigits n = UInt8.ofNat (48 + d) :: r := by
  induction n using Nat.strongRecOn with
  | _ n ih =>
    by_cases h : n < 10
    · exact ⟨n, [], h, dec_small n h⟩
    · obtain ⟨d, r, hd, e⟩ := ih (n / 10) (by omega)
      exact ⟨d, r ++ [UInt8.ofNat (48 + n % 10)], hd, by rw [dec_big n h, e]; rfl⟩
theorem atoi_dec (n : Nat) : Lib.atoi (Lib.decDigits n) = some (n : Int) := by
  obtain ⟨d, r, hd, e⟩ := dec_head n
  have h2 := decFrom_dec n
  rw [e] at h2 ⊢
  have q1 : (UInt8.ofNat (48 + d) == 45) = false := by
    rcases (show d = 0 ∨ d = 1 ∨ d = 2 ∨ d = 3 ∨ d = 4 ∨ d = 5 ∨ d = 6 ∨ d = 7 ∨ d = 8 ∨ d = 9 by omega) with rfl | rfl | rfl | rfl | rfl | rfl | rfl | rfl | rfl | rfl <;> rfl
  have q2 : (UInt8.ofNat (48 + d) == 43) = false := by
    rcases (show d = 0 ∨ d = 1 ∨ d = 2 ∨ d = 3 ∨ d = 4 ∨ d = 5 ∨ d = 6 ∨ d = 7 ∨ d = 8 ∨ d = 9 by omega) with rfl | rfl | rfl | rfl | rfl | rfl | rfl | rfl | rfl | rfl <;> rfl
  simp only [Lib.atoi, q1, q2, Bool.false_eq_true, if_false]
  rw [show Lib.decNat (UInt8.ofNat (48 + d) :: r) = Lib.decFrom 0 (UInt8.ofNat (48 + d) :: r) from rfl, h2]
  rfl
theorem bytes_below (w : World) (t : TypeId) (s : ByteArray) : Below w.heap.size w (Lib.bytesWorld w t s) := by
  exact Lib.below_freeze ((Below.drew (Below.refl _ w)).alloc (Nat.le_refl _) _) (p := ⟨w.heap.size, _, none⟩) (Nat.le_refl _) 1
theorem atoi_any (n : Nat) (w : World) (h : n ≤ 9999) :
    Calls Tryz.prog 54 #[.string ⟨(Lib.decDigits n).toArray⟩] w fun e w' => e = .returned (.tuple #[.int .i64 n, .nilIface]) ∧ Below w.heap.size w w' := by
  have hl := dec_len4 n h
  refine (Tryz.strconv_Atoi ⟨(Lib.decDigits n).toArray⟩ n (by show (Lib.decDigits n).toArray.size ≤ 18; simp; omega) (by show Lib.atoi (Lib.decDigits n).toArray.toList = _; simpa using atoi_dec n) w).mono ?_
  rintro e w' ⟨rfl, t, rfl⟩
  exact ⟨rfl, bytes_below _ _ _⟩

theorem blk_below {w w' : World} (hb : Below w.heap.size w w') {b : Nat} {o : Obj} (h : w.heap[b]? = some o) : w'.heap[b]? = some o := (hb.block b (Dsk.lt_of_blk h)).trans h
theorem mark_read {st : DS} {h k : Nat} (hn : 4 ≤ st.n) (hp : st.pend = []) (hm : MarkIs (st.base 0) h k) : MarkIs (readS st 0) h k := by
  have : readS st 0 = st.base 0 := by
    unfold readS
    rw [show Dsk.hasB st 0 = true by unfold Dsk.hasB; simp; omega, if_pos rfl, hp]
    rfl
  rw [this]; exact hm
/-- What markOn answers. -/
def MkPost (w : World) (h k : Nat) (e : Ending) (w' : World) : Prop := e = .returned (.agg #[.int .i64 h, .int .i64 k]) ∧ Below w.heap.size w w'
set_option maxRecDepth 100000 in
set_option maxHeartbeats 1000000 in
theorem markOn_any (s : Nat) (F : Nat → Prop) (st : DS) (h k : Nat) (w : World) (hd : DiskAt w s F st) (hn : 4 ≤ st.n) (hp : st.pend = []) (hm : MarkIs (st.base 0) h k) (h1 : h ≤ 1) (hk : k ≤ 2047) :
    Calls Tryz.prog 35 #[.pointer (some ⟨s, 0, none⟩)] w (MkPost w h k) := by
  have C := Lib.hid (Dsk.read_any 0 s F st (w.alloc (.cells #[.int .i64 0, .int .i64 0] 59)) (hd.kp ((Dsk.kno w).alloc _) (fun _ _ h => h)))
  have hr := mark_read hn hp hm
  obtain ⟨E, hE⟩ : ∃ E, readE st 0 = E := ⟨_, rfl⟩
  rw [hE] at C
  generalize readS st 0 = t at *
  clear hE hd hm
  rcases hr with ⟨rfl, rfl, rfl⟩ | rfl
  · have C2 := Lib.hid (fun (w : World) => all_ok [] [] w (by simp) all_nil)
    go_enter Tryz.func35, Tryz.ntmps35
    go_wp2_with fail
    refine C.out.mono ?_
    rintro e w1 ⟨rfl, rfl⟩
    have b1 := Dsk.blk_new w (.cells #[.int .i64 0, .int .i64 0] 59)
    have hb := one_below w (.cells #[.int .i64 0, .int .i64 0] 59)
    clear C
    generalize w.alloc (.cells #[.int .i64 0, .int .i64 0] 59) = w1 at *
    go_wp2_with fail
    refine (C2.out w1).mono ?_
    rintro e w2 ⟨A, c, rfl, ho, hb2⟩
    have b2 := blk_below hb2 b1
    replace hb := bch hb hb2
    have c0 : w2.cell? ⟨w.heap.size, 0, none⟩ = some (.int .i64 0) := Dsk.cell_of b2 0
    have c1 : w2.cell? ⟨w.heap.size, 1, none⟩ = some (.int .i64 0) := Dsk.cell_of b2 1
    have f0 := Dsk.frozen_of b2 0
    have f1 := Dsk.frozen_of b2 1
    have BK : Hid (((w2.setCell ⟨w.heap.size, 0, none⟩ (.int .i64 0)).setCell ⟨w.heap.size, 1, none⟩ (.int .i64 0)).heap[w.heap.size]? = some (.cells #[.int .i64 0, .int .i64 0] 59)) := Dsk.blk_set (Dsk.blk_set b2 0 _) 1 _
    have HB := Lib.hid hb
    clear ho b1 hb2 b2 hb
    go_wp2
    refine bodyPost_ret (results_cell_row (P := Tryz.prog) rfl _ _ w.heap.size 59 #[.int .i64 0, .int .i64 0] (0, 0) _ (by rfl) BK.out Tryz.underlying59 rfl (by kernel_rfl)) rfl ?_
    exact ⟨rfl, (HB.out.setCell (Nat.le_refl _) _).setCell (Nat.le_refl _) _⟩
  · have C2 := Lib.hid (fun (w : World) => all_ok (mkT h k) [Lib.decDigits h, Lib.decDigits k] w (by have := mkT_len h1 (show k ≤ 9999 by omega); omega) (mkT_all h1 (by omega)))
    have A1 := Lib.hid (fun (w : World) => atoi_any h w (by omega))
    have A2 := Lib.hid (fun (w : World) => atoi_any k w (by omega))
    generalize mkT h k = t at *
    generalize Lib.decDigits h = dh at *
    generalize Lib.decDigits k = dk at *
    go_enter Tryz.func35, Tryz.ntmps35
    go_wp2_with fail
    refine C.out.mono ?_
    rintro e w1 ⟨rfl, rfl⟩
    have b1 := Dsk.blk_new w (.cells #[.int .i64 0, .int .i64 0] 59)
    have hb := one_below w (.cells #[.int .i64 0, .int .i64 0] 59)
    clear C
    generalize w.alloc (.cells #[.int .i64 0, .int .i64 0] 59) = w1 at *
    go_wp2_with fail
    refine (C2.out w1).mono ?_
    rintro e w2 ⟨A, c, rfl, ho, hb2⟩
    obtain ⟨b, o, rfl, hcell⟩ := ho.rd (by simp)
    have x0 : w2.cell? ⟨b, o, none⟩ = some (.string ⟨dh.toArray⟩) := hcell 0 dh rfl
    have x1 : w2.cell? ⟨b, o + 1, none⟩ = some (.string ⟨dk.toArray⟩) := hcell 1 dk rfl
    replace b1 := blk_below hb2 b1
    replace hb := bch hb hb2
    have HB := Lib.hid (And.intro hb b1)
    clear ho hcell hb2 C2 hb b1
    go_wp2_with fail
    refine (A1.out w2).mono ?_
    rintro e w3 ⟨rfl, hb2⟩
    have y1 := cell_below hb2 x1
    have HB2 := Lib.hid (And.intro (bch HB.out.1 hb2) (blk_below hb2 HB.out.2))
    clear x0 x1 HB hb2 A1
    go_wp2_with fail
    refine (A2.out w3).mono ?_
    rintro e w4 ⟨rfl, hb2⟩
    have b2 := blk_below hb2 HB2.out.2
    have c0 : w4.cell? ⟨w.heap.size, 0, none⟩ = some (.int .i64 0) := Dsk.cell_of b2 0
    have c1 : w4.cell? ⟨w.heap.size, 1, none⟩ = some (.int .i64 0) := Dsk.cell_of b2 1
    have f0 := Dsk.frozen_of b2 0
    have f1 := Dsk.frozen_of b2 1
    have BK : Hid (((w4.setCell ⟨w.heap.size, 0, none⟩ (.int .i64 h)).setCell ⟨w.heap.size, 1, none⟩ (.int .i64 k)).heap[w.heap.size]? = some (.cells #[.int .i64 h, .int .i64 k] 59)) := Dsk.blk_set (Dsk.blk_set b2 0 _) 1 _
    have HB3 := Lib.hid (bch HB2.out.1 hb2)
    clear hb2 b2 HB2 y1 A2
    go_wp2
    refine bodyPost_ret (results_cell_row (P := Tryz.prog) rfl _ _ w.heap.size 59 #[.int .i64 h, .int .i64 k] (0, 0) _ (by rfl) BK.out Tryz.underlying59 rfl (by kernel_rfl)) rfl ?_
    exact ⟨rfl, (HB3.out.setCell (Nat.le_refl _) _).setCell (Nat.le_refl _) _⟩
end Go.Proofs.YtmggpockikcjjaaGreatDoor

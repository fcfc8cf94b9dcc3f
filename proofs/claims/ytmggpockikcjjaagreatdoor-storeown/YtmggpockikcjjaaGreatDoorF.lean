/-
  Contracts of wire.Files and of the document's answer's Files: a map's bytes; old memory stays.
-/
import Derived.Test.YtmggpockikcjjaaGreatDoorO
namespace Go.Proofs.YtmggpockikcjjaaGreatDoor
open Go.RowKit

theorem ret_eq {a b : Value} (h : a = b) : Ending.returned a = .returned b := by rw [h]
theorem BuilderAtF_below {T e : TypeId} {B b : Nat} {p : Value} {bs : List Value} {W W' : World} (h : Lib.BuilderAtF T e B b p bs W) (hb : Below W.heap.size W W') : Lib.BuilderAtF T e B b p bs W' := by
  have hlt := h.lt
  obtain ⟨hB, v, hv, hown, hne⟩ := h
  exact ⟨hB, v, (hb.block b hlt).trans hv, hown.kept (row := none) ⟨hb.os, hb.tape, hb.output, hb.size, fun k hk _ => hb.block k hk⟩ (Classical.em _), hne⟩
theorem IsBuilderF_below {T e : TypeId} {B b : Nat} {bs : List Value} {W W' : World} (h : Lib.IsBuilderF T e B b bs W) (hb : Below W.heap.size W W') : Lib.IsBuilderF T e B b bs W' :=
  h.elim (fun x => .inl (BuilderAtF_below x hb)) (fun x => .inr (BuilderAtF_below x hb))
theorem byteCells_app (a b : List UInt8) : Lib.byteCells a ++ Lib.strCells ⟨b.toArray⟩ = Lib.byteCells (a ++ b) := by simp [Lib.byteCells, Lib.strCells]
theorem byteCells_len (a : List UInt8) : (Lib.byteCells a).length = a.length := by simp [Lib.byteCells]
theorem cells_two {w : World} {h : Nat} {a b : Value} {t : TypeId} {fr : Nat × Nat} (hh : w.heap[h]? = some (.cells #[a, b] t fr)) : w.cell? ⟨h, 0, none⟩ = some a ∧ w.cell? ⟨h, 1, none⟩ = some b := by
  constructor <;> simp [World.cell?, hh]
/-- The builder, written once. -/
theorem write_any (B : Nat) (l m r : List UInt8) (w : World) (h : Lib.IsBuilderF 82 5 B B (Lib.byteCells l) w) (hl : l.length ≤ 400000000) (hm : m.length ≤ 2000000) (hr : l ++ m = r) (hBw : B ≤ w.heap.size) :
    Calls Tryz.prog 37 #[.pointer (some ⟨B, 0, none⟩), .string ⟨m.toArray⟩] w fun e w' => e = .returned (.tuple #[.int .i64 m.length, .nilIface]) ∧ Lib.IsBuilderF 82 5 B B (Lib.byteCells r) w' ∧ Below B w w' ∧ Lib.OthersKept 5 (some B) w w' := by
  refine (Tryz.Builder_WriteString B B (Lib.byteCells l) ⟨m.toArray⟩ w h (by rw [byteCells_len]; show l.length + m.length ≤ _; omega) hBw).mono ?_
  rintro e w' ⟨he, h1, h2, h3⟩
  rw [byteCells_app, hr] at h1
  exact ⟨he, .inr h1, h2, h3⟩
theorem filesL_step {fs : List Fl} {k : Nat} {f : Fl} (h : fs[k]? = some f) : filesL (fs.take (k + 1)) = filesL (fs.take k) ++ wputL f.1 ++ wputL f.2 := by
  rw [at_take h]; unfold filesL; rw [List.flatMap_append]; simp
def Mild (fs : List Fl) : Prop := ∀ f ∈ fs, f.1.length ≤ 999999 ∧ f.2.length ≤ 999999
theorem wput_mild {s : List UInt8} (h : s.length ≤ 999999) : (wputL s).length ≤ 2000000 := by
  rw [wput_len]; have := dec_len s.length h; omega
theorem files_len : ∀ (k : Nat) (fs : List Fl), Mild fs → (filesL (fs.take k)).length ≤ k * 4000000
  | 0, fs, _ => by simp [filesL]
  | k + 1, fs, h => by
    have ih := files_len k fs h
    by_cases hk : k < fs.length
    · have hf : fs[k]? = some fs[k] := List.getElem?_eq_getElem hk
      rw [filesL_step hf, List.length_append, List.length_append]
      obtain ⟨h1, h2⟩ := h fs[k] (List.getElem_mem hk)
      have := wput_mild h1
      have := wput_mild h2
      omega
    · have e1 : fs.take (k + 1) = fs.take k := by rw [List.take_of_length_le (show fs.length ≤ k + 1 by omega), List.take_of_length_le (show fs.length ≤ k by omega)]
      rw [e1]
      refine Nat.le_trans ih ?_
      rw [Nat.succ_mul]; exact Nat.le_add_right _ _

set_option maxRecDepth 100000 in
set_option maxHeartbeats 2000000 in
theorem files_any (A : Option Addr) (c : Nat) (fs : List Fl) (w : World) (T : Tabs w) (hr : Rd w A fs) (hm : Hid (Mild fs)) (hl : fs.length ≤ 90) :
    Calls Tryz.prog 26 #[.slice A fs.length c] w fun e w' => e = .returned (.string ⟨(filesL fs).toArray⟩) ∧ Below w.heap.size w w' := by
  have hb0 := Lib.IsBuilderF.of (Lib.fresh_isBuilder 82 5 w)
  go_enter Tryz.func26, Tryz.ntmps26
  go_wp2_with fail
  go_loopw [8] (fun i wr => ∃ (k : Nat) (l : List UInt8), k ≤ fs.length ∧ i = .int .i64 k ∧ Hid (filesL (fs.take k) = l) ∧ Lib.IsBuilderF 82 5 w.heap.size w.heap.size (Lib.byteCells l) wr ∧ Below w.heap.size w wr ∧ w.heap.size < wr.heap.size) (fun i _ => fs.length - (intOf i).toNat)
  case atStart => exact ⟨0, [], Nat.zero_le _, rfl, Lib.hid rfl, hb0, one_below _ _, by simp⟩
  case round =>
    obtain ⟨k, l, hk, rfl, HL, hbu, hb, hsz⟩ := hrel
    by_cases hlt : k < fs.length
    · obtain ⟨b, o, rfl, hcell⟩ := (hr.below hb) (by omega)
      obtain ⟨f, hf⟩ : ∃ f, fs[k]? = some f := ⟨_, List.getElem?_eq_getElem hlt⟩
      obtain ⟨c1, c2⟩ := hcell k f hf
      obtain ⟨l1, l2⟩ := hm.out f (List.mem_of_getElem? hf)
      obtain ⟨p1, hp1⟩ : ∃ p, wputL f.1 = p := ⟨_, rfl⟩
      obtain ⟨p2, hp2⟩ : ∃ p, wputL f.2 = p := ⟨_, rfl⟩
      obtain ⟨m1, hm1⟩ : ∃ m, l ++ p1 = m := ⟨_, rfl⟩
      obtain ⟨m2, hm2⟩ : ∃ m, m1 ++ p2 = m := ⟨_, rfl⟩
      have HN := Lib.hid (show filesL (fs.take (k + 1)) = m2 by rw [filesL_step hf, HL.out, hp1, hm1, hp2, hm2])
      have hll : l.length ≤ 360000000 := by have := files_len k fs hm.out; rw [HL.out] at this; omega
      have hp1l : p1.length ≤ 2000000 := by rw [← hp1]; exact wput_mild l1
      have hp2l : p2.length ≤ 2000000 := by rw [← hp2]; exact wput_mild l2
      have hm1l : m1.length ≤ 400000000 := by rw [← hm1, List.length_append]; omega
      have b1 := bch hb (one_below wr (.cells #[.string ⟨f.1.toArray⟩, .string ⟨f.2.toArray⟩] 37))
      have T1 := T.below b1
      have C1 := Lib.hid (wput_any f.1 _ T1 l1)
      rw [hp1] at C1
      have hbl : (wr.alloc (.cells #[.string ⟨f.1.toArray⟩, .string ⟨f.2.toArray⟩] 37)).heap[wr.heap.size]? = some (.cells #[.string ⟨f.1.toArray⟩, .string ⟨f.2.toArray⟩] 37) := heap_alloc_new wr _
      have HBL := Lib.hid hbl
      have HP2 := Lib.hid hp2
      have HM1 := Lib.hid hm1
      have HM2 := Lib.hid hm2
      have HBU := Lib.hid (IsBuilderF_below hbu (one_below wr (.cells #[.string ⟨f.1.toArray⟩, .string ⟨f.2.toArray⟩] 37)))
      clear hf hcell hp1 hp2 hm1 hm2 hbl hbu HL
      go_wp2_with fail
      refine C1.out.mono ?_
      rintro e wa ⟨rfl, hba⟩
      have hbl1 := (hba.block wr.heap.size (by simp)).trans HBL.out
      have HBL1 := Lib.hid hbl1
      have hszA : wr.heap.size < wa.heap.size := by have := hba.size; simp at this; omega
      have b2 := bch b1 hba
      have C2 := Lib.hid (write_any w.heap.size l p1 m1 wa (IsBuilderF_below HBU.out hba) (by omega) hp1l HM1.out b2.size)
      clear HBL hbl1 hba b1 C1 HBU c1 c2
      go_wp2_with fail
      refine C2.out.mono ?_
      rintro e wb ⟨rfl, hbuB, hbb, hkB⟩
      have hbl2 := hkB wr.heap.size _ HBL1.out (fun q => by simp at q; omega) (fun c fz q => by simp at q)
      obtain ⟨d1, d2⟩ := cells_two hbl2
      have b3 := b2.trans hbb
      have T3 := T.below b3
      have C3 := Lib.hid (wput_any f.2 wb T3 l2)
      rw [HP2.out] at C3
      have HBUB := Lib.hid hbuB
      have hszB : wr.heap.size < wb.heap.size := (Array.getElem?_eq_some_iff.1 hbl2).1
      clear hbl2 hkB C2 hbb b2 hbuB HBL1
      go_wp2_with fail
      refine C3.out.mono ?_
      rintro e wc ⟨rfl, hbc⟩
      have b4 := bch b3 hbc
      have C4 := Lib.hid (write_any w.heap.size m1 p2 m2 wc (IsBuilderF_below HBUB.out hbc) hm1l hp2l HM2.out b4.size)
      have hszC : wr.heap.size < wc.heap.size := by have := hbc.size; omega
      clear b3 C3 HBUB d1 d2 hbc
      go_wp2_with fail
      refine C4.out.mono ?_
      rintro e wd ⟨rfl, hbuD, hbd, hkD⟩
      have b5 := b4.trans hbd
      clear C4 hkD
      go_wp2_with fail
      go_roundw
      case rel => exact ⟨k + 1, m2, by omega, by go_num, HN, hbuD, b5, by have := hbuD.elim (fun h => h.lt) (fun h => h.lt); omega⟩
      case measure => simp [intOf]; omega
    · have hfin := HL.out
      rw [List.take_of_length_le (by omega)] at hfin
      have HF := Lib.hid hfin
      have C := Lib.hid (Tryz.Builder_String_anyF w.heap.size w.heap.size l wr hbu hb.size)
      clear hfin HL hbu
      go_wp2_with fail
      refine C.out.mono ?_
      rintro e w' ⟨rfl, _, hb2, _⟩
      go_wp2
      go_ret
      exact ⟨ret_eq (str_eq HF.out.symm), hb.trans hb2⟩
end Go.Proofs.YtmggpockikcjjaaGreatDoor

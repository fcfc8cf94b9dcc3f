/-
  The contract of lex.Text: a text that has these tokens; old memory stays.
-/
import Derived.Test.YtcfhjnidcmenkaaH
namespace Go.Proofs.Ytcfhjnidcmenkaa
open Go.RowKit

theorem at_take {α : Type} {l : List α} {k : Nat} {f : α} (h : l[k]? = some f) : l.take (k + 1) = l.take k ++ [f] := by
  rw [List.take_add_one, h]; rfl
theorem text_step {ts : List Tok} {k : Nat} {f : Tok} (h : ts[k]? = some f) : textL (ts.take (k + 1)) = textL (ts.take k) ++ tokT f := by
  rw [at_take h]; unfold textL; rw [List.flatMap_append]; simp
def Mild (ts : List Tok) : Prop := ∀ t ∈ ts, t.2.length ≤ 2000
theorem tokT_len (t : Tok) (h : t.2.length ≤ 2000) : (tokT t).length ≤ 4100 := by
  unfold tokT
  have := safe_len t.2
  split
  · omega
  · split
    · simp
    · split
      · simp
      · split
        · simp; omega
        · split
          · simp
          · split
            · simp
            · split
              · simp; omega
              · simp
theorem cells_two {w : World} {h : Nat} {a b : Value} {t : TypeId} {fr : Nat × Nat} (hh : w.heap[h]? = some (.cells #[a, b] t fr)) : w.cell? ⟨h, 0, none⟩ = some a ∧ w.cell? ⟨h, 1, none⟩ = some b := by
  constructor <;> simp [World.cell?, hh]
theorem kind_ways (k : Int) : k = 1 ∨ k = 2 ∨ k = 3 ∨ k = 4 ∨ k = 5 ∨ k = 6 ∨ k = 7 ∨ (k ≠ 1 ∧ k ≠ 2 ∧ k ≠ 3 ∧ k ≠ 4 ∧ k ≠ 5 ∧ k ≠ 6 ∧ k ≠ 7) := by omega
set_option maxRecDepth 100000 in
set_option maxHeartbeats 4000000 in
theorem text_any (A : Option Addr) (c : Nat) (ts : List Tok) (w : World) (hr : Rd w A ts) (hm : Hid (Mild ts)) (hl : ts.length ≤ 20000) :
    Calls Try.prog 14 #[.slice A ts.length c] w fun e w' => e = .returned (.string ⟨(textL ts).toArray⟩) ∧ Below w.heap.size w w' := by
  have hb0 := Lib.IsBuilderF.of (Lib.fresh_isBuilder 52 5 w)
  go_enter Try.func14, Try.ntmps14
  go_wp2_with fail
  go_loopw [8] (fun i wr => ∃ (k : Nat) (l : By), k ≤ ts.length ∧ i = .int .i64 k ∧ Hid (textL (ts.take k) = l) ∧ l.length ≤ 4100 * k ∧ Lib.IsBuilderF 52 5 w.heap.size w.heap.size (Lib.byteCells l) wr ∧ Below w.heap.size w wr ∧ w.heap.size < wr.heap.size) (fun i _ => ts.length - (intOf i).toNat)
  case atStart => exact ⟨0, [], Nat.zero_le _, rfl, Lib.hid rfl, by simp, hb0, one_below _ _, by simp⟩
  case round =>
    clear hb0
    obtain ⟨k, l, hk, rfl, HL, hll, hbu, hb, hsz⟩ := hrel
    by_cases hlt : k < ts.length
    · obtain ⟨b, o, rfl, hcell⟩ := (hr.below hb) (by omega)
      obtain ⟨f, hf⟩ : ∃ f, ts[k]? = some f := ⟨_, List.getElem?_eq_getElem hlt⟩
      obtain ⟨c1, c2⟩ := hcell k f hf
      have hz := hm.out f (List.mem_of_getElem? hf)
      have hst := text_step hf
      have htl := tokT_len f hz
      rw [HL.out] at hst
      obtain ⟨κ, z⟩ := f
      simp only at c1 c2 hz
      obtain ⟨m, hmm⟩ : ∃ m, l ++ tokT (κ, z) = m := ⟨_, rfl⟩
      rw [hmm] at hst
      have HN := Lib.hid hst
      have hml : m.length ≤ 4100 * (k + 1) := by rw [← hmm, List.length_append]; omega
      have b1 := bch hb (one_below wr (.cells #[.int .i64 κ, .string ⟨z.toArray⟩] 37))
      have HBL : Hid ((wr.alloc (.cells #[.int .i64 κ, .string ⟨z.toArray⟩] 37)).heap[wr.heap.size]? = some (.cells #[.int .i64 κ, .string ⟨z.toArray⟩] 37)) := Lib.hid (heap_alloc_new wr _)
      have HBU := Lib.hid (IsBuilderF_below hbu (one_below wr (.cells #[.int .i64 κ, .string ⟨z.toArray⟩] 37)))
      have hll2 : l.length ≤ 90000000 := by omega
      clear hf hcell hst htl hbu HL hll
      rcases kind_ways κ with rfl | rfl | rfl | rfl | rfl | rfl | rfl | hκ
      · have C1 := Lib.hid (escaped_any ⟨z.toArray⟩ (wr.alloc (.cells #[.int .i64 1, .string ⟨z.toArray⟩] 37)) hz)
        rw [show (⟨z.toArray⟩ : ByteArray).data.toList = z from rfl] at C1
        obtain ⟨p, hp⟩ : ∃ p, safeL z = p := ⟨_, rfl⟩
        have hpl : p.length ≤ 4000 := by rw [← hp]; have := safe_len z; omega
        have HM := Lib.hid (show l ++ p = m by rw [← hmm, ← hp]; rfl)
        rw [hp] at C1
        clear hmm hp
        go_wp2_with fail
        refine C1.out.mono ?_
        rintro e wa ⟨rfl, hba⟩
        have b2 := bch b1 hba
        have C2 := Lib.hid (write_any w.heap.size l p m wa (IsBuilderF_below HBU.out hba) (by omega) (by omega) HM.out b2.size)
        clear HBL hba b1 C1 HBU c1 c2
        go_wp2_with fail
        refine C2.out.mono ?_
        rintro e wd ⟨rfl, hbuD, hbd, _⟩
        have b5 := b2.trans hbd
        clear C2 b2 hbd
        go_wp2_with fail
        go_roundw
        case rel => exact ⟨k + 1, m, by omega, by go_num, HN, hml, hbuD, b5, by have := hbuD.elim (fun h => h.lt) (fun h => h.lt); omega⟩
        case measure => simp [intOf]; omega
      · have C1 := Lib.hid (byte_any w.heap.size l m 32 32 (wr.alloc (.cells #[.int .i64 2, .string ⟨z.toArray⟩] 37)) HBU.out (by rfl) (by omega) hmm b1.size)
        clear hmm HBL HBU
        go_wp2_with fail
        refine C1.out.mono ?_
        rintro e wd ⟨rfl, hbuD, hbd, _⟩
        have b5 := b1.trans hbd
        clear C1 b1 hbd c1 c2
        go_wp2_with fail
        go_roundw
        case rel => exact ⟨k + 1, m, by omega, by go_num, HN, hml, hbuD, b5, by have := hbuD.elim (fun h => h.lt) (fun h => h.lt); omega⟩
        case measure => simp [intOf]; omega
      · have C1 := Lib.hid (write_any w.heap.size l [10, 10] m (wr.alloc (.cells #[.int .i64 3, .string ⟨z.toArray⟩] 37)) HBU.out (by omega) (by simp) hmm b1.size)
        clear hmm HBL HBU
        go_wp2_with fail
        refine C1.out.mono ?_
        rintro e wd ⟨rfl, hbuD, hbd, _⟩
        have b5 := b1.trans hbd
        clear C1 b1 hbd c1 c2
        go_wp2_with fail
        go_roundw
        case rel => exact ⟨k + 1, m, by omega, by go_num, HN, hml, hbuD, b5, by have := hbuD.elim (fun h => h.lt) (fun h => h.lt); omega⟩
        case measure => simp [intOf]; omega
      · obtain ⟨m1, hm1⟩ : ∃ m1, l ++ [(92 : UInt8)] = m1 := ⟨_, rfl⟩
        have hm1l : m1.length = l.length + 1 := by rw [← hm1]; simp
        have HM := Lib.hid (show m1 ++ z = m by rw [← hmm, ← hm1]; simp [tokT])
        have C1 := Lib.hid (byte_any w.heap.size l m1 92 92 (wr.alloc (.cells #[.int .i64 4, .string ⟨z.toArray⟩] 37)) HBU.out (by rfl) (by omega) hm1 b1.size)
        clear hmm HBU hm1
        go_wp2_with fail
        refine C1.out.mono ?_
        rintro e wb ⟨rfl, hbuB, hbb, hkB⟩
        have hbl2 := hkB wr.heap.size _ HBL.out (fun q => by simp at q; omega) (fun c fz q => by simp at q)
        obtain ⟨d1, d2⟩ := cells_two hbl2
        have b3 := b1.trans hbb
        have C4 := Lib.hid (write_any w.heap.size m1 z m wb hbuB (by omega) (by omega) HM.out b3.size)
        clear C1 HBL b1 hbb hkB hbl2 hbuB c1 c2
        go_wp2_with fail
        refine C4.out.mono ?_
        rintro e wd ⟨rfl, hbuD, hbd, _⟩
        have b5 := b3.trans hbd
        clear C4 b3 hbd d1 d2
        go_wp2_with fail
        go_roundw
        case rel => exact ⟨k + 1, m, by omega, by go_num, HN, hml, hbuD, b5, by have := hbuD.elim (fun h => h.lt) (fun h => h.lt); omega⟩
        case measure => simp [intOf]; omega
      · have C1 := Lib.hid (byte_any w.heap.size l m 123 123 (wr.alloc (.cells #[.int .i64 5, .string ⟨z.toArray⟩] 37)) HBU.out (by rfl) (by omega) hmm b1.size)
        clear hmm HBL HBU
        go_wp2_with fail
        refine C1.out.mono ?_
        rintro e wd ⟨rfl, hbuD, hbd, _⟩
        have b5 := b1.trans hbd
        clear C1 b1 hbd c1 c2
        go_wp2_with fail
        go_roundw
        case rel => exact ⟨k + 1, m, by omega, by go_num, HN, hml, hbuD, b5, by have := hbuD.elim (fun h => h.lt) (fun h => h.lt); omega⟩
        case measure => simp [intOf]; omega
      · have C1 := Lib.hid (byte_any w.heap.size l m 125 125 (wr.alloc (.cells #[.int .i64 6, .string ⟨z.toArray⟩] 37)) HBU.out (by rfl) (by omega) hmm b1.size)
        clear hmm HBL HBU
        go_wp2_with fail
        refine C1.out.mono ?_
        rintro e wd ⟨rfl, hbuD, hbd, _⟩
        have b5 := b1.trans hbd
        clear C1 b1 hbd c1 c2
        go_wp2_with fail
        go_roundw
        case rel => exact ⟨k + 1, m, by omega, by go_num, HN, hml, hbuD, b5, by have := hbuD.elim (fun h => h.lt) (fun h => h.lt); omega⟩
        case measure => simp [intOf]; omega
      · obtain ⟨m1, hm1⟩ : ∃ m1, l ++ [(35 : UInt8)] = m1 := ⟨_, rfl⟩
        have hm1l : m1.length = l.length + 1 := by rw [← hm1]; simp
        have HM := Lib.hid (show m1 ++ z = m by rw [← hmm, ← hm1]; simp [tokT])
        have C1 := Lib.hid (byte_any w.heap.size l m1 35 35 (wr.alloc (.cells #[.int .i64 7, .string ⟨z.toArray⟩] 37)) HBU.out (by rfl) (by omega) hm1 b1.size)
        clear hmm HBU hm1
        go_wp2_with fail
        refine C1.out.mono ?_
        rintro e wb ⟨rfl, hbuB, hbb, hkB⟩
        have hbl2 := hkB wr.heap.size _ HBL.out (fun q => by simp at q; omega) (fun c fz q => by simp at q)
        obtain ⟨d1, d2⟩ := cells_two hbl2
        have b3 := b1.trans hbb
        have C4 := Lib.hid (write_any w.heap.size m1 z m wb hbuB (by omega) (by omega) HM.out b3.size)
        clear C1 HBL b1 hbb hkB hbl2 hbuB c1 c2
        go_wp2_with fail
        refine C4.out.mono ?_
        rintro e wd ⟨rfl, hbuD, hbd, _⟩
        have b5 := b3.trans hbd
        clear C4 b3 hbd d1 d2
        go_wp2_with fail
        go_roundw
        case rel => exact ⟨k + 1, m, by omega, by go_num, HN, hml, hbuD, b5, by have := hbuD.elim (fun h => h.lt) (fun h => h.lt); omega⟩
        case measure => simp [intOf]; omega
      · obtain ⟨h1, h2, h3, h4, h5, h6, h7⟩ := hκ
        have e1 : m = l := by rw [← hmm]; unfold tokT; simp [h1, h2, h3, h4, h5, h6, h7]
        have d1 : (κ == 1) = false := by simpa using h1
        have d2 : (κ == 2) = false := by simpa using h2
        have d3 : (κ == 3) = false := by simpa using h3
        have d4 : (κ == 4) = false := by simpa using h4
        have d5 : (κ == 5) = false := by simpa using h5
        have d6 : (κ == 6) = false := by simpa using h6
        have d7 : (κ == 7) = false := by simpa using h7
        have hbuD : Lib.IsBuilderF 52 5 w.heap.size w.heap.size (Lib.byteCells m) (wr.alloc (.cells #[.int .i64 κ, .string ⟨z.toArray⟩] 37)) := by rw [e1]; exact HBU.out
        have HD := Lib.hid hbuD
        have B5 := Lib.hid b1
        clear h1 h2 h3 h4 h5 h6 h7 hmm HBL HBU e1 hbuD b1
        go_wp2_with fail
        go_roundw
        case rel => exact ⟨k + 1, m, by omega, by go_num, HN, hml, HD.out, B5.out, by simp; omega⟩
        case measure => simp [intOf]; omega
    · have hfin := HL.out
      rw [List.take_of_length_le (by omega)] at hfin
      have HF := Lib.hid hfin
      have C := Lib.hid (Try.Builder_String_anyF w.heap.size w.heap.size l wr hbu hb.size)
      clear hfin HL hbu
      go_wp2_with fail
      refine C.out.mono ?_
      rintro e w' ⟨rfl, _, hb2, _⟩
      go_wp2
      go_ret
      exact ⟨ret_eq (str_eq HF.out.symm), hb.trans hb2⟩
end Go.Proofs.Ytcfhjnidcmenkaa

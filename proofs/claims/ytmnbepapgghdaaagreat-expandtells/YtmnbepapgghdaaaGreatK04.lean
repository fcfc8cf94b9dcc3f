/-
  The contract of lex.Text: a text that has these tokens; old memory stays.
  Contracts of the document's answer's Same, and of the laws' One, Refs and Cut; two tokens compared; a text cut off.
  Contracts of the document's own answers of layer 7: Group, Word, Squeezed, Flat, Named.
  Contracts of the document's own answers of layer 7: Squeezed, Flat, Named.
-/
import Derived.Test.YtmnbepapgghdaaaGreatK03
import Derived.BigQuiet
import Derived.Test.YtmnbepapgghdaaaGreatK01
namespace Go.Proofs.YtmnbepapgghdaaaGreat
open Go.RowKit

theorem at_take {α : Type} {l : List α} {k : Nat} {f : α} (h : l[k]? = some f) : l.take (k + 1) = l.take k ++ [f] := by
  rw [List.take_add_one, h]; rfl
theorem text_step {ts : List Tok} {k : Nat} {f : Tok} (h : ts[k]? = some f) : textL (ts.take (k + 1)) = textL (ts.take k) ++ tokT f := by
  rw [at_take h]; unfold textL; rw [List.flatMap_append]; simp
def Mild (ts : List Tok) : Prop := ∀ t ∈ ts, t.2.length ≤ 2000
theorem tokT_len (t : Tok) (h : t.2.length ≤ 2000) : (tokT t).length ≤ 4100 := by
  unfold tokT
  have := safe_len t.2
  split
  · omega
  · split
    · simp
    · split
      · simp
      · split
        · simp; omega
        · split
          · simp
          · split
            · simp
            · split
              · simp; omega
              · simp
theorem cells_two {w : World} {h : Nat} {a b : Value} {t : TypeId} {fr : Nat × Nat} (hh : w.heap[h]? = some (.cells #[a, b] t fr)) : w.cell? ⟨h, 0, none⟩ = some a ∧ w.cell? ⟨h, 1, none⟩ = some b := by
  constructor <;> simp [World.cell?, hh]
theorem kind_ways (k : Int) : k = 1 ∨ k = 2 ∨ k = 3 ∨ k = 4 ∨ k = 5 ∨ k = 6 ∨ k = 7 ∨ (k ≠ 1 ∧ k ≠ 2 ∧ k ≠ 3 ∧ k ≠ 4 ∧ k ≠ 5 ∧ k ≠ 6 ∧ k ≠ 7) := by omega
set_option maxRecDepth 100000 in
set_option maxHeartbeats 4000000 in
theorem text_any (A : Option Addr) (c : Nat) (ts : List Tok) (w : World) (hr : Rd w A ts) (hm : Hid (Mild ts)) (hl : ts.length ≤ 20000) :
    Calls Tryz.prog 32 #[.slice A ts.length c] w fun e w' => e = .returned (.string ⟨(textL ts).toArray⟩) ∧ Below w.heap.size w w' := by
  have hb0 := Lib.IsBuilderF.of (Lib.fresh_isBuilder 121 5 w)
  go_enter Tryz.func32, Tryz.ntmps32
  go_wp2_with fail
  go_loopw [8] (fun i wr => ∃ (k : Nat) (l : By), k ≤ ts.length ∧ i = .int .i64 k ∧ Hid (textL (ts.take k) = l) ∧ l.length ≤ 4100 * k ∧ Lib.IsBuilderF 121 5 w.heap.size w.heap.size (Lib.byteCells l) wr ∧ Below w.heap.size w wr ∧ w.heap.size < wr.heap.size) (fun i _ => ts.length - (intOf i).toNat)
  case atStart => exact ⟨0, [], Nat.zero_le _, rfl, Lib.hid rfl, by simp, hb0, one_below _ _, by simp⟩
  case round =>
    clear hb0
    obtain ⟨k, l, hk, rfl, HL, hll, hbu, hb, hsz⟩ := hrel
    by_cases hlt : k < ts.length
    · obtain ⟨b, o, rfl, hcell⟩ := (hr.below hb) (by omega)
      obtain ⟨f, hf⟩ : ∃ f, ts[k]? = some f := ⟨_, List.getElem?_eq_getElem hlt⟩
      obtain ⟨c1, c2⟩ := hcell k f hf
      have hz := hm.out f (List.mem_of_getElem? hf)
      have hst := text_step hf
      have htl := tokT_len f hz
      rw [HL.out] at hst
      obtain ⟨κ, z⟩ := f
      simp only at c1 c2 hz
      obtain ⟨m, hmm⟩ : ∃ m, l ++ tokT (κ, z) = m := ⟨_, rfl⟩
      rw [hmm] at hst
      have HN := Lib.hid hst
      have hml : m.length ≤ 4100 * (k + 1) := by rw [← hmm, List.length_append]; omega
      have b1 := bch hb (one_below wr (.cells #[.int .i64 κ, .string ⟨z.toArray⟩] 89))
      have HBL : Hid ((wr.alloc (.cells #[.int .i64 κ, .string ⟨z.toArray⟩] 89)).heap[wr.heap.size]? = some (.cells #[.int .i64 κ, .string ⟨z.toArray⟩] 89)) := Lib.hid (heap_alloc_new wr _)
      have HBU := Lib.hid (IsBuilderF_below hbu (one_below wr (.cells #[.int .i64 κ, .string ⟨z.toArray⟩] 89)))
      have hll2 : l.length ≤ 90000000 := by omega
      clear hf hcell hst htl hbu HL hll
      rcases kind_ways κ with rfl | rfl | rfl | rfl | rfl | rfl | rfl | hκ
      · have C1 := Lib.hid (escaped_any ⟨z.toArray⟩ (wr.alloc (.cells #[.int .i64 1, .string ⟨z.toArray⟩] 89)) hz)
        rw [show (⟨z.toArray⟩ : ByteArray).data.toList = z from rfl] at C1
        obtain ⟨p, hp⟩ : ∃ p, safeL z = p := ⟨_, rfl⟩
        have hpl : p.length ≤ 4000 := by rw [← hp]; have := safe_len z; omega
        have HM := Lib.hid (show l ++ p = m by rw [← hmm, ← hp]; rfl)
        rw [hp] at C1
        clear hmm hp
        go_wp2_with fail
        refine C1.out.mono ?_
        rintro e wa ⟨rfl, hba⟩
        have b2 := bch b1 hba
        have C2 := Lib.hid (write_any w.heap.size l p m wa (IsBuilderF_below HBU.out hba) (by omega) (by omega) HM.out b2.size)
        clear HBL hba b1 C1 HBU c1 c2
        go_wp2_with fail
        refine C2.out.mono ?_
        rintro e wd ⟨rfl, hbuD, hbd, _⟩
        have b5 := b2.trans hbd
        clear C2 b2 hbd
        go_wp2_with fail
        go_roundw
        case rel => exact ⟨k + 1, m, by omega, by go_num, HN, hml, hbuD, b5, by have := hbuD.elim (fun h => h.lt) (fun h => h.lt); omega⟩
        case measure => simp [intOf]; omega
      · have C1 := Lib.hid (byte_any w.heap.size l m 32 32 (wr.alloc (.cells #[.int .i64 2, .string ⟨z.toArray⟩] 89)) HBU.out (by rfl) (by omega) hmm b1.size)
        clear hmm HBL HBU
        go_wp2_with fail
        refine C1.out.mono ?_
        rintro e wd ⟨rfl, hbuD, hbd, _⟩
        have b5 := b1.trans hbd
        clear C1 b1 hbd c1 c2
        go_wp2_with fail
        go_roundw
        case rel => exact ⟨k + 1, m, by omega, by go_num, HN, hml, hbuD, b5, by have := hbuD.elim (fun h => h.lt) (fun h => h.lt); omega⟩
        case measure => simp [intOf]; omega
      · have C1 := Lib.hid (write_any w.heap.size l [10, 10] m (wr.alloc (.cells #[.int .i64 3, .string ⟨z.toArray⟩] 89)) HBU.out (by omega) (by simp) hmm b1.size)
        clear hmm HBL HBU
        go_wp2_with fail
        refine C1.out.mono ?_
        rintro e wd ⟨rfl, hbuD, hbd, _⟩
        have b5 := b1.trans hbd
        clear C1 b1 hbd c1 c2
        go_wp2_with fail
        go_roundw
        case rel => exact ⟨k + 1, m, by omega, by go_num, HN, hml, hbuD, b5, by have := hbuD.elim (fun h => h.lt) (fun h => h.lt); omega⟩
        case measure => simp [intOf]; omega
      · obtain ⟨m1, hm1⟩ : ∃ m1, l ++ [(92 : UInt8)] = m1 := ⟨_, rfl⟩
        have hm1l : m1.length = l.length + 1 := by rw [← hm1]; simp
        have HM := Lib.hid (show m1 ++ z = m by rw [← hmm, ← hm1]; simp [tokT])
        have C1 := Lib.hid (byte_any w.heap.size l m1 92 92 (wr.alloc (.cells #[.int .i64 4, .string ⟨z.toArray⟩] 89)) HBU.out (by rfl) (by omega) hm1 b1.size)
        clear hmm HBU hm1
        go_wp2_with fail
        refine C1.out.mono ?_
        rintro e wb ⟨rfl, hbuB, hbb, hkB⟩
        have hbl2 := hkB wr.heap.size _ HBL.out (fun q => by simp at q; omega) (fun c fz q => by simp at q)
        obtain ⟨d1, d2⟩ := cells_two hbl2
        have b3 := b1.trans hbb
        have C4 := Lib.hid (write_any w.heap.size m1 z m wb hbuB (by omega) (by omega) HM.out b3.size)
        clear C1 HBL b1 hbb hkB hbl2 hbuB c1 c2
        go_wp2_with fail
        refine C4.out.mono ?_
        rintro e wd ⟨rfl, hbuD, hbd, _⟩
        have b5 := b3.trans hbd
        clear C4 b3 hbd d1 d2
        go_wp2_with fail
        go_roundw
        case rel => exact ⟨k + 1, m, by omega, by go_num, HN, hml, hbuD, b5, by have := hbuD.elim (fun h => h.lt) (fun h => h.lt); omega⟩
        case measure => simp [intOf]; omega
      · have C1 := Lib.hid (byte_any w.heap.size l m 123 123 (wr.alloc (.cells #[.int .i64 5, .string ⟨z.toArray⟩] 89)) HBU.out (by rfl) (by omega) hmm b1.size)
        clear hmm HBL HBU
        go_wp2_with fail
        refine C1.out.mono ?_
        rintro e wd ⟨rfl, hbuD, hbd, _⟩
        have b5 := b1.trans hbd
        clear C1 b1 hbd c1 c2
        go_wp2_with fail
        go_roundw
        case rel => exact ⟨k + 1, m, by omega, by go_num, HN, hml, hbuD, b5, by have := hbuD.elim (fun h => h.lt) (fun h => h.lt); omega⟩
        case measure => simp [intOf]; omega
      · have C1 := Lib.hid (byte_any w.heap.size l m 125 125 (wr.alloc (.cells #[.int .i64 6, .string ⟨z.toArray⟩] 89)) HBU.out (by rfl) (by omega) hmm b1.size)
        clear hmm HBL HBU
        go_wp2_with fail
        refine C1.out.mono ?_
        rintro e wd ⟨rfl, hbuD, hbd, _⟩
        have b5 := b1.trans hbd
        clear C1 b1 hbd c1 c2
        go_wp2_with fail
        go_roundw
        case rel => exact ⟨k + 1, m, by omega, by go_num, HN, hml, hbuD, b5, by have := hbuD.elim (fun h => h.lt) (fun h => h.lt); omega⟩
        case measure => simp [intOf]; omega
      · obtain ⟨m1, hm1⟩ : ∃ m1, l ++ [(35 : UInt8)] = m1 := ⟨_, rfl⟩
        have hm1l : m1.length = l.length + 1 := by rw [← hm1]; simp
        have HM := Lib.hid (show m1 ++ z = m by rw [← hmm, ← hm1]; simp [tokT])
        have C1 := Lib.hid (byte_any w.heap.size l m1 35 35 (wr.alloc (.cells #[.int .i64 7, .string ⟨z.toArray⟩] 89)) HBU.out (by rfl) (by omega) hm1 b1.size)
        clear hmm HBU hm1
        go_wp2_with fail
        refine C1.out.mono ?_
        rintro e wb ⟨rfl, hbuB, hbb, hkB⟩
        have hbl2 := hkB wr.heap.size _ HBL.out (fun q => by simp at q; omega) (fun c fz q => by simp at q)
        obtain ⟨d1, d2⟩ := cells_two hbl2
        have b3 := b1.trans hbb
        have C4 := Lib.hid (write_any w.heap.size m1 z m wb hbuB (by omega) (by omega) HM.out b3.size)
        clear C1 HBL b1 hbb hkB hbl2 hbuB c1 c2
        go_wp2_with fail
        refine C4.out.mono ?_
        rintro e wd ⟨rfl, hbuD, hbd, _⟩
        have b5 := b3.trans hbd
        clear C4 b3 hbd d1 d2
        go_wp2_with fail
        go_roundw
        case rel => exact ⟨k + 1, m, by omega, by go_num, HN, hml, hbuD, b5, by have := hbuD.elim (fun h => h.lt) (fun h => h.lt); omega⟩
        case measure => simp [intOf]; omega
      · obtain ⟨h1, h2, h3, h4, h5, h6, h7⟩ := hκ
        have e1 : m = l := by rw [← hmm]; unfold tokT; simp [h1, h2, h3, h4, h5, h6, h7]
        have d1 : (κ == 1) = false := by simpa using h1
        have d2 : (κ == 2) = false := by simpa using h2
        have d3 : (κ == 3) = false := by simpa using h3
        have d4 : (κ == 4) = false := by simpa using h4
        have d5 : (κ == 5) = false := by simpa using h5
        have d6 : (κ == 6) = false := by simpa using h6
        have d7 : (κ == 7) = false := by simpa using h7
        have hbuD : Lib.IsBuilderF 121 5 w.heap.size w.heap.size (Lib.byteCells m) (wr.alloc (.cells #[.int .i64 κ, .string ⟨z.toArray⟩] 89)) := by rw [e1]; exact HBU.out
        have HD := Lib.hid hbuD
        have B5 := Lib.hid b1
        clear h1 h2 h3 h4 h5 h6 h7 hmm HBL HBU e1 hbuD b1
        go_wp2_with fail
        go_roundw
        case rel => exact ⟨k + 1, m, by omega, by go_num, HN, hml, HD.out, B5.out, by simp; omega⟩
        case measure => simp [intOf]; omega
    · have hfin := HL.out
      rw [List.take_of_length_le (by omega)] at hfin
      have HF := Lib.hid hfin
      have C := Lib.hid (Tryz.Builder_String_anyF w.heap.size w.heap.size l wr hbu hb.size)
      clear hfin HL hbu
      go_wp2_with fail
      refine C.out.mono ?_
      rintro e w' ⟨rfl, _, hb2, _⟩
      go_wp2
      go_ret
      exact ⟨ret_eq (str_eq HF.out.symm), hb.trans hb2⟩
end Go.Proofs.YtmnbepapgghdaaaGreat

namespace Go.Proofs.YtmnbepapgghdaaaGreat
open Go.RowKit

theorem tk_eqIn37 (f g : Tok) (w : World) :
    (Op.equalIn 10000 89 (.agg #[.int .i64 f.1, .string ⟨f.2.toArray⟩]) (.agg #[.int .i64 g.1, .string ⟨g.2.toArray⟩])).run Tryz.prog w = .ok (decide (f = g)) w := by
  have u9 := Tryz.underlying9
  have a9 := Tryz.isAgg9
  have z9 := Tryz.sizeOf9
  have u3 := Tryz.underlying3
  have a3 := Tryz.isAgg3
  have z3 := Tryz.sizeOf3
  have hS : Tryz.prog.underlying 89 = some (.struct (Tryz.prog.fieldsOf 89)) := by kernel_rfl
  have hp : Tryz.prog.stoodInHeld 89 = false := by kernel_rfl
  rw [show (10000 : Nat) = 9999 + 1 from rfl, run_equalIn_agg w 9999 89 _ _ hS hp]
  simp only [Program.fieldsOf, Tryz.underlying89]
  go_simp
  obtain ⟨f1, f2⟩ := f
  obtain ⟨g1, g2⟩ := g
  by_cases h1 : f1 = g1 <;> by_cases h2 : f2 = g2 <;> simp [h1, h2]
theorem tk_neq_yes37 {f g : Tok} (h : f ≠ g) (w : World) :
    (binOp .neq 89 (.agg #[.int .i64 f.1, .string ⟨f.2.toArray⟩]) (.agg #[.int .i64 g.1, .string ⟨g.2.toArray⟩])).run Tryz.prog w = .ok (.bool true) w := by
  rw [run_neq_struct, tk_eqIn37, decide_eq_false h]; rfl
theorem tk_neq_no37 {f g : Tok} (h : f = g) (w : World) :
    (binOp .neq 89 (.agg #[.int .i64 f.1, .string ⟨f.2.toArray⟩]) (.agg #[.int .i64 g.1, .string ⟨g.2.toArray⟩])).run Tryz.prog w = .ok (.bool false) w := by
  rw [run_neq_struct, tk_eqIn37, decide_eq_true h]; rfl
theorem tk_eql37 (f g : Tok) (w : World) :
    (binOp .eql 89 (.agg #[.int .i64 f.1, .string ⟨f.2.toArray⟩]) (.agg #[.int .i64 g.1, .string ⟨g.2.toArray⟩])).run Tryz.prog w = .ok (.bool (decide (f = g))) w := by
  rw [run_eql_struct, tk_eqIn37]; rfl
theorem tk_eqIn40 (f g : Tok) (w : World) :
    (Op.equalIn 10000 82 (.agg #[.int .i64 f.1, .string ⟨f.2.toArray⟩]) (.agg #[.int .i64 g.1, .string ⟨g.2.toArray⟩])).run Tryz.prog w = .ok (decide (f = g)) w := by
  have u9 := Tryz.underlying9
  have a9 := Tryz.isAgg9
  have z9 := Tryz.sizeOf9
  have u3 := Tryz.underlying3
  have a3 := Tryz.isAgg3
  have z3 := Tryz.sizeOf3
  have hS : Tryz.prog.underlying 82 = some (.struct (Tryz.prog.fieldsOf 82)) := by kernel_rfl
  have hp : Tryz.prog.stoodInHeld 82 = false := by kernel_rfl
  rw [show (10000 : Nat) = 9999 + 1 from rfl, run_equalIn_agg w 9999 82 _ _ hS hp]
  simp only [Program.fieldsOf, Tryz.underlying82]
  go_simp
  obtain ⟨f1, f2⟩ := f
  obtain ⟨g1, g2⟩ := g
  by_cases h1 : f1 = g1 <;> by_cases h2 : f2 = g2 <;> simp [h1, h2]
theorem tk_neq_yes40 {f g : Tok} (h : f ≠ g) (w : World) :
    (binOp .neq 82 (.agg #[.int .i64 f.1, .string ⟨f.2.toArray⟩]) (.agg #[.int .i64 g.1, .string ⟨g.2.toArray⟩])).run Tryz.prog w = .ok (.bool true) w := by
  rw [run_neq_struct, tk_eqIn40, decide_eq_false h]; rfl
theorem tk_neq_no40 {f g : Tok} (h : f = g) (w : World) :
    (binOp .neq 82 (.agg #[.int .i64 f.1, .string ⟨f.2.toArray⟩]) (.agg #[.int .i64 g.1, .string ⟨g.2.toArray⟩])).run Tryz.prog w = .ok (.bool false) w := by
  rw [run_neq_struct, tk_eqIn40, decide_eq_true h]; rfl
theorem tk_eql40 (f g : Tok) (w : World) :
    (binOp .eql 82 (.agg #[.int .i64 f.1, .string ⟨f.2.toArray⟩]) (.agg #[.int .i64 g.1, .string ⟨g.2.toArray⟩])).run Tryz.prog w = .ok (.bool (decide (f = g))) w := by
  rw [run_eql_struct, tk_eqIn40]; rfl
theorem eq_stop {α : Type} [DecidableEq α] {fs gs : List α} {k : Nat} {f g : α} (hf : fs[k]? = some f) (hg : gs[k]? = some g) (hne : f ≠ g) : false = decide (fs = gs) :=
  (decide_eq_false fun e => by rw [e, hg] at hf; exact hne (Option.some.inj hf).symm).symm
theorem eq_step {α : Type} {fs gs : List α} {k : Nat} {f g : α} (hf : fs[k]? = some f) (hg : gs[k]? = some g) (he : f = g) (h : fs.take k = gs.take k) : fs.take (k + 1) = gs.take (k + 1) := by
  rw [List.take_add_one, List.take_add_one, hf, hg, he, h]
theorem eq_end {α : Type} [DecidableEq α] {fs gs : List α} {k : Nat} (h1 : fs.length ≤ k) (h2 : gs.length ≤ k) (h : fs.take k = gs.take k) : true = decide (fs = gs) := by
  rw [List.take_of_length_le h1, List.take_of_length_le h2] at h
  exact (decide_eq_true h).symm
theorem eq_len {α : Type} [DecidableEq α] {fs gs : List α} (h : fs.length ≠ gs.length) : false = decide (fs = gs) := (decide_eq_false fun e => h (by rw [e])).symm
set_option maxHeartbeats 1000000 in
theorem same_any (A B : Option Addr) (c d : Nat) (fs gs : List Tok) (w : World) (hr : Rd w A fs) (hq : Rd w B gs) (hc : fs.length ≤ 200000) (hd : gs.length ≤ 200000) :
    Calls Tryz.prog 19 #[.slice A fs.length c, .slice B gs.length d] w fun e w' => e = .returned (.bool (decide (fs = gs))) ∧ ∃ n, w' = w.drewN n := by
  by_cases hl : fs.length = gs.length
  · have q : ((fs.length : Int) != (gs.length : Int)) = false := by simp [hl]
    have HL := Lib.hid hl
    clear hl
    go_enter Tryz.func19, Tryz.ntmps19
    go_wp2
    go_loopw [5] (fun i wr => ∃ k m : Nat, k ≤ fs.length ∧ i = .int .i64 k ∧ fs.take k = gs.take k ∧ wr = w.drewN m) (fun i _ => fs.length - (intOf i).toNat)
    case atStart => exact ⟨0, 0, Nat.zero_le _, rfl, by simp, rfl⟩
    case round =>
      obtain ⟨k, m, hk, rfl, hall, rfl⟩ := hrel
      have Hall := Lib.hid hall
      clear hall
      by_cases hlt : k < fs.length
      · have hlt2 : k < gs.length := by rw [← HL.out]; exact hlt
        obtain ⟨b, o, rfl, hcell⟩ := hr (by omega)
        obtain ⟨b2, o2, rfl, hcell2⟩ := hq (by omega)
        obtain ⟨f, hf⟩ : ∃ f, fs[k]? = some f := ⟨_, List.getElem?_eq_getElem hlt⟩
        obtain ⟨g, hg⟩ : ∃ g, gs[k]? = some g := ⟨_, List.getElem?_eq_getElem hlt2⟩
        obtain ⟨c1, c2⟩ := hcell k f hf
        obtain ⟨e1, e2⟩ := hcell2 k g hg
        have HF := Lib.hid hf
        have HG := Lib.hid hg
        clear hf hcell hr hg hcell2 hq
        have i1 : (k : Int) < (fs.length : Int) := by omega
        have i2 : (k : Int) < (gs.length : Int) := by omega
        by_cases hfg : f = g
        · have hrun := tk_neq_no40 hfg
          have HE := Lib.hid hfg
          clear hfg
          go_wp2_with fail
          go_quiet (fail)
          go_wp2
          go_roundw
          case rel => exact ⟨k + 1, _, by omega, by go_num, eq_step HF.out HG.out HE.out Hall.out, rfl⟩
          case measure => simp [intOf]; omega
        · have hrun := tk_neq_yes40 hfg
          have HE := Lib.hid hfg
          clear hfg
          go_wp2_with fail
          go_quiet (fail)
          go_wp2
          go_ret
          exact ⟨ret_bool (eq_stop HF.out HG.out HE.out), _, World.drewN_drewN _ _ _⟩
      · go_wp2
        go_ret
        exact ⟨ret_bool (eq_end (by omega) (by rw [← HL.out]; omega) Hall.out), _, rfl⟩
  · have q : ((fs.length : Int) != (gs.length : Int)) = true := by simp; omega
    have HL := Lib.hid hl
    clear hl
    go_enter Tryz.func19, Tryz.ntmps19
    go_wp2
    go_ret
    exact ⟨ret_bool (eq_len HL.out), 0, rfl⟩
set_option maxHeartbeats 400000 in
theorem one_any (k : Int) (x : By) (w : World) :
    Calls Tryz.prog 39 #[.agg #[.int .i64 k, .string ⟨x.toArray⟩]] w fun e w' => e = .returned (.agg #[.int .i64 k, .string ⟨x.toArray⟩]) ∧ Below w.heap.size w w' := by
  have hb := two_below w (.cells #[.int .i64 k, .string ⟨x.toArray⟩] 89) (.cells #[.int .i64 k, .string ⟨x.toArray⟩] 82)
  have HB := Lib.hid hb
  have hbk := heap_alloc_new (w.alloc (.cells #[.int .i64 k, .string ⟨x.toArray⟩] 89)) (.cells #[.int .i64 k, .string ⟨x.toArray⟩] 82)
  have hz : (w.alloc (.cells #[.int .i64 k, .string ⟨x.toArray⟩] 89)).heap.size = w.heap.size + 1 := by simp
  rw [hz] at hbk
  have HBK := Lib.hid hbk
  clear hb hbk hz
  go_enter Tryz.func39, Tryz.ntmps39
  go_wp2
  refine bodyPost_ret (results_cell_row (P := Tryz.prog) rfl _ _ (w.heap.size + 1) 82 #[.int .i64 k, .string ⟨x.toArray⟩] (0, 0) _ (by rfl) HBK.out Tryz.underlying82 rfl (by kernel_rfl)) rfl ?_
  exact ⟨rfl, HB.out⟩
theorem own_empty (t : TypeId) (w : World) : Own t (w.alloc (.cells #[] t)) w.heap.size (some ⟨w.heap.size, 0, none⟩) 0 [] := World.ownsRow_lit w #[] 0 (Nat.le_refl _) (by unfold maxLen; omega) (by simp)
set_option maxRecDepth 100000 in
set_option maxHeartbeats 1000000 in
theorem refs_any (A : Option Addr) (c : Nat) (ts : List Tok) (w : World) (hr : Rd w A ts) (hl : ts.length ≤ 190000) :
    Calls Tryz.prog 20 #[.slice A ts.length c] w (Res 82 w ts) := by
  have ho0 := own_empty 82 w
  have hb0 := one_below w (.cells #[] 82)
  go_enter Tryz.func20, Tryz.ntmps20
  go_wp2_with fail
  go_loopw [3, 4] (fun v i wr => ∃ (k : Nat) (C : Option Addr) (cc : Nat) (xs : List Tok), k ≤ ts.length ∧ i = .int .i64 k ∧ v = .slice C xs.length cc ∧ Hid (ts.take k = xs) ∧ xs.length ≤ k ∧ Own 82 wr w.heap.size C cc xs ∧ Below w.heap.size w wr) (fun _ i _ => ts.length - (intOf i).toNat)
  case atStart => exact ⟨0, _, 0, [], Nat.zero_le _, rfl, rfl, Lib.hid rfl, by simp, ho0, hb0⟩
  case round =>
    clear ho0 hb0
    obtain ⟨k, C, cc, xs, hk, rfl, rfl, HX, hxl, hown, hb⟩ := hrel
    by_cases hlt : k < ts.length
    · obtain ⟨b, o, rfl, hcell⟩ := (hr.below hb) (by omega)
      obtain ⟨f, hf⟩ : ∃ f, ts[k]? = some f := ⟨_, List.getElem?_eq_getElem hlt⟩
      obtain ⟨c1, c2⟩ := hcell k f hf
      obtain ⟨κ, z⟩ := f
      simp only at c1 c2
      obtain ⟨ys, hy⟩ : ∃ ys, xs ++ [(κ, z)] = ys := ⟨_, rfl⟩
      have HN := Lib.hid (show ts.take (k + 1) = ys by rw [at_take hf, HX.out, hy])
      have HYL := Lib.hid (show ys.length = xs.length + 1 by rw [← hy]; simp)
      have HY := Lib.hid hy
      have HO := Lib.hid hown
      have C1 := Lib.hid (one_any κ z wr)
      have i1 : (k : Int) < (ts.length : Int) := by omega
      clear hf hcell hy hown HX
      go_wp2_with fail
      refine C1.out.mono ?_
      rintro e w1 ⟨rfl, hb1⟩
      have SB := bch hb1 (one_below w1 (.cells #[.int .i64 κ, .string ⟨z.toArray⟩] 82))
      have HO2 := Lib.hid (HO.out.below SB)
      have HB2 := Lib.hid (bch hb SB)
      clear HO hb1 SB c1 c2 C1
      go_wp2_with (at_builtin; refine wpList_append_rdn40 _ rfl _ _ rfl w.heap.size _ xs rfl HO2.out (some ⟨w1.heap.size, 0, none⟩) 1 1 [(κ, z)] rfl rfl (one_read (new_fst _ _ _ _) (new_snd _ _ _ _)) (by show xs.length + 1 ≤ _; omega) HB2.out.size ys HY.out ?_; intro N2 nc2 w3 hown2 hb3)
      have hb4 := HB2.out.trans hb3
      clear HO2 HB2 hb3
      go_roundw
      case rel => exact ⟨k + 1, N2, nc2, ys, by omega, by go_num, rfl, HN, by have := HYL.out; omega, hown2, hb4⟩
      case measure => simp [intOf]; omega
    · have hfin := HX.out
      rw [List.take_of_length_le (by omega)] at hfin
      have HF := Lib.hid hfin
      clear hfin HX
      go_wp2
      go_ret
      rw [HF.out]
      exact ⟨C, cc, rfl, hown, hb⟩
theorem min_run (a k : Int) (c : Nat) (hc : min a k = c) (ts : Array TypeId) (t : TypeId) (w : World) : (Builtin.min_ ts t #[.int .i64 a, .int .i64 k]).run Tryz.prog w = .ok (.int .i64 c) w := by
  by_cases h : k < a
  · have : k = c := by omega
    subst this
    simp [Builtin.min_, Builtin.min2]
    omega
  · have : a = c := by omega
    subst this
    simp [Builtin.min_, Builtin.min2]
    omega
theorem cut_str (s r : By) (c : Nat) (hc : c ≤ s.length) (hr : s.take c = r) (w : World) : (Instr.slice 9 (.string ⟨s.toArray⟩) none (some (.int .i64 c)) none).run Tryz.prog w = .ok (.string ⟨r.toArray⟩) w := by
  have u9 := Tryz.underlying9
  subst hr
  go_simp
  apply ByteArray.ext
  simp [ByteArray.data_extract]
theorem cut_facts (s : By) (m : Nat) (k : Int) (hk : k = m) : ∃ (c : Nat) (r : By), Hid (s.take m = r) ∧ r.length ≤ m ∧ (∀ ts t w, (Builtin.min_ ts t #[.int .i64 s.length, .int .i64 k]).run Tryz.prog w = .ok (.int .i64 c) w) ∧ (∀ w, (Instr.slice 9 (.string ⟨s.toArray⟩) none (some (.int .i64 c)) none).run Tryz.prog w = .ok (.string ⟨r.toArray⟩) w) :=
  ⟨min s.length m, s.take m, Lib.hid rfl, by rw [List.length_take]; omega, fun ts t w => min_run _ _ _ (by omega) ts t w, fun w => cut_str s _ _ (by omega) (by rw [List.take_eq_take_iff]; omega) w⟩
def cut40 (t : Tok) : Tok := (t.1, t.2.take 40)
def cutL (most : Nat) (l : List Tok) : List Tok := (l.take most).map cut40
theorem cutL_step {most : Nat} {ts : List Tok} {k : Nat} {f : Tok} (h : ts[k]? = some f) : (ts.take (k + 1)).map cut40 = (ts.take k).map cut40 ++ [cut40 f] := by rw [at_take h]; simp
end Go.Proofs.YtmnbepapgghdaaaGreat

namespace Go.Proofs.YtmnbepapgghdaaaGreat
open Go.RowKit

theorem str_app {a b r : By} (h : a ++ b = r) : Value.string (({ data := a.toArray } : ByteArray) ++ { data := b.toArray }) = Value.string { data := r.toArray } := by
  subst h; congr 1
theorem one_byte (t : ByteArray) (k : Nat) (h : k < t.size) : t.extract k (k + 1) = ⟨([t[k]] : By).toArray⟩ := by
  apply str_of
  rw [ext_list, take_step t k h, List.drop_append, List.length_take, size_list]
  rw [List.drop_of_length_le (by rw [List.length_take]; omega), show k - min k t.size = 0 by omega]
  rfl
theorem ret_two {a b c d : Value} (h1 : a = c) (h2 : b = d) : Ending.returned (.tuple #[a, b]) = .returned (.tuple #[c, d]) := by rw [h1, h2]
theorem int_eq {a b : Int} (h : a = b) : Value.int .i64 a = .int .i64 b := by rw [h]
/-- Place and error, as the program answers them. -/
def GrpPost (w : World) (p : Int × Int) (e : Ending) (w' : World) : Prop := e = .returned (.tuple #[.int .i64 p.1, .int .i64 p.2]) ∧ w = w'
theorem grpE_in {l : List Tok} {a : Nat} (h : a ≤ l.length) : grpE l a = grpP (grpN l a) := by
  unfold grpE
  rw [if_neg (by omega)]
  rfl
theorem grpE_out {l : List Tok} {a : Int} (h : a < 0 ∨ (l.length : Int) < a) : grpE l a = (0, 1) := by
  unfold grpE; rw [if_pos h]
set_option maxRecDepth 100000 in
set_option maxHeartbeats 4000000 in
theorem rgroup_any (A : Option Addr) (c : Nat) (ts : List Tok) (x : Int) (w : World) (hr : Rd w A ts) (hl : ts.length ≤ 200000) :
    Calls Tryz.prog 109 #[.slice A ts.length c, .int .i64 x] w (GrpPost w (grpE ts x)) := by
  rcases (show x < 0 ∨ (ts.length : Int) < x ∨ x = (ts.length : Int) ∨ ∃ a : Nat, x = (a : Int) ∧ a < ts.length by
    by_cases h : x < 0
    · exact .inl h
    · by_cases h2 : (ts.length : Int) < x
      · exact .inr (.inl h2)
      · by_cases h3 : x = (ts.length : Int)
        · exact .inr (.inr (.inl h3))
        · exact .inr (.inr (.inr ⟨x.toNat, by omega, by omega⟩))) with h | h | h | ⟨a, rfl, ha⟩
  · rw [grpE_out (.inl h)]
    go_enter Tryz.func109, Tryz.ntmps109
    go_wp2
    go_ret2
    exact ⟨rfl, rfl⟩
  · rw [grpE_out (.inr h)]
    have h0 : ¬ x < 0 := by omega
    go_enter Tryz.func109, Tryz.ntmps109
    go_wp2
    go_ret2
    exact ⟨rfl, rfl⟩
  · subst h
    rw [grpE_in (Nat.le_refl _), grp_out (Nat.le_refl _), show grpP none = (0, 10) from rfl]
    have h0 : ¬ (ts.length : Int) < 0 := by omega
    have q : ((ts.length : Int) == (ts.length : Int)) = true := by simp
    go_enter Tryz.func109, Tryz.ntmps109
    go_wp2
    go_ret2
    exact ⟨rfl, rfl⟩
  · rw [grpE_in (by omega)]
    obtain ⟨b, o, rfl, hcell⟩ := hr (by omega)
    obtain ⟨f, hf⟩ : ∃ f, ts[a]? = some f := ⟨_, List.getElem?_eq_getElem ha⟩
    obtain ⟨c1, c2⟩ := hcell a f hf
    have HC := Lib.hid hcell
    clear hcell hr
    have h0 : ¬ (a : Int) < 0 := by omega
    have h1 : ¬ (ts.length : Int) < (a : Int) := by omega
    have i1 : (a : Int) < (ts.length : Int) := by omega
    have q : ((a : Int) == (ts.length : Int)) = false := by rw [beq_eq_false_iff_ne]; omega
    by_cases h5 : f.1 = 5
    · have hG := grp_begin hf h5
      obtain ⟨G, hGG⟩ : ∃ G, grpN ts a = G := ⟨_, rfl⟩
      rw [hGG] at hG ⊢
      have HG := Lib.hid hG
      have HF := Lib.hid (And.intro hf h5)
      rw [h5] at c1
      clear hGG hG hf h5 c2
      go_enter Tryz.func109, Tryz.ntmps109
      go_wp2
      go_loop [6, 7] (fun v6 v7 => ∃ d i : Nat, v6 = .int .i64 d ∧ v7 = .int .i64 i ∧ a ≤ i ∧ i ≤ ts.length ∧ d ≤ i ∧ (d = 0 → i = a) ∧ Hid ((endG d (ts.drop i)).map (· + i) = G)) (fun _ v7 => ts.length - (intOf v7).toNat)
      case atStart => exact ⟨0, a, rfl, rfl, Nat.le_refl _, by omega, Nat.zero_le _, fun _ => rfl, HG⟩
      case round =>
        obtain ⟨d, i, rfl, rfl, hai, hi, hdi, hd0, HE⟩ := hrel
        by_cases hlt : i < ts.length
        · obtain ⟨g, hg⟩ : ∃ g, ts[i]? = some g := ⟨_, List.getElem?_eq_getElem hlt⟩
          obtain ⟨e1, _⟩ := HC.out i g hg
          have hst := end_step hg HE.out
          have i2 : (i : Int) < (ts.length : Int) := by omega
          have hga : d = 0 → g.1 = 5 := fun h => by
            have e := hd0 h
            subst e
            have := HF.out.1.symm.trans hg
            rw [← Option.some.inj this]; exact HF.out.2
          clear hd0 HE hg c1
          by_cases g5 : g.1 = 5
          · rw [g5] at e1
            have hd : dep d g = d + 1 := by simp [dep, g5]
            rw [hd] at hst
            rcases hst with ⟨h, _⟩ | ⟨_, hst⟩
            · omega
            · have HN := Lib.hid hst
              have q2 : ((d : Int) + 1 == 0) = false := by rw [beq_eq_false_iff_ne]; omega
              clear hst hd hga g5
              go_wp2
              go_round
              case rel => exact ⟨d + 1, i + 1, by go_num, by go_num, by omega, by omega, by omega, by omega, HN⟩
              case measure => simp [intOf]; omega
          · have q5 : (g.1 == 5) = false := by simpa using g5
            have hd1 : d ≠ 0 := fun h => g5 (hga h)
            by_cases g6 : g.1 = 6
            · rw [g6] at e1
              have hd : dep d g = d - 1 := by simp [dep, g6]
              rw [hd] at hst
              have f1 : (d : Int) - 1 = ((d - 1 : Nat) : Int) := by omega
              obtain ⟨d2, hd2⟩ : ∃ d2, d - 1 = d2 := ⟨_, rfl⟩
              rw [hd2] at f1 hst
              have f0 : IntKind.i64.wrap ((d : Int) - 1) = (d2 : Int) := by rw [IntWalk.i64_in _ (by omega)]; exact f1
              have f2 : IntKind.i64.wrap (d2 : Int) = (d2 : Int) := IntWalk.i64_in _ (by omega)
              rcases hst with ⟨h, hst⟩ | ⟨h, hst⟩
              · subst h
                have HN := Lib.hid hst
                have q2 : (((0 : Nat) : Int) == 0) = true := rfl
                clear hst hd hga g5 g6 hd2
                go_wp2
                go_ret2
                rw [HN.out]
                exact ⟨rfl, rfl⟩
              · have HN := Lib.hid hst
                have q2 : ((d2 : Int) == 0) = false := by rw [beq_eq_false_iff_ne]; omega
                have hdl : d2 ≤ i + 1 := by omega
                clear hst hd hga g5 g6 hd2
                go_wp2
                go_round
                case rel => exact ⟨d2, i + 1, rfl, by go_num, by omega, by omega, by omega, fun e => absurd e h, HN⟩
                case measure => simp [intOf]; omega
            · have q6 : (g.1 == 6) = false := by simpa using g6
              have hd : dep d g = d := by simp [dep, g5, g6]
              rw [hd] at hst
              rcases hst with ⟨h, _⟩ | ⟨_, hst⟩
              · exact absurd h hd1
              · have HN := Lib.hid hst
                have q2 : ((d : Int) == 0) = false := by rw [beq_eq_false_iff_ne]; omega
                clear hst hd hga g5 g6
                go_wp2
                go_round
                case rel => exact ⟨d, i + 1, rfl, by go_num, by omega, by omega, by omega, fun e => absurd e hd1, HN⟩
                case measure => simp [intOf]; omega
        · have HN := Lib.hid (end_stop (by omega) HE.out)
          have i2 : ¬ (i : Int) < (ts.length : Int) := by omega
          clear HE c1
          go_wp2
          go_ret2
          rw [HN.out]
          exact ⟨rfl, rfl⟩
    · rw [grp_not hf h5, show grpP none = (0, 10) from rfl]
      have q5 : (f.1 != 5) = true := by simpa using h5
      have q5' : (f.1 == 5) = false := by simpa using h5
      clear hf h5
      go_enter Tryz.func109, Tryz.ntmps109
      go_wp2
      go_ret2
      exact ⟨rfl, rfl⟩
def wordE (l : List Tok) : By × Bool := match l with
  | [t] => if t.1 = 1 then (t.2, true) else ([], false)
  | _ => ([], false)
theorem wordE_len {l : List Tok} (h : l.length ≠ 1) : wordE l = ([], false) := by
  match l, h with
  | [], _ => rfl
  | [t], h => exact absurd rfl h
  | _ :: _ :: _, _ => rfl
set_option maxHeartbeats 1000000 in
theorem rword7_any (A : Option Addr) (c : Nat) (ts : List Tok) (w : World) (hr : Rd w A ts) (hl : ts.length ≤ 200000) :
    Calls Tryz.prog 85 #[.slice A ts.length c] w fun e w' => e = .returned (.tuple #[.string ⟨(wordE ts).1.toArray⟩, .bool (wordE ts).2]) ∧ w = w' := by
  by_cases h1 : ts.length = 1
  · match ts, h1 with
    | [t], _ =>
      obtain ⟨b, o, rfl, hcell⟩ := hr (by simp)
      obtain ⟨c1, c2⟩ := hcell 0 t rfl
      have d1 : w.cell? ⟨b, o, none⟩ = some (.int .i64 t.1) := by simpa using c1
      have d2 : w.cell? ⟨b, o + 1, none⟩ = some (.string ⟨t.2.toArray⟩) := by simpa using c2
      clear hcell hr hl
      by_cases ht : t.1 = 1
      · have HE := Lib.hid (show wordE [t] = (t.2, true) by simp [wordE, ht])
        rw [ht] at c1 d1
        obtain ⟨k, z⟩ := t
        simp only at c2 d2 HE
        clear ht
        generalize hts : wordE [(k, z)] = v at *
        go_enter Tryz.func85, Tryz.ntmps85
        go_wp2
        go_ret2
        rw [HE.out]
        exact ⟨rfl, rfl⟩
      · have HE := Lib.hid (show wordE [t] = ([], false) by simp [wordE, ht])
        have q : (t.1 != 1) = true := by simpa using ht
        have q' : (t.1 == 1) = false := by simpa using ht
        obtain ⟨k, z⟩ := t
        simp only at c1 d1 c2 d2 HE q q'
        clear ht
        generalize hts : wordE [(k, z)] = v at *
        go_enter Tryz.func85, Tryz.ntmps85
        go_wp2
        go_ret2
        rw [HE.out]
        exact ⟨rfl, rfl⟩
  · rw [wordE_len h1]
    have q : ((ts.length : Int) != 1) = true := by simp; omega
    have q' : ((ts.length : Int) == 1) = false := by rw [beq_eq_false_iff_ne]; omega
    clear hr h1
    go_enter Tryz.func85, Tryz.ntmps85
    go_wp2
    go_ret2
    exact ⟨rfl, rfl⟩
end Go.Proofs.YtmnbepapgghdaaaGreat

namespace Go.Proofs.YtmnbepapgghdaaaGreat
open Go.RowKit

theorem last_take (s : ByteArray) (k : Nat) (h : k < s.size) : (s.data.toList.take (k + 1)).getLast? = some s[k] := by
  rw [take_step s k h]; simp
theorem sq_at0 (s : ByteArray) (h : 0 < s.size) : sqG true (s.data.toList.take (0 + 1)) = if s[0] = 32 then [] else [s[0]] := by
  rw [take_step s 0 h, List.take_zero, List.nil_append]
  by_cases h2 : s[0] = 32 <;> simp [sqG, h2]
theorem sq_at (s : ByteArray) (k : Nat) (h : k + 1 < s.size) : sqG true (s.data.toList.take (k + 1 + 1)) = sqG true (s.data.toList.take (k + 1)) ++ (if s[k + 1] = 32 then (if s[k] = 32 then [] else [32]) else [s[k + 1]]) := by
  rw [take_step s (k + 1) h, sq_step, last_take s k (by omega)]
  simp only [beq_iff_eq]
theorem trim_yes {l : By} {m : Nat} {x : UInt8} (hl : l.length = m + 1) (hx : l[m]? = some x) (h : x = 32) : trimB l = l.take m := by
  unfold trimB
  rw [List.getLast?_eq_getElem?, show l.length - 1 = m by omega, hx, if_pos (by rw [h]), List.dropLast_eq_take, show l.length - 1 = m by omega]
theorem trim_no {l : By} {m : Nat} {x : UInt8} (hl : l.length = m + 1) (hx : l[m]? = some x) (h : x ≠ 32) : trimB l = l := by
  unfold trimB
  rw [List.getLast?_eq_getElem?, show l.length - 1 = m by omega, hx, if_neg (by simpa using h)]
theorem int_ne {c : UInt8} {x : Int} (hx : (c.toNat : Int) = x) : (c = 32) ↔ x = 32 := by
  subst hx; exact byte_iff c 32 (by omega)
theorem raw_step {ts : List Tok} {k : Nat} {f : Tok} (h : ts[k]? = some f) : rawL (ts.take (k + 1)) = rawL (ts.take k) ++ rawT f := by
  rw [at_take h, raw_app]; simp [rawL]
theorem raw_one (f : Tok) (h : f.2.length ≤ 2000) : (rawT f).length ≤ 2000 := by
  unfold rawT
  split
  · exact h
  · split <;> simp
end Go.Proofs.YtmnbepapgghdaaaGreat

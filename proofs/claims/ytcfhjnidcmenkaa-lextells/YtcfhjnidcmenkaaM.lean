/-
  The contract of the laws' fixed calls: they answer true; old memory stays.
-/
import Derived.Test.YtcfhjnidcmenkaaL
import Derived.Test.YtcfhjnidcmenkaaF
namespace Go.Proofs.Ytcfhjnidcmenkaa
open Go.RowKit

theorem lit_read (w : World) (ts : List Tok) (t : TypeId) : Rd (w.alloc (.cells (fcells ts).toArray t)) (some ⟨w.heap.size, 0, none⟩) ts := fun _ => by
  refine ⟨w.heap.size, 0, rfl, fun i f hi => ?_⟩
  obtain ⟨h1, h2⟩ := fcells_at ts i f hi
  have hb := heap_alloc_new w (.cells (fcells ts).toArray t)
  rw [Nat.zero_add]
  exact ⟨(cell_of hb _).trans (by simpa using h1), (cell_of hb _).trans (by simpa using h2)⟩
theorem same_lit (A : Option Addr) (c d n : Nat) (ts : List Tok) (w : World) (o : Array Value) (ho : o = (fcells ts).toArray) (hn : n = ts.length) (hr : Rd w A ts) (hl : ts.length ≤ 1000) :
    Calls Try.prog 10 #[.slice A ts.length c, .slice (some ⟨w.heap.size, 0, none⟩) n d] (w.alloc (.cells o 40)) fun e w' => e = .returned (.bool true) ∧ Below w.heap.size w w' := by
  subst ho hn
  refine (same_any A _ c d ts ts _ (hr.alloc _) (lit_read w ts 40) (by omega) (by omega)).mono ?_
  rintro e w' ⟨rfl, n, rfl⟩
  exact ⟨ret_bool (decide_eq_true rfl), (one_below w _).trans ⟨rfl, rfl, rfl, Nat.le_refl _, fun _ _ => rfl⟩⟩
theorem right_lit (w : World) : Calls Try.prog 16 #[.slice (some ⟨w.heap.size, 0, none⟩) 1 1] (w.alloc (.cells #[.int .i64 1, .string ⟨#[]⟩] 37)) fun e w' => e = .returned (.bool false) ∧ Below w.heap.size w w' := by
  refine (right_any (some ⟨w.heap.size, 0, none⟩) 1 [(1, [])] (w.alloc (.cells #[.int .i64 1, .string ⟨#[]⟩] 37)) (one_read (new_fst _ _ _ _) (new_snd _ _ _ _)) (Lib.hid (by intro t ht; simp at ht; subst ht; simp)) (by simp)).mono ?_
  rintro e w' ⟨rfl, hb⟩
  exact ⟨rfl, bch (one_below w _) hb⟩
def fxA : List Tok := [(1, [97, 37, 98])]
def fxB : List Tok := [(4, [99, 105, 116, 101]), (5, []), (1, [120]), (6, []), (2, [])]
def fxC : List Tok := [(1, [97]), (3, []), (1, [98]), (7, [49]), (1, [35, 48])]
theorem fxA_is : toks [97, 92, 37, 98] = fxA := by decide +kernel
theorem fxB_is : toks [92, 99, 105, 116, 101, 123, 120, 125, 37, 121] = fxB := by decide +kernel
theorem fxC_is : toks [97, 32, 10, 37, 120, 10, 10, 98, 35, 49, 35, 48] = fxC := by decide +kernel
theorem fxA_text : textL fxA = [97, 92, 37, 98] := by decide +kernel
theorem fxB_text : textL fxB = [92, 99, 105, 116, 101, 123, 120, 125, 32] := by decide +kernel
theorem fxA_right : rightL fxA = true := by decide +kernel
theorem fx_mild : Mild fxA ∧ Mild fxB := by
  constructor <;> intro t ht <;> simp only [fxA, fxB, List.mem_cons, List.not_mem_nil, or_false] at ht <;> rcases ht with rfl | rfl | rfl | rfl | rfl <;> simp
theorem lex_lit (s : By) (ts : List Tok) (w : World) (hs : s.length ≤ 1000) (h : toks s = ts) : Calls Try.prog 12 #[.string ⟨s.toArray⟩] w (Res 37 w ts) := by
  have := lex_any ⟨s.toArray⟩ w (by show s.length ≤ _; omega)
  rw [show (⟨s.toArray⟩ : ByteArray).data.toList = s from rfl, h] at this
  exact this
set_option maxRecDepth 100000 in
set_option maxHeartbeats 4000000 in
theorem fixed_any (w : World) : Calls Try.prog 18 #[] w fun e w' => e = .returned (.bool true) ∧ Below w.heap.size w w' := by
  have LA := Lib.hid (fun w => lex_lit _ _ w (by simp) fxA_is)
  have LB := Lib.hid (fun w => lex_lit _ _ w (by simp) fxB_is)
  have LC := Lib.hid (fun w => lex_lit _ _ w (by simp) fxC_is)
  have hla : fxA.length ≤ 10 := by simp [fxA]
  have hlb : fxB.length ≤ 10 := by simp [fxB]
  have hlc : fxC.length ≤ 10 := by simp [fxC]
  have EA := Lib.hid (show #[Value.int .i64 1, .string ⟨#[97, 37, 98]⟩] = (fcells fxA).toArray ∧ 1 = fxA.length from ⟨rfl, rfl⟩)
  have EB := Lib.hid (show #[Value.int .i64 4, .string ⟨#[99, 105, 116, 101]⟩, .int .i64 5, .string ⟨#[]⟩, .int .i64 1, .string ⟨#[120]⟩, .int .i64 6, .string ⟨#[]⟩, .int .i64 2, .string ⟨#[]⟩] = (fcells fxB).toArray ∧ 5 = fxB.length from ⟨rfl, rfl⟩)
  have EC := Lib.hid (show #[Value.int .i64 1, .string ⟨#[97]⟩, .int .i64 3, .string ⟨#[]⟩, .int .i64 1, .string ⟨#[98]⟩, .int .i64 7, .string ⟨#[49]⟩, .int .i64 1, .string ⟨#[35, 48]⟩] = (fcells fxC).toArray ∧ 5 = fxC.length from ⟨rfl, rfl⟩)
  have TA := Lib.hid (fun (A : Option Addr) (c : Nat) (w : World) (hr : Rd w A fxA) => (fxA_text ▸ text_any A c fxA w hr (Lib.hid fx_mild.1) (by omega) : Calls Try.prog 14 #[.slice A fxA.length c] w fun e w' => e = .returned (.string ⟨([97, 92, 37, 98] : By).toArray⟩) ∧ Below w.heap.size w w'))
  have TB := Lib.hid (fun (A : Option Addr) (c : Nat) (w : World) (hr : Rd w A fxB) => (fxB_text ▸ text_any A c fxB w hr (Lib.hid fx_mild.2) (by omega) : Calls Try.prog 14 #[.slice A fxB.length c] w fun e w' => e = .returned (.string ⟨([92, 99, 105, 116, 101, 123, 120, 125, 32] : By).toArray⟩) ∧ Below w.heap.size w w'))
  have RA := Lib.hid (fun (A : Option Addr) (c : Nat) (w : World) (hr : Rd w A fxA) => (fxA_right ▸ right_any A c fxA w hr (Lib.hid fx_mild.1) (by omega) : Calls Try.prog 16 #[.slice A fxA.length c] w fun e w' => e = .returned (.bool true) ∧ Below w.heap.size w w'))
  generalize fxA = ta at *
  generalize fxB = tb at *
  generalize fxC = tc at *
  go_enter Try.func18, Try.ntmps18
  go_wp2_with fail
  refine (LA.out _).mono ?_
  rintro e w1 ⟨Aa, ca, rfl, hoa, hb⟩
  replace hoa := hoa.rd
  have HB := Lib.hid hb
  clear hb LA
  go_wp2_with fail
  refine (LB.out _).mono ?_
  rintro e w2 ⟨Ab, cb, rfl, hob, hb2⟩
  replace hoa := hoa.below hb2
  replace hob := hob.rd
  replace HB := Lib.hid (bch HB.out hb2)
  clear hb2 LB
  go_wp2_with fail
  refine (LC.out _).mono ?_
  rintro e w3 ⟨Ac, cc, rfl, hoc, hb3⟩
  replace hoa := hoa.below hb3
  replace hob := hob.below hb3
  replace hoc := hoc.rd
  replace HB := Lib.hid (bch HB.out hb3)
  clear hb3 LC
  go_wp2_with fail
  refine (refs_any Aa ca ta w3 hoa (by omega)).mono ?_
  rintro e w4 ⟨Ra, ra, rfl, hra, hb4⟩
  replace hoa := hoa.below hb4
  replace hob := hob.below hb4
  replace hoc := hoc.below hb4
  replace HB := Lib.hid (bch HB.out hb4)
  have S1 := Lib.hid (same_lit Ra ra 1 1 ta w4 _ EA.out.1 EA.out.2 hra.rd (by omega))
  clear hb4 hra
  go_wp2_with fail
  refine S1.out.mono ?_
  rintro e w5 ⟨rfl, hb5⟩
  replace hoa := hoa.below hb5
  replace hob := hob.below hb5
  replace hoc := hoc.below hb5
  replace HB := Lib.hid (bch HB.out hb5)
  clear hb5 S1 EA
  go_wp2_with fail
  refine (refs_any Ab cb tb w5 hob (by omega)).mono ?_
  rintro e w6 ⟨Rb, rb, rfl, hrb, hb6⟩
  replace hoa := hoa.below hb6
  replace hob := hob.below hb6
  replace hoc := hoc.below hb6
  replace HB := Lib.hid (bch HB.out hb6)
  have S2 := Lib.hid (same_lit Rb rb 5 5 tb w6 _ EB.out.1 EB.out.2 hrb.rd (by omega))
  clear hb6 hrb
  go_wp2_with fail
  refine S2.out.mono ?_
  rintro e w7 ⟨rfl, hb7⟩
  replace hoa := hoa.below hb7
  replace hob := hob.below hb7
  replace hoc := hoc.below hb7
  replace HB := Lib.hid (bch HB.out hb7)
  clear hb7 S2 EB
  go_wp2_with fail
  refine (refs_any Ac cc tc w7 hoc (by omega)).mono ?_
  rintro e w8 ⟨Rc, rc, rfl, hrc, hb8⟩
  replace hoa := hoa.below hb8
  replace hob := hob.below hb8
  replace HB := Lib.hid (bch HB.out hb8)
  have S3 := Lib.hid (same_lit Rc rc 5 5 tc w8 _ EC.out.1 EC.out.2 hrc.rd (by omega))
  clear hb8 hrc hoc
  go_wp2_with fail
  refine S3.out.mono ?_
  rintro e w9 ⟨rfl, hb9⟩
  replace hoa := hoa.below hb9
  replace hob := hob.below hb9
  replace HB := Lib.hid (bch HB.out hb9)
  clear hb9 S3 EC
  go_wp2_with fail
  refine (TA.out Aa ca w9 hoa).mono ?_
  rintro e w10 ⟨rfl, hb10⟩
  replace hoa := hoa.below hb10
  replace hob := hob.below hb10
  replace HB := Lib.hid (bch HB.out hb10)
  clear hb10 TA
  go_wp2_with fail
  refine (TB.out Ab cb w10 hob).mono ?_
  rintro e w11 ⟨rfl, hb11⟩
  replace hoa := hoa.below hb11
  replace HB := Lib.hid (bch HB.out hb11)
  clear hb11 TB hob
  go_wp2_with fail
  refine (RA.out Aa ca w11 hoa).mono ?_
  rintro e w12 ⟨rfl, hb12⟩
  replace HB := Lib.hid (bch HB.out hb12)
  clear hb12 RA hoa
  go_wp2_with fail
  refine (right_lit w12).mono ?_
  rintro e w13 ⟨rfl, hb13⟩
  replace HB := Lib.hid (bch HB.out hb13)
  clear hb13
  go_wp2
  go_ret
  exact ⟨rfl, HB.out⟩
end Go.Proofs.Ytcfhjnidcmenkaa

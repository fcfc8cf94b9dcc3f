/-
  The walk of LexPlain: for every input it returns true; old memory stays.
-/
import Derived.Test.YtcfhjnidcmenkaaQ
import Derived.Test.YtcfhjnidcmenkaaV
import Derived.Lib.SlBytesConst
namespace Go.Proofs.Ytcfhjnidcmenkaa
open Go.RowKit

def abc : By := [97, 98, 99, 120, 121, 122, 65, 66, 67, 88, 89, 90]
theorem abc_at (j : Nat) (h : j < 12) : ∃ c : UInt8, abc[j]? = some c ∧ ltr c = true := by
  have : ∀ j : Fin 12, ∃ c : UInt8, abc[j.val]? = some c ∧ ltr c = true := by
    intro j
    match j with
    | 0 => exact ⟨97, rfl, by decide⟩
    | 1 => exact ⟨98, rfl, by decide⟩
    | 2 => exact ⟨99, rfl, by decide⟩
    | 3 => exact ⟨120, rfl, by decide⟩
    | 4 => exact ⟨121, rfl, by decide⟩
    | 5 => exact ⟨122, rfl, by decide⟩
    | 6 => exact ⟨65, rfl, by decide⟩
    | 7 => exact ⟨66, rfl, by decide⟩
    | 8 => exact ⟨67, rfl, by decide⟩
    | 9 => exact ⟨88, rfl, by decide⟩
    | 10 => exact ⟨89, rfl, by decide⟩
    | 11 => exact ⟨90, rfl, by decide⟩
  exact this ⟨j, h⟩
def abcV : Array Value := #[.int .u8 97, .int .u8 98, .int .u8 99, .int .u8 120, .int .u8 121, .int .u8 122, .int .u8 65, .int .u8 66, .int .u8 67, .int .u8 88, .int .u8 89, .int .u8 90]
theorem abc_cell (w : World) (j : Nat) (c : UInt8) (h : abc[j]? = some c) : (w.alloc (.cells abcV 5 (12, 13))).cell? ⟨w.heap.size, j, none⟩ = some (.int .u8 c.toNat) := by
  rw [cell_of (heap_alloc_new w _) j, show abcV = (abc.map fun c => Value.int .u8 c.toNat).toArray from rfl]
  simp [h]
theorem byte_conv (w : World) (y : UInt8) (x : Int) (hx : (y.toNat : Int) = x) (c g : Nat) (hg : g = w.heap.size) : (convert 39 9 (.slice (some ⟨g, 0, none⟩) 1 c)).run Try.prog (w.alloc (.cells #[.int .u8 x] 5)) = .ok (.string ⟨([y] : By).toArray⟩) (w.alloc (.cells #[.int .u8 x] 5)) := by
  subst hx hg
  refine run_convert_bytes_back (P := Try.prog) (w.alloc (.cells #[.int .u8 (y.toNat : Int)] 5)) 39 9 5 ⟨w.heap.size, 0, none⟩ c [y] Try.underlying39 Try.underlying5 Try.underlying9 fun j hj => ?_
  have : j = 0 := by simp at hj; omega
  subst this
  exact cell_of (heap_alloc_new w _) 0
set_option maxRecDepth 100000 in
set_option maxHeartbeats 4000000 in
theorem lexPlain_walk (A : Option Addr) (c : Nat) (xs : List UInt8) (w : World) (hr : RdY w A xs) (hl : xs.length ≤ 9223372036854775807) :
    Calls Try.prog 7 #[.slice A xs.length c] w fun e w' => e = .returned (.bool true) ∧ Below w.heap.size w w' := by
  go_enter Try.func7, Try.ntmps7
  go_wp2
  go_loopw [3, 4] (fun v3 v4 wr => ∃ (k : Nat) (u : By), k ≤ xs.length ∧ k ≤ 30 ∧ v4 = .int .i64 k ∧ v3 = .string ⟨u.toArray⟩ ∧ u.length ≤ k ∧ Hid (u.all ltr = true) ∧ Below w.heap.size w wr) (fun _ v4 _ => xs.length - (intOf v4).toNat)
  case atStart => exact ⟨0, [], Nat.zero_le _, by omega, rfl, rfl, by simp, Lib.hid rfl, Below.refl _ _⟩
  case round =>
    obtain ⟨k, u, hk, hk2, rfl, rfl, hul, HU, hb⟩ := hrel
    by_cases hin : k < xs.length ∧ k < 30
    · obtain ⟨hlt, hlt2⟩ := hin
      obtain ⟨b, o, rfl, hcell⟩ := (hr.below hb) (by omega)
      obtain ⟨f, hf⟩ : ∃ f, xs[k]? = some f := ⟨_, List.getElem?_eq_getElem hlt⟩
      have c1 := hcell k f hf
      have f0 : (f.toNat : Int) < 256 := by have := f.toNat_lt; omega
      obtain ⟨j, hj⟩ : ∃ j : Nat, f.toNat % 12 = j := ⟨_, rfl⟩
      have hj12 : j < 12 := by omega
      have hm : Int.tmod (f.toNat : Int) 12 = (j : Int) := by rw [Int.tmod_eq_emod_of_nonneg (by omega)]; omega
      obtain ⟨y, hy, hyl⟩ := abc_at j hj12
      have d1 := abc_cell wr j y hy
      have hbb := one_below wr (.cells abcV 5 (12, 13))
      have c2 := cell_below hbb c1
      obtain ⟨z, hz⟩ : ∃ z : Int, (y.toNat : Int) = z := ⟨_, rfl⟩
      obtain ⟨q, hq⟩ : ∃ q : Int, (f.toNat : Int) = q := ⟨_, rfl⟩
      have kc : ∀ n c, (convert 39 39 (.slice (some ⟨wr.heap.size, 0, none⟩) n c)).run Try.prog (wr.alloc (.cells abcV 5)) = .ok (.slice (some ⟨wr.heap.size, 0, none⟩) n c) (wr.alloc (.cells abcV 5 (12, 13))) := fun n c => Lib.run_convert_bytes_const wr 39 5 abcV n c Try.underlying39 Try.underlying5
      have kb := byte_conv (wr.alloc (.cells abcV 5 (12, 13))) y z hz 1 (wr.heap.size + 1) (by simp)
      have HB2 := Lib.hid (bch hb (two_below wr (.cells abcV 5 (12, 13)) (.cells #[.int .u8 z] 5)))
      obtain ⟨u2, hu2⟩ : ∃ u2, u ++ [y] = u2 := ⟨_, rfl⟩
      have HU2 := Lib.hid (show u2.all ltr = true by rw [← hu2, List.all_append, HU.out]; simp [hyl])
      have hul2 : u2.length ≤ k + 1 := by rw [← hu2]; simp; omega
      have HS := Lib.hid (str_app hu2)
      have i1 : (k : Int) < (xs.length : Int) := by omega
      have i2 : (k : Int) < 30 := by omega
      have i3 : (j : Int) < 12 := by omega
      rw [hz] at d1
      rw [hq] at c2 c1 hm f0
      unfold abcV at kc d1 c2 kb HB2
      have q0 : 0 ≤ q := by omega
      have qw : IntKind.i64.wrap q = q := IntWalk.i64_in _ (by omega)
      have jw : IntKind.i64.wrap (j : Int) = (j : Int) := IntWalk.i64_in _ (by omega)
      clear hcell hf hy hyl hbb hj hu2 HU hb hz hq c1
      go_wp2
      go_roundw
      case rel => exact ⟨k + 1, u2, by omega, by omega, by go_num, HS.out, hul2, HU2, HB2.out⟩
      case measure => simp [intOf]; omega
    · have hin2 : ¬ (k : Int) < (xs.length : Int) ∨ ((k : Int) < (xs.length : Int) ∧ ¬ (k : Int) < 30) := by omega
      have HB := Lib.hid hb
      clear hin hr hb
      by_cases hu : u = []
      · subst hu
        have L0 := Lib.hid (fun w => lex_lit [] [] w (by simp) rfl)
        rcases hin2 with j1 | ⟨j1, j2⟩
        all_goals
          go_wp2_with fail
          refine (L0.out _).mono ?_
          rintro e w1 ⟨A1, c1, rfl, ho1, hb1⟩
          replace HB := Lib.hid (bch HB.out hb1)
          clear hb1 ho1
          go_wp2_with fail
          refine (fixed_any w1).mono ?_
          rintro e w2 ⟨rfl, hb2⟩
          replace HB := Lib.hid (bch HB.out hb2)
          clear hb2
          go_wp2
          go_ret
          exact ⟨rfl, HB.out⟩
      · have hem : u.isEmpty = false := by cases u <;> simp_all
        obtain ⟨ta, hta⟩ : ∃ ta : List Tok, [(1, u)] = ta := ⟨_, rfl⟩
        obtain ⟨tb, htb⟩ : ∃ tb : List Tok, [(4, u)] = tb := ⟨_, rfl⟩
        obtain ⟨tc, htc⟩ : ∃ tc : List Tok, [(5, ([] : By)), (1, u), (2, []), (6, [])] = tc := ⟨_, rfl⟩
        have LA := Lib.hid (fun w => lex_lit u ta w (by omega) ((plain_word HU.out hu).trans hta))
        have LB := Lib.hid (fun w => lex_lit (92 :: u) tb w (by simp; omega) ((plain_command HU.out hu).trans htb))
        have LC := Lib.hid (fun w => lex_lit (123 :: (u ++ [32, 125])) tc w (by simp; omega) ((plain_braces HU.out hu).trans htc))
        have HSB := Lib.hid (str_app (a := [92]) (b := u) rfl)
        have HSC := Lib.hid (show Value.string ((({ data := ([123] : By).toArray } : ByteArray) ++ { data := u.toArray }) ++ { data := ([32, 125] : By).toArray }) = Value.string { data := (123 :: (u ++ [32, 125])).toArray } from str_app (a := 123 :: u) (b := [32, 125]) rfl)
        have EA := Lib.hid (show #[Value.int .i64 1, .string ⟨u.toArray⟩] = (fcells ta).toArray ∧ 1 = ta.length by subst hta; exact ⟨rfl, rfl⟩)
        have EB := Lib.hid (show #[Value.int .i64 4, .string ⟨u.toArray⟩] = (fcells tb).toArray ∧ 1 = tb.length by subst htb; exact ⟨rfl, rfl⟩)
        have EC := Lib.hid (show #[Value.int .i64 5, .string ⟨#[]⟩, .int .i64 1, .string ⟨u.toArray⟩, .int .i64 2, .string ⟨#[]⟩, .int .i64 6, .string ⟨#[]⟩] = (fcells tc).toArray ∧ 4 = tc.length by subst htc; exact ⟨rfl, rfl⟩)
        have hla : ta.length ≤ 10 := by rw [← hta]; simp
        have hlb : tb.length ≤ 10 := by rw [← htb]; simp
        have hlc : tc.length ≤ 10 := by rw [← htc]; simp
        clear hta htb htc hu HU
        rcases hin2 with j1 | ⟨j1, j2⟩
        all_goals
          go_wp2_with fail
          refine (LA.out _).mono ?_
          rintro e w1 ⟨Aa, ca, rfl, hoa, hb⟩
          replace hoa := hoa.rd
          replace HB := Lib.hid (bch HB.out hb)
          clear hb LA
          go_wp2_with fail
          rw [HSB.out]
          refine (LB.out _).mono ?_
          rintro e w2 ⟨Ab, cb, rfl, hob, hb2⟩
          replace hoa := hoa.below hb2
          replace hob := hob.rd
          replace HB := Lib.hid (bch HB.out hb2)
          clear hb2 LB HSB
          go_wp2_with fail
          rw [HSC.out]
          refine (LC.out _).mono ?_
          rintro e w3 ⟨Ac, cc, rfl, hoc, hb3⟩
          replace hoa := hoa.below hb3
          replace hob := hob.below hb3
          replace hoc := hoc.rd
          replace HB := Lib.hid (bch HB.out hb3)
          clear hb3 LC HSC
          go_wp2_with fail
          refine (refs_any Aa ca ta w3 hoa (by omega)).mono ?_
          rintro e w4 ⟨Ra, ra, rfl, hra, hb4⟩
          replace hob := hob.below hb4
          replace hoc := hoc.below hb4
          replace HB := Lib.hid (bch HB.out hb4)
          have S1 := Lib.hid (same_lit Ra ra 1 1 ta w4 _ EA.out.1 EA.out.2 hra.rd (by omega))
          clear hb4 hra hoa
          go_wp2_with fail
          refine S1.out.mono ?_
          rintro e w5 ⟨rfl, hb5⟩
          replace hob := hob.below hb5
          replace hoc := hoc.below hb5
          replace HB := Lib.hid (bch HB.out hb5)
          clear hb5 S1 EA
          go_wp2_with fail
          refine (refs_any Ab cb tb w5 hob (by omega)).mono ?_
          rintro e w6 ⟨Rb, rb, rfl, hrb, hb6⟩
          replace hoc := hoc.below hb6
          replace HB := Lib.hid (bch HB.out hb6)
          have S2 := Lib.hid (same_lit Rb rb 1 1 tb w6 _ EB.out.1 EB.out.2 hrb.rd (by omega))
          clear hb6 hrb hob
          go_wp2_with fail
          refine S2.out.mono ?_
          rintro e w7 ⟨rfl, hb7⟩
          replace hoc := hoc.below hb7
          replace HB := Lib.hid (bch HB.out hb7)
          clear hb7 S2 EB
          go_wp2_with fail
          refine (refs_any Ac cc tc w7 hoc (by omega)).mono ?_
          rintro e w8 ⟨Rc, rc, rfl, hrc, hb8⟩
          replace HB := Lib.hid (bch HB.out hb8)
          have S3 := Lib.hid (same_lit Rc rc 4 4 tc w8 _ EC.out.1 EC.out.2 hrc.rd (by omega))
          clear hb8 hrc hoc
          go_wp2_with fail
          refine S3.out.mono ?_
          rintro e w9 ⟨rfl, hb9⟩
          replace HB := Lib.hid (bch HB.out hb9)
          clear hb9 S3 EC
          go_wp2_with fail
          refine (fixed_any w9).mono ?_
          rintro e w10 ⟨rfl, hb10⟩
          replace HB := Lib.hid (bch HB.out hb10)
          clear hb10
          go_wp2
          go_ret
          exact ⟨rfl, HB.out⟩
end Go.Proofs.Ytcfhjnidcmenkaa

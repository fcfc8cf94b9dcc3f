/-
  The walk of LexTells: for every input it returns true; old memory stays.
-/
import Derived.Test.YtcfhjnidcmenkaaW
import Derived.Test.YtcfhjnidcmenkaaY
namespace Go.Proofs.Ytcfhjnidcmenkaa
open Go.RowKit

theorem rlex_list (s : By) (w : World) (hs : s.length ≤ 190000) : Calls Try.prog 13 #[.string ⟨s.toArray⟩] w (Res 40 w (toks s)) := rlex_any ⟨s.toArray⟩ w hs
set_option maxRecDepth 100000 in
set_option maxHeartbeats 4000000 in
theorem lexTells_walk (s : By) (A : Option Addr) (c : Nat) (xs : List Tok) (w : World) (hs : s.length ≤ 9223372036854775807) (hr : Rd w A xs) (hl : xs.length ≤ 9223372036854775807) (hfit : Hid (∀ t ∈ xs, t.2.length ≤ 9223372036854775807)) :
    Calls Try.prog 3 #[.string ⟨s.toArray⟩, .slice A xs.length c] w fun e w' => e = .returned (.bool true) ∧ Below w.heap.size w w' := by
  obtain ⟨cz, r, HCY, hrl, hmin, hcut⟩ := cut_facts s 300 300 rfl
  have CT := Lib.hid (lcut_any A c 60 xs w hr hl hfit (by omega))
  have h40 := cut_mild 60 xs
  have h60 := cut_len 60 xs
  generalize cutL 60 xs = cs at *
  have M1 : Hid (Mild cs) := Lib.hid fun t ht => by have := h40 t ht; omega
  have T1 := Lib.hid (fun A c w (hr : Rd w A cs) => text_any A c cs w hr M1 (by omega))
  have RR := Lib.hid (fun A c w (hr : Rd w A cs) => right_any A c cs w hr M1 (by omega))
  have T2 := Lib.hid (fun A c w (hr : Rd w A cs) => rtext_any A c cs w hr M1 (by omega))
  have R2 := Lib.hid (fun A c w (hr : Rd w A cs) => rright_any A c cs w hr M1 (by omega))
  have hlen := toks_len r
  have L1 := Lib.hid (fun w => lex_list r w (by omega))
  have L2 := Lib.hid (fun w => rlex_list r w (by omega))
  generalize toks r = ts at *
  generalize textL cs = tx at *
  generalize rightL cs = v at *
  clear h40 M1 HCY hr hfit
  go_enter Try.func3, Try.ntmps3
  go_wp2_with fail
  refine CT.out.mono ?_
  rintro e w1 ⟨A1, c1, rfl, ho1, hb⟩
  replace ho1 := ho1.rd
  have HB := Lib.hid hb
  clear hb CT
  go_wp2_with fail
  refine (L1.out w1).mono ?_
  rintro e w2 ⟨A2, c2, rfl, ho2, hb2⟩
  replace ho1 := ho1.below hb2
  replace ho2 := ho2.rd
  replace HB := Lib.hid (bch HB.out hb2)
  clear hb2 L1
  go_wp2_with fail
  refine (refs_any A2 c2 ts w2 ho2 (by omega)).mono ?_
  rintro e w3 ⟨A3, c3, rfl, ho3, hb3⟩
  replace ho1 := ho1.below hb3
  replace ho3 := ho3.rd
  replace HB := Lib.hid (bch HB.out hb3)
  clear hb3 ho2
  go_wp2_with fail
  refine (L2.out w3).mono ?_
  rintro e w4 ⟨A4, c4, rfl, ho4, hb4⟩
  replace ho1 := ho1.below hb4
  replace ho3 := ho3.below hb4
  replace ho4 := ho4.rd
  replace HB := Lib.hid (bch HB.out hb4)
  clear hb4 L2
  go_wp2_with fail
  refine (same_eq A3 A4 c3 c4 ts w4 ho3 ho4 (by omega)).mono ?_
  rintro e w5 ⟨rfl, hb5⟩
  replace ho1 := ho1.below hb5
  replace HB := Lib.hid (bch HB.out hb5)
  clear hb5 ho3 ho4
  go_wp2_with fail
  refine (T1.out A1 c1 w5 ho1).mono ?_
  rintro e w6 ⟨rfl, hb6⟩
  replace ho1 := ho1.below hb6
  replace HB := Lib.hid (bch HB.out hb6)
  clear hb6 T1
  go_wp2_with fail
  refine (refs_any A1 c1 cs w6 ho1 (by omega)).mono ?_
  rintro e w7 ⟨A7, c7, rfl, ho7, hb7⟩
  replace ho1 := ho1.below hb7
  replace ho7 := ho7.rd
  replace HB := Lib.hid (bch HB.out hb7)
  clear hb7
  go_wp2_with fail
  refine (T2.out A7 c7 w7 ho7).mono ?_
  rintro e w7' ⟨rfl, rfl⟩
  clear T2 ho7
  go_wp2_with fail
  refine (RR.out A1 c1 w7 ho1).mono ?_
  rintro e w8 ⟨rfl, hb8⟩
  replace ho1 := ho1.below hb8
  replace HB := Lib.hid (bch HB.out hb8)
  clear hb8 RR
  go_wp2_with fail
  refine (refs_any A1 c1 cs w8 ho1 (by omega)).mono ?_
  rintro e w9 ⟨A9, c9, rfl, ho9, hb9⟩
  replace ho9 := ho9.rd
  replace HB := Lib.hid (bch HB.out hb9)
  clear hb9 ho1
  go_wp2_with fail
  refine (R2.out A9 c9 w9 ho9).mono ?_
  rintro e w10 ⟨rfl, hb10⟩
  replace HB := Lib.hid (bch HB.out hb10)
  clear hb10 R2 ho9
  have q : (v == v) = true := by simp
  go_wp2_with fail
  refine (fixed_any w10).mono ?_
  rintro e w11 ⟨rfl, hb11⟩
  replace HB := Lib.hid (bch HB.out hb11)
  clear hb11
  go_wp2
  go_ret
  exact ⟨rfl, HB.out⟩
end Go.Proofs.Ytcfhjnidcmenkaa

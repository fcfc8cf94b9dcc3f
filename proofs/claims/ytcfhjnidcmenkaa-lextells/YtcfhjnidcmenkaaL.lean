/-
  The contract of lex.Right: whether a text could have these tokens.
-/
import Derived.Test.YtcfhjnidcmenkaaK
namespace Go.Proofs.Ytcfhjnidcmenkaa
open Go.RowKit

theorem right_all : ∀ (l : List Tok), rightL l = true ↔ (∀ t ∈ l, mayB t = true) ∧ ∀ i a b, l[i]? = some a → l[i + 1]? = some b → nextB a b = true
  | [] => by simp [rightL]
  | [a] => by
    simp only [rightL, List.mem_singleton, forall_eq]
    constructor
    · intro h
      exact ⟨h, fun i a b h1 h2 => by simp at h2⟩
    · exact fun h => h.1
  | a :: b :: r => by
    have ih := right_all (b :: r)
    unfold rightL
    rw [Bool.and_eq_true, Bool.and_eq_true, ih]
    constructor
    · rintro ⟨⟨h1, h2⟩, h3, h4⟩
      refine ⟨fun t ht => ?_, fun i x y hx hy => ?_⟩
      · rcases List.mem_cons.1 ht with rfl | ht
        · exact h1
        · exact h3 t ht
      · cases i with
        | zero =>
          simp at hx hy
          subst hx; subst hy; exact h2
        | succ i => exact h4 i x y (by simpa using hx) (by simpa using hy)
    · rintro ⟨h1, h2⟩
      exact ⟨⟨h1 a (by simp), h2 0 a b rfl rfl⟩, fun t ht => h1 t (List.mem_cons_of_mem _ ht), fun i x y hx hy => h2 (i + 1) x y (by simpa using hx) (by simpa using hy)⟩
theorem right_may {l : List Tok} {k : Nat} {f : Tok} (h : l[k]? = some f) (hm : mayB f = false) : rightL l = false := by
  cases hr : rightL l with
  | false => rfl
  | true => have := ((right_all l).1 hr).1 f (List.mem_of_getElem? h); rw [hm] at this; cases this
theorem right_next {l : List Tok} {k : Nat} {f g : Tok} (h : l[k]? = some f) (h2 : l[k + 1]? = some g) (hm : nextB f g = false) : rightL l = false := by
  cases hr : rightL l with
  | false => rfl
  | true => have := ((right_all l).1 hr).2 k f g h h2; rw [hm] at this; cases this
theorem right_first {l : List Tok} {f : Tok} (h : l[0]? = some f) (hm : mayB f = true) : rightL (l.take (0 + 1)) = true := by
  rw [at_take h]; simpa [rightL] using hm
theorem right_step {l : List Tok} {k : Nat} {f g : Tok} (hp : rightL (l.take (k + 1)) = true) (h : l[k]? = some f) (h2 : l[k + 1]? = some g) (hm : mayB g = true) (hn : nextB f g = true) : rightL (l.take (k + 1 + 1)) = true := by
  obtain ⟨p1, p2⟩ := (right_all _).1 hp
  refine (right_all _).2 ⟨fun t ht => ?_, fun i a b ha hb => ?_⟩
  · rw [at_take h2] at ht
    rcases List.mem_append.1 ht with q | q
    · exact p1 t q
    · simp at q; subst q; exact hm
  · rw [List.getElem?_take] at ha hb
    by_cases hi : i + 1 < k + 1
    · refine p2 i a b ?_ ?_
      · rw [List.getElem?_take, if_pos (by omega)]; rw [if_pos (by omega)] at ha; exact ha
      · rw [List.getElem?_take, if_pos (by omega)]; rw [if_pos (by omega)] at hb; exact hb
    · by_cases he : i = k
      · subst he
        rw [if_pos (by omega)] at ha hb
        rw [h] at ha; rw [h2] at hb
        cases ha; cases hb; exact hn
      · rw [if_neg (by omega)] at hb; cases hb
set_option maxRecDepth 100000 in
set_option maxHeartbeats 2000000 in
theorem right_any (A : Option Addr) (c : Nat) (ts : List Tok) (w : World) (hr : Rd w A ts) (hm : Hid (Mild ts)) (hl : ts.length ≤ 200000) :
    Calls Try.prog 16 #[.slice A ts.length c] w fun e w' => e = .returned (.bool (rightL ts)) ∧ Below w.heap.size w w' := by
  obtain ⟨V, hV⟩ : ∃ V, rightL ts = V := ⟨_, rfl⟩
  rw [hV]
  have HV := Lib.hid hV
  clear hV
  go_enter Try.func16, Try.ntmps16
  go_wp2_with fail
  go_loopw [7] (fun i wr => ∃ (k : Nat), k ≤ ts.length ∧ i = .int .i64 k ∧ Hid (rightL (ts.take k) = true) ∧ Below w.heap.size w wr) (fun i _ => ts.length - (intOf i).toNat)
  case atStart => exact ⟨0, Nat.zero_le _, rfl, Lib.hid rfl, Below.refl _ _⟩
  case round =>
    obtain ⟨k, hk, rfl, HR, hb⟩ := hrel
    by_cases hlt : k < ts.length
    · obtain ⟨b, o, rfl, hcell⟩ := (hr.below hb) (by omega)
      obtain ⟨f, hf⟩ : ∃ f, ts[k]? = some f := ⟨_, List.getElem?_eq_getElem hlt⟩
      obtain ⟨c1, c2⟩ := hcell k f hf
      have lz := hm.out f (List.mem_of_getElem? hf)
      obtain ⟨κ, z⟩ := f
      simp only at c1 c2 lz
      have hb1 := one_below wr (.cells #[.int .i64 κ, .string ⟨z.toArray⟩] 37)
      have hbk := heap_alloc_new wr (.cells #[.int .i64 κ, .string ⟨z.toArray⟩] 37)
      have C := Lib.hid (whole_any κ z (wr.alloc (.cells #[.int .i64 κ, .string ⟨z.toArray⟩] 37)) (by omega))
      have i1 : (k : Int) < (ts.length : Int) := by omega
      cases hv : mayB (κ, z)
      · rw [hv] at C
        have HE := Lib.hid ((right_may hf hv).symm.trans HV.out)
        have HB := Lib.hid (bch hb hb1)
        clear hf hcell hv HR hb1 hbk hb
        go_wp2_with fail
        refine C.out.mono ?_
        rintro e w1 ⟨rfl, hb2⟩
        go_wp2
        go_ret
        exact ⟨ret_bool HE.out, bch HB.out hb2⟩
      · rw [hv] at C
        by_cases hk0 : 0 < k
        · obtain ⟨j, hj⟩ : ∃ j, k = j + 1 := ⟨k - 1, by omega⟩
          obtain ⟨g, hg⟩ : ∃ g, ts[j]? = some g := ⟨_, List.getElem?_eq_getElem (by omega)⟩
          obtain ⟨g1, g2⟩ := hcell j g hg
          have lg := hm.out g (List.mem_of_getElem? hg)
          obtain ⟨μ, y⟩ := g
          simp only at g1 g2 lg
          have HB := Lib.hid (bch hb hb1)
          have HG := Lib.hid (And.intro hg hf)
          have HM := Lib.hid hv
          have HC := Lib.hid (And.intro g1 g2)
          have HBK := Lib.hid hbk
          have HB1 := Lib.hid hb1
          have i2 : (j : Int) < (ts.length : Int) := by omega
          have i3 : (0 : Int) < (k : Int) := by omega
          have f0 : IntKind.i64.wrap ((k : Int) - 1) = (j : Int) := by rw [IntWalk.i64_in _ (by omega)]; omega
          have f1 : (k : Int) - 1 = (j : Int) := by omega
          have f2 : IntKind.i64.wrap (j : Int) = (j : Int) := IntWalk.i64_in _ (by omega)
          have HJ := Lib.hid hj
          clear hf hcell hv hg g1 g2 hbk hb1 hj hb
          go_wp2_with fail
          refine C.out.mono ?_
          rintro e w2 ⟨rfl, hb2⟩
          have b12 := bch HB1.out hb2
          have e1 := cell_below b12 HC.out.1
          have e2 := cell_below b12 HC.out.2
          have hbk2 := blk_below hb2 HBK.out
          obtain ⟨d1, d2⟩ := cells_two hbk2
          have HB2 := Lib.hid (bch HB.out hb2)
          clear b12 hbk2 hb2 HC HBK HB1 HB C c1 c2
          go_wp2_with fail
          go_still_tail 9, (by kernel_rfl)
          change wpList _ _ _ _ _ w2.drew
          have HB3 := Lib.hid (HB2.out.trans ⟨rfl, rfl, rfl, Nat.le_refl _, fun _ _ => rfl⟩ : Below w.heap.size w w2.drew)
          have C2 := Lib.hid (apart_any μ κ y z w2.drew (by omega) (by omega) HM.out)
          generalize w2.drew = w3 at *
          clear HB2 e1 e2 d1 d2 f0 f1 f2
          cases hn : nextB (μ, y) (κ, z)
          · rw [hn] at C2
            have HE := Lib.hid ((right_next HG.out.1 (by rw [← HJ.out]; exact HG.out.2) hn).symm.trans HV.out)
            clear hn
            go_wp2_with fail
            refine C2.out.mono ?_
            rintro e w4 ⟨rfl, hb4⟩
            go_wp2
            go_ret
            exact ⟨ret_bool HE.out, bch HB3.out hb4⟩
          · rw [hn] at C2
            have HN := Lib.hid (show rightL (ts.take (k + 1)) = true by
              have h1 := HR.out
              have h2 := HG.out
              rw [HJ.out] at h1 h2 ⊢
              exact right_step h1 h2.1 h2.2 HM.out hn)
            clear hn
            go_wp2_with fail
            refine C2.out.mono ?_
            rintro e w4 ⟨rfl, hb4⟩
            have HB4 := Lib.hid (bch HB3.out hb4)
            clear hb4 HB3
            go_wp2
            go_roundw
            case rel => exact ⟨k + 1, by omega, by go_num, HN, HB4.out⟩
            case measure => simp [intOf]; omega
        · have i3 : ¬ (0 : Int) < (k : Int) := by omega
          have HN := Lib.hid (show rightL (ts.take (k + 1)) = true by
            obtain rfl : k = 0 := by omega
            exact right_first hf hv)
          have HB := Lib.hid (bch hb hb1)
          clear hf hcell hv HR hb1 hbk hb
          go_wp2_with fail
          refine C.out.mono ?_
          rintro e w1 ⟨rfl, hb2⟩
          have HB2 := Lib.hid (bch HB.out hb2)
          clear hb2 HB C c1 c2
          go_wp2_with fail
          go_quiet (fail)
          go_wp2
          go_roundw
          case rel => exact ⟨k + 1, by omega, by go_num, HN, HB2.out.trans ⟨rfl, rfl, rfl, Nat.le_refl _, fun _ _ => rfl⟩⟩
          case measure => simp [intOf]; omega
    · have HE := Lib.hid (show true = V by have := HR.out; rw [List.take_of_length_le (by omega)] at this; exact this.symm.trans HV.out)
      clear HR
      go_wp2
      go_ret
      exact ⟨ret_bool HE.out, hb⟩
end Go.Proofs.Ytcfhjnidcmenkaa

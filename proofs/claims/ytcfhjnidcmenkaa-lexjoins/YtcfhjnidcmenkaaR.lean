/-
  The walk of LexJoins: for every input it returns true; old memory stays.
-/
import Derived.Test.YtcfhjnidcmenkaaQ
namespace Go.Proofs.Ytcfhjnidcmenkaa
open Go.RowKit

theorem z_yes {n : Nat} (h : n = 0) : ((n : Int) == 0) = true := by rw [h]; rfl
theorem z_no {n : Nat} (h : ¬ n = 0) : ((n : Int) == 0) = false := by rw [beq_eq_false_iff_ne]; omega
theorem last_ex {α : Type} {l : List α} (h : l ≠ []) : ∃ n x, l.length = n + 1 ∧ l[n]? = some x ∧ l.getLast? = some x := by
  have hp : 0 < l.length := List.length_pos_iff.2 h
  refine ⟨l.length - 1, l[l.length - 1], by omega, List.getElem?_eq_getElem (by omega), ?_⟩
  rw [List.getLast?_eq_getElem?]
  exact List.getElem?_eq_getElem (by omega)
theorem ne_of_len {α : Type} {l : List α} (h : ¬ l.length = 0) : l ≠ [] := fun e => h (by rw [e]; rfl)
/-- The tokens of two texts with an empty line between them. -/
theorem joined {s t : By} {x : UInt8} {p q : Tok} (hs : s.getLast? = some x) (hx : x ≠ 92) (ha : (toks s).getLast? = some p) (hp : p.1 ≠ 2 ∧ p.1 ≠ 3) (hb : (toks t)[0]? = some q) (hq : q.1 ≠ 2 ∧ q.1 ≠ 3) :
    toks (s ++ 10 :: 10 :: t) = toks s ++ (3, []) :: toks t := by
  refine toks_join ?_ ?_ ?_
  · unfold endB; rw [hs]; intro e; exact hx (Option.some.inj e)
  · unfold lastGap; rw [ha]; unfold gapB; simp [hp.1, hp.2]
  · cases t with
    | nil => simp [toks_nil] at hb
    | cons c r =>
      rw [toks_cons] at hb
      simp at hb
      exact first_gap (by rw [hb]; unfold gapB; simp [hq.1, hq.2])
set_option maxRecDepth 100000 in
set_option maxHeartbeats 4000000 in
theorem lexJoins_walk (s t : By) (w : World) (hs : s.length ≤ 9223372036854775807) (ht : t.length ≤ 9223372036854775807) :
    Calls Try.prog 6 #[.string ⟨s.toArray⟩, .string ⟨t.toArray⟩] w fun e w' => e = .returned (.bool true) ∧ Below w.heap.size w w' := by
  obtain ⟨cz, r, HCY, hrl, hmin, hcut⟩ := cut_facts s 100 100 rfl
  obtain ⟨cy, v, HCV, hvl, hmin2, hcut2⟩ := cut_facts t 100 100 rfl
  have L1 := Lib.hid (fun w => lex_list r w (by omega))
  have L2 := Lib.hid (fun w => lex_list v w (by omega))
  have hl1 := toks_len r
  have hl2 := toks_len v
  have hel : ∀ n, (toks r).length = n + 1 → r ≠ [] := fun n h e => by rw [e, toks_nil] at h; simp at h
  have hj := fun x p q => @joined r v x p q
  obtain ⟨ta, hta⟩ : ∃ ta, toks r = ta := ⟨_, rfl⟩
  obtain ⟨tb, htb⟩ : ∃ tb, toks v = tb := ⟨_, rfl⟩
  rw [hta] at L1 hl1 hel hj
  rw [htb] at L2 hl2 hj
  have HJ := Lib.hid hj
  have HE := Lib.hid hel
  clear hta htb HCY HCV hj hel
  go_enter Try.func6, Try.ntmps6
  go_wp2_with fail
  refine (L1.out _).mono ?_
  rintro e w1 ⟨A1, c1, rfl, ho1, hb⟩
  replace ho1 := ho1.rd
  have HB := Lib.hid hb
  clear hb L1
  go_wp2_with fail
  refine (L2.out _).mono ?_
  rintro e w2 ⟨A2, c2, rfl, ho2, hb2⟩
  replace ho1 := ho1.below hb2
  replace ho2 := ho2.rd
  replace HB := Lib.hid (bch HB.out hb2)
  clear hb2 L2
  by_cases hn1 : ta.length = 0
  · have q1 : ((ta.length : Int) == 0) = true := z_yes hn1
    clear hn1 HJ HE
    go_wp2_with fail
    refine (fixed_any w2).mono ?_
    rintro e w3 ⟨rfl, hb3⟩
    go_wp2
    go_ret
    exact ⟨rfl, bch HB.out hb3⟩
  · have q1 : ((ta.length : Int) == 0) = false := z_no hn1
    by_cases hn2 : tb.length = 0
    · have q2 : ((tb.length : Int) == 0) = true := z_yes hn2
      clear hn1 hn2 HJ HE
      go_wp2_with fail
      refine (fixed_any w2).mono ?_
      rintro e w3 ⟨rfl, hb3⟩
      go_wp2
      go_ret
      exact ⟨rfl, bch HB.out hb3⟩
    · have q2 : ((tb.length : Int) == 0) = false := z_no hn2
      obtain ⟨n, p, hn, hp, hpl⟩ := last_ex (ne_of_len hn1)
      obtain ⟨q, hq⟩ : ∃ q, tb[0]? = some q := ⟨_, List.getElem?_eq_getElem (by omega)⟩
      obtain ⟨m, x, hm, hx, hxl⟩ := last_ex (HE.out n hn)
      have q3 : ((r.length : Int) == 0) = false := z_no (by omega)
      have f0 : IntKind.i64.wrap ((r.length : Int) - 1) = (m : Int) := by rw [IntWalk.i64_in _ (by omega)]; omega
      have f1 : (r.length : Int) - 1 = (m : Int) := by omega
      have f2 : IntKind.i64.wrap (m : Int) = (m : Int) := IntWalk.i64_in _ (by omega)
      have i1 : (m : Int) < (r.length : Int) := by omega
      have hmr : m < (ByteArray.mk r.toArray).size := by show m < r.length; omega
      obtain ⟨κ, hκ⟩ : ∃ κ : Int, ((ByteArray.mk r.toArray)[m].toNat : Int) = κ := ⟨_, rfl⟩
      have hκx : (x.toNat : Int) = κ := by
        rw [← hκ]
        have : (ByteArray.mk r.toArray)[m] = x := by
          have := List.getElem_eq_iff (h := by omega) |>.2 hx
          exact this
        rw [this]
      clear HE hx
      by_cases h92 : κ = 92
      · subst h92
        clear hn1 hn2 HJ hpl hxl hp hq hκx
        have HM := Lib.hid hm
        clear hm
        go_wp2_with fail
        refine (fixed_any w2).mono ?_
        rintro e w3 ⟨rfl, hb3⟩
        go_wp2
        go_ret
        exact ⟨rfl, bch HB.out hb3⟩
      · have q4 : (κ == 92) = false := by simpa using h92
        have n92 : x ≠ 92 := fun e => h92 (by rw [← hκx, e]; rfl)
        have g0 : IntKind.i64.wrap ((ta.length : Int) - 1) = (n : Int) := by rw [IntWalk.i64_in _ (by omega)]; omega
        have g1 : (ta.length : Int) - 1 = (n : Int) := by omega
        have g2 : IntKind.i64.wrap (n : Int) = (n : Int) := IntWalk.i64_in _ (by omega)
        have i2 : (n : Int) < (ta.length : Int) := by omega
        have i3 : (0 : Int) < (tb.length : Int) := by omega
        obtain ⟨b1, o1, rfl, hc1⟩ := ho1 (by omega)
        obtain ⟨b2, o2, rfl, hc2⟩ := ho2 (by omega)
        obtain ⟨d1, _⟩ := hc1 n p hp
        obtain ⟨d2, _⟩ := hc2 0 q hq
        have d3 : w2.cell? ⟨b2, o2, none⟩ = some (.int .i64 q.1) := by simpa using d2
        have HO1 := Lib.hid (show Rd w2 (some ⟨b1, o1, none⟩) ta from ho1)
        have HO2 := Lib.hid (show Rd w2 (some ⟨b2, o2, none⟩) tb from ho2)
        have HJ2 := Lib.hid (fun h1 h2 => HJ.out x p q hxl n92 hpl h1 hq h2)
        have HM := Lib.hid (And.intro hm hn)
        obtain ⟨κp, zp⟩ := p
        obtain ⟨κq, zq⟩ := q
        simp only at d1 d2 d3 HJ2
        clear hm hn hn1 hn2 HJ hxl hpl hp hq hc1 hc2 h92 hκx ho1 ho2
        go_wp2_with fail
        go_quiet (fail)
        have HB3 := Lib.hid (HB.out.trans ⟨rfl, rfl, rfl, Nat.le_refl _, fun _ _ => rfl⟩ : Below w.heap.size w (w2.drewN nq))
        have HP1 : Hid (Rd (w2.drewN nq) (some ⟨b1, o1, none⟩) ta) := HO1
        have HP2 : Hid (Rd (w2.drewN nq) (some ⟨b2, o2, none⟩) tb) := HO2
        clear HB HO1 HO2 d1 d2 d3 hκ
        generalize w2.drewN nq = w3 at *
        rcases (show κp = 2 ∨ κp = 3 ∨ (κp ≠ 2 ∧ κp ≠ 3 ∧ (κq = 2 ∨ κq = 3 ∨ (κq ≠ 2 ∧ κq ≠ 3))) by omega) with rfl | rfl | ⟨p2, p3, rfl | rfl | ⟨p4, p5⟩⟩
        case inr.inr.inr.inr =>
          have J := HJ2.out ⟨p2, p3⟩ ⟨p4, p5⟩
          have e2 : (κp == 2) = false := by simpa using p2
          have e3 : (κp == 3) = false := by simpa using p3
          have e4 : (κq == 2) = false := by simpa using p4
          have e5 : (κq == 3) = false := by simpa using p5
          obtain ⟨t2, ht2⟩ : ∃ t2 : List Tok, ta ++ [(3, [])] = t2 := ⟨_, rfl⟩
          obtain ⟨t3, ht3⟩ : ∃ t3 : List Tok, t2 ++ tb = t3 := ⟨_, rfl⟩
          have hl3 : t2.length = ta.length + 1 := by rw [← ht2]; simp
          have hl4 : t3.length = t2.length + tb.length := by rw [← ht3]; simp
          have L3 := Lib.hid (fun w => lex_list (r ++ 10 :: 10 :: v) w (by simp; omega))
          rw [J, show ta ++ (3, []) :: tb = t3 by rw [← ht3, ← ht2]; simp] at L3
          have HSC := Lib.hid (show Value.string ((({ data := r.toArray } : ByteArray) ++ { data := ([10, 10] : By).toArray }) ++ { data := v.toArray }) = Value.string { data := (r ++ 10 :: 10 :: v).toArray } from str_app (a := r ++ [10, 10]) (b := v) (by simp))
          have HT2 := Lib.hid ht2
          have HT3 := Lib.hid ht3
          have HL := Lib.hid (show t3.length ≤ 300 ∧ t2.length ≤ 150 by omega)
          clear HJ2 J ht2 ht3 p2 p3 p4 p5 f0 f1 f2 g0 g1 g2 hl3 hl4
          go_wp2_with (at_builtin; first
            | (refine wpList_append_rdn37 _ rfl _ _ rfl w3.heap.size _ [] rfl (own_empty 37 w3) (some ⟨b1, o1, none⟩) ta.length c1 ta rfl rfl (HP1.out.alloc _) (by show 0 + ta.length ≤ _; omega) (one_below w3 _).size ta rfl ?_
               intro N1 nc1 w4 hown4 hb4
               have B4 := (one_below w3 (.cells #[] 37)).trans hb4
               have HO4 := Lib.hid (hown4.below (one_below w4 (.cells #[.int .i64 3, .string ⟨#[]⟩] 37)))
               have B4' := Lib.hid (B4.trans ((one_below w4 (.cells #[.int .i64 3, .string ⟨#[]⟩] 37)).mono B4.size))
               clear hown4 hb4 B4 HP1)
            | (refine wpList_append_rdn37 _ rfl _ _ rfl w3.heap.size _ ta rfl HO4.out (some ⟨w4.heap.size, 0, none⟩) 1 1 [(3, [])] rfl rfl (one_read (new_fst _ _ _ _) (new_snd _ _ _ _)) (by show ta.length + 1 ≤ _; omega) B4'.out.size t2 HT2.out ?_
               intro N2 nc2 w5 hown5 hb5
               have B5 := Lib.hid (B4'.out.trans hb5)
               have HP5 := Lib.hid (HP2.out.below B5.out)
               have HO5 := Lib.hid hown5
               clear hown5 hb5 HO4 B4' HP2)
            | (refine wpList_append_rdn37 _ rfl _ _ rfl w3.heap.size _ t2 rfl HO5.out (some ⟨b2, o2, none⟩) tb.length c2 tb rfl rfl HP5.out (by have := HL.out; omega) B5.out.size t3 HT3.out ?_
               intro N3 nc3 w6 hown6 hb6
               have B6 := Lib.hid (B5.out.trans hb6)
               have HO6 := Lib.hid hown6
               clear hown6 hb6 B5 HP5 HO5))
          replace HB3 := Lib.hid (HB3.out.trans (B6.out.mono HB3.out.size))
          have ho6 := HO6.out.rd
          clear B6 HO6
          have hl5 := HL.out
          rw [HSC.out]
          refine (L3.out _).mono ?_
          rintro e w7 ⟨A7, c7, rfl, ho7, hb7⟩
          replace ho6 := ho6.below hb7
          replace ho7 := ho7.rd
          replace HB3 := Lib.hid (bch HB3.out hb7)
          clear hb7 L3 HSC
          go_wp2_with fail
          refine (refs_any A7 c7 t3 w7 ho7 (by omega)).mono ?_
          rintro e w8 ⟨A8, c8, rfl, ho8, hb8⟩
          replace ho6 := ho6.below hb8
          replace ho8 := ho8.rd
          replace HB3 := Lib.hid (bch HB3.out hb8)
          clear hb8 ho7
          go_wp2_with fail
          refine (refs_any N3 nc3 t3 w8 ho6 (by omega)).mono ?_
          rintro e w9 ⟨A9, c9, rfl, ho9, hb9⟩
          replace ho8 := ho8.below hb9
          replace ho9 := ho9.rd
          replace HB3 := Lib.hid (bch HB3.out hb9)
          clear hb9 ho6
          go_wp2_with fail
          refine (same_eq A8 A9 c8 c9 t3 w9 ho8 ho9 (by omega)).mono ?_
          rintro e w10 ⟨rfl, hb10⟩
          replace HB3 := Lib.hid (bch HB3.out hb10)
          clear hb10 ho8 ho9
          go_wp2_with fail
          refine (fixed_any w10).mono ?_
          rintro e w11 ⟨rfl, hb11⟩
          replace HB3 := Lib.hid (bch HB3.out hb11)
          clear hb11
          go_wp2
          go_ret
          exact ⟨rfl, HB3.out⟩
        all_goals
          try (have e2 : (κp == 2) = false := by simpa using p2)
          try (have e3 : (κp == 3) = false := by simpa using p3)
          clear HJ2 HP1 HP2 f0 f1 f2 g0 g1 g2
          go_wp2_with fail
          refine (fixed_any w3).mono ?_
          rintro e w4 ⟨rfl, hb4⟩
          go_wp2
          go_ret
          exact ⟨rfl, bch HB3.out hb4⟩
end Go.Proofs.Ytcfhjnidcmenkaa

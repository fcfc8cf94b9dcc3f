/-
  What ItemsTexts asks: its walk.
-/
import Derived.Test.YtckldeabbkdbjaaDoorK17
import Derived.Test.YtckldeabbkdbjaaDoorK23
namespace Go.Proofs.YtckldeabbkdbjaaDoor
open Go.RowKit

theorem word_size : ∀ (f : Nat) (s : By), s.length ≤ f → (wordG s).1.length ≤ s.length
  | _, [], _ => by simp [wordG]
  | _, [c], _ => by rw [wordG_one]; split <;> simp
  | 0, c :: x :: r, h => by simp at h
  | f + 1, c :: x :: r, h => by
    simp at h
    rw [wordG_two]
    split
    · split
      · have := word_size f r (by omega); simp; omega
      · have := word_size f (x :: r) (by simp; omega); simp at this ⊢; omega
    · simp
theorem one_size (c : UInt8) (r : By) : (one c r).1.2.length ≤ (c :: r).length := by
  unfold one
  split
  · exact word_size _ _ (Nat.le_refl _)
  · split
    · simp
    · split
      · have := lead_le r; simp; omega
      · split
        · simp; omega
        · simp
theorem toks_sizes : ∀ (f : Nat) (s : By), s.length ≤ f → (toks s).length ≤ s.length ∧ ∀ t ∈ toks s, t.2.length ≤ s.length
  | _, [], _ => by simp [toks_nil]
  | 0, c :: r, h => by simp at h
  | f + 1, c :: r, h => by
    have h1 := one_less c r
    have h2 := one_size c r
    simp only [List.length_cons] at h h2 ⊢
    obtain ⟨i1, i2⟩ := toks_sizes f (one c r).2 (by omega)
    rw [toks_cons]
    refine ⟨by simp only [List.length_cons]; omega, fun t ht => ?_⟩
    rcases List.mem_cons.1 ht with rfl | ht
    · exact h2
    · have := i2 t ht; omega
theorem toks_len (s : By) : (toks s).length ≤ s.length := (toks_sizes _ s (Nat.le_refl _)).1
theorem toks_each (s : By) : ∀ t ∈ toks s, t.2.length ≤ s.length := (toks_sizes _ s (Nat.le_refl _)).2
theorem lex_listI (s : By) (w : World) (hs : s.length ≤ 190000) : Calls Tryd.prog 22 #[.string ⟨s.toArray⟩] w (Res 48 w (toks s)) := lex_any ⟨s.toArray⟩ w hs
theorem rlex_listI (s : By) (w : World) (hs : s.length ≤ 190000) : Calls Tryd.prog 23 #[.string ⟨s.toArray⟩] w (Res 65 w (toks s)) := rlex_any ⟨s.toArray⟩ w hs
set_option maxRecDepth 100000 in
set_option maxHeartbeats 4000000 in
theorem itemsTexts_walk (L : Landed) (s : By) (w : World) (h0 : M0 w) (hs : s.length ≤ 9223372036854775807) :
    Calls Tryd.prog 4 #[.string ⟨s.toArray⟩] w fun e w' => e = .returned (.bool true) ∧ Below w.heap.size w w' := by
  obtain ⟨cz, r, HCY, hrl, hmin, hcut⟩ := cut_facts s 300 300 rfl
  have F := Lib.hid (fun w hm => fixed_any L w hm)
  have hx := toks_len r
  have fx := Lib.hid (toks_each r)
  have L1 := Lib.hid (fun w => lex_listI r w (by omega))
  have L2 := Lib.hid (fun w => rlex_listI r w (by omega))
  generalize toks r = x at *
  have fx4 : Hid (∀ t ∈ x, t.2.length ≤ 4000) := Lib.hid fun t ht => by have := fx.out t ht; omega
  have fx2 : Hid (∀ t ∈ x, t.2.length ≤ 400) := Lib.hid fun t ht => by have := fx.out t ht; omega
  obtain ⟨g1, g2, _⟩ := parse_size x [] [] 64 (by omega) (fun f hf => by cases hf)
  have PA := Lib.hid (fun S sc w h1 h2 h3 => L.parse S sc x w h1 (by omega) h2 h3 fx4)
  have PB := Lib.hid (fun S sc w h1 h2 h3 => rparse_it S sc x w h1 (by omega) h2 h3 fx2)
  obtain ⟨G, N, hG⟩ : ∃ G N, parseI x [] [] = (G, N) := ⟨_, _, rfl⟩
  rw [hG] at g1 g2 PA PB
  simp only [List.length_nil, Nat.zero_add] at g1 g2
  clear hG L fx fx4 fx2 HCY
  go_enter Tryd.func4, Tryd.ntmps4
  go_wp2_with fail
  refine (L1.out _).mono ?_
  rintro e w1 ⟨A1, c1, rfl, ho, hb1⟩
  have HB := Lib.hid hb1
  clear hb1
  obtain ⟨u1, u2, _⟩ := ho.cap
  replace ho := ho.rd
  clear L1
  go_wp2_with fail
  refine (PA.out A1 c1 w1 ho u1 u2).mono ?_
  rintro e w2 ⟨Ai, ci, Bi, di, rfl, hri, hni, _, _, hb2⟩
  replace HB := Lib.hid (bch HB.out hb2)
  clear hb2
  clear PA ho
  go_wp2_with fail
  refine (L2.out w2).mono ?_
  rintro e w3 ⟨A2, c2, rfl, ho2, hb3⟩
  replace hri := hri.below hb3
  replace hni := hni.below hb3
  replace HB := Lib.hid (bch HB.out hb3)
  clear hb3
  obtain ⟨s1, s2, _⟩ := ho2.cap
  replace ho2 := ho2.rd
  clear L2
  go_wp2_with fail
  refine (PB.out A2 c2 w3 ho2 s1 s2).mono ?_
  rintro e w4 ⟨Aj, cj, Bj, dj, rfl, hrj, hnj, _, _, hb4⟩
  replace hri := hri.below hb4
  replace hni := hni.below hb4
  replace HB := Lib.hid (bch HB.out hb4)
  clear hb4
  clear PB s1 s2 ho2
  go_wp2_with fail
  refine (irefs_any Ai ci G w4 hri (by omega)).mono ?_
  rintro e w5 ⟨Ra, ra, rfl, hra, hb5⟩
  replace hni := hni.below hb5
  replace hrj := hrj.below hb5
  replace hnj := hnj.below hb5
  replace HB := Lib.hid (bch HB.out hb5)
  clear hb5 hri
  replace hra := hra.rd
  go_wp2_with fail
  refine (items_same Ra Aj ra cj G w5 hra hrj (by omega)).mono ?_
  rintro e w6 ⟨rfl, hb6⟩
  replace hni := hni.below hb6
  replace hnj := hnj.below hb6
  replace HB := Lib.hid (bch HB.out hb6)
  clear hb6 hra hrj
  go_wp2_with fail
  refine (notes_same Bi Bj di dj N w6 hni hnj (by omega)).mono ?_
  rintro e w7 ⟨rfl, hb7⟩
  replace HB := Lib.hid (bch HB.out hb7)
  clear hb7 hni hnj
  go_wp2_with fail
  refine (F.out w7 (h0.below HB.out)).mono ?_
  rintro e w8 ⟨rfl, hb8⟩
  replace HB := Lib.hid (bch HB.out hb8)
  clear hb8
  clear F
  go_wp2
  go_ret
  exact ⟨rfl, HB.out⟩
end Go.Proofs.YtckldeabbkdbjaaDoor

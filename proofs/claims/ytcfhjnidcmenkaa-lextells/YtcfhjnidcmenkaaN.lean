/-
  The walks of LexBack and LexRight: for every input they return true; old memory stays.
-/
import Derived.Test.YtcfhjnidcmenkaaM
namespace Go.Proofs.Ytcfhjnidcmenkaa
open Go.RowKit

theorem word_size : ∀ (f : Nat) (s : By), s.length ≤ f → (wordG s).1.length ≤ s.length
  | _, [], _ => by simp [wordG]
  | _, [c], _ => by rw [wordG_one]; split <;> simp
  | 0, c :: x :: r, h => by simp at h
  | f + 1, c :: x :: r, h => by
    simp at h
    rw [wordG_two]
    split
    · split
      · have := word_size f r (by omega); simp; omega
      · have := word_size f (x :: r) (by simp; omega); simp at this ⊢; omega
    · simp
theorem one_size (c : UInt8) (r : By) : (one c r).1.2.length ≤ (c :: r).length := by
  unfold one
  split
  · exact word_size _ _ (Nat.le_refl _)
  · split
    · simp
    · split
      · have := lead_le r; simp; omega
      · split
        · simp; omega
        · simp
theorem toks_sizes : ∀ (f : Nat) (s : By), s.length ≤ f → (toks s).length ≤ s.length ∧ ∀ t ∈ toks s, t.2.length ≤ s.length
  | _, [], _ => by simp [toks_nil]
  | 0, c :: r, h => by simp at h
  | f + 1, c :: r, h => by
    have h1 := one_less c r
    have h2 := one_size c r
    simp only [List.length_cons] at h h2 ⊢
    obtain ⟨i1, i2⟩ := toks_sizes f (one c r).2 (by omega)
    rw [toks_cons]
    refine ⟨by simp only [List.length_cons]; omega, fun t ht => ?_⟩
    rcases List.mem_cons.1 ht with rfl | ht
    · exact h2
    · have := i2 t ht; omega
theorem toks_len (s : By) : (toks s).length ≤ s.length := (toks_sizes _ s (Nat.le_refl _)).1
theorem toks_each (s : By) : ∀ t ∈ toks s, t.2.length ≤ s.length := (toks_sizes _ s (Nat.le_refl _)).2
theorem tokT_size (t : Tok) (B : Nat) (h : t.2.length ≤ B) : (tokT t).length ≤ 2 * B + 2 := by
  unfold tokT
  have := safe_len t.2
  split
  · omega
  · split
    · simp
    · split
      · simp
      · split
        · simp; omega
        · split
          · simp
          · split
            · simp
            · split
              · simp; omega
              · simp
theorem text_size (B : Nat) : ∀ (l : List Tok), (∀ t ∈ l, t.2.length ≤ B) → (textL l).length ≤ l.length * (2 * B + 2)
  | [], _ => by simp [textL]
  | a :: r, h => by
    have ih := text_size B r (fun t ht => h t (List.mem_cons_of_mem _ ht))
    have h1 := tokT_size a B (h a (by simp))
    rw [show textL (a :: r) = tokT a ++ textL r from by simp [textL], List.length_append, List.length_cons, Nat.succ_mul]
    omega
theorem text_of_toks {r : By} (h : r.length ≤ 300) : (textL (toks r)).length ≤ 180600 := by
  have h1 := toks_len r
  have h2 := text_size 300 (toks r) (fun t ht => by have := toks_each r t ht; omega)
  have h3 : (toks r).length * (2 * 300 + 2) ≤ 300 * (2 * 300 + 2) := Nat.mul_le_mul_right _ (by omega)
  omega
theorem mild_toks {r : By} (h : r.length ≤ 2000) : Mild (toks r) := fun t ht => by have := toks_each r t ht; omega
theorem lex_list (s : By) (w : World) (hs : s.length ≤ 190000) : Calls Try.prog 12 #[.string ⟨s.toArray⟩] w (Res 37 w (toks s)) := lex_any ⟨s.toArray⟩ w hs
theorem same_eq (A B : Option Addr) (c d : Nat) (ts : List Tok) (w : World) (hr : Rd w A ts) (hq : Rd w B ts) (hl : ts.length ≤ 200000) :
    Calls Try.prog 10 #[.slice A ts.length c, .slice B ts.length d] w fun e w' => e = .returned (.bool true) ∧ Below w.heap.size w w' :=
  (same_any A B c d ts ts w hr hq hl hl).mono fun _ _ ⟨h1, n, h2⟩ => ⟨h1.trans (ret_bool (decide_eq_true rfl)), by subst h2; exact drewN_below w n⟩
set_option maxRecDepth 100000 in
set_option maxHeartbeats 4000000 in
theorem lexBack_walk (s : By) (w : World) (hs : s.length ≤ 9223372036854775807) :
    Calls Try.prog 4 #[.string ⟨s.toArray⟩] w fun e w' => e = .returned (.bool true) ∧ Below w.heap.size w w' := by
  obtain ⟨cz, r, HCY, hrl, hmin, hcut⟩ := cut_facts s 300 300 rfl
  have hlen := toks_len r
  have L1 := Lib.hid (fun w => lex_list r w (by omega))
  have M1 := Lib.hid (mild_toks (show r.length ≤ 2000 by omega))
  have hts := text_of_toks hrl
  have L2 := Lib.hid (fun w => lex_list (textL (toks r)) w (by omega))
  rw [toks_back] at L2
  have R1 := Lib.hid (toks_right r)
  have q0 : (((toks r).length : Int) == 0) = r.isEmpty := by
    rw [Bool.eq_iff_iff]
    have := toks_empty r
    simp only [beq_iff_eq, List.isEmpty_iff, ← this]
    constructor
    · intro h; exact List.eq_nil_of_length_eq_zero (by omega)
    · intro h; rw [h]; rfl
  obtain ⟨ts, hts2⟩ : ∃ ts, toks r = ts := ⟨_, rfl⟩
  rw [hts2] at L1 M1 L2 R1 q0 hlen hts
  have T1 := Lib.hid (fun A c w (hr : Rd w A ts) => text_any A c ts w hr M1 (by omega))
  obtain ⟨tx, htx⟩ : ∃ tx, textL ts = tx := ⟨_, rfl⟩
  rw [htx] at L2 T1 hts
  have RR := Lib.hid (fun A c w (hr : Rd w A ts) => right_any A c ts w hr M1 (by omega))
  rw [R1.out] at RR
  clear hts2 htx R1 M1 HCY
  cases hem : r.isEmpty <;> (
    rw [hem] at q0
    go_enter Try.func4, Try.ntmps4
    go_wp2_with fail
    refine (L1.out _).mono ?_
    rintro e w1 ⟨A1, c1, rfl, ho1, hb⟩
    replace ho1 := ho1.rd
    have HB := Lib.hid hb
    clear hb
    go_wp2_with fail
    refine (T1.out A1 c1 w1 ho1).mono ?_
    rintro e w2 ⟨rfl, hb2⟩
    replace ho1 := ho1.below hb2
    replace HB := Lib.hid (bch HB.out hb2)
    clear hb2
    go_wp2_with fail
    refine (L2.out w2).mono ?_
    rintro e w3 ⟨A2, c2, rfl, ho2, hb3⟩
    replace ho1 := ho1.below hb3
    replace ho2 := ho2.rd
    replace HB := Lib.hid (bch HB.out hb3)
    clear hb3
    go_wp2_with fail
    refine (RR.out A1 c1 w3 ho1).mono ?_
    rintro e w4 ⟨rfl, hb4⟩
    replace ho1 := ho1.below hb4
    replace ho2 := ho2.below hb4
    replace HB := Lib.hid (bch HB.out hb4)
    clear hb4
    go_wp2_with fail
    refine (refs_any A1 c1 ts w4 ho1 (by omega)).mono ?_
    rintro e w5 ⟨A3, c3, rfl, ho3, hb5⟩
    replace ho2 := ho2.below hb5
    replace ho3 := ho3.rd
    replace HB := Lib.hid (bch HB.out hb5)
    clear hb5 ho1
    go_wp2_with fail
    refine (refs_any A2 c2 ts w5 ho2 (by omega)).mono ?_
    rintro e w6 ⟨A4, c4, rfl, ho4, hb6⟩
    replace ho2 := ho2.below hb6
    replace ho3 := ho3.below hb6
    replace ho4 := ho4.rd
    replace HB := Lib.hid (bch HB.out hb6)
    clear hb6
    go_wp2_with fail
    refine (same_eq A3 A4 c3 c4 ts w6 ho3 ho4 (by omega)).mono ?_
    rintro e w7 ⟨rfl, hb7⟩
    replace ho2 := ho2.below hb7
    replace HB := Lib.hid (bch HB.out hb7)
    clear hb7 ho3 ho4
    go_wp2_with fail
    refine (T1.out A2 c2 w7 ho2).mono ?_
    rintro e w8 ⟨rfl, hb8⟩
    replace HB := Lib.hid (bch HB.out hb8)
    clear hb8 ho2
    go_wp2_with fail
    refine (fixed_any w8).mono ?_
    rintro e w9 ⟨rfl, hb9⟩
    replace HB := Lib.hid (bch HB.out hb9)
    clear hb9
    go_wp2
    go_ret
    exact ⟨rfl, HB.out⟩)
theorem cut_mild (n : Nat) (ts : List Tok) : ∀ t ∈ cutL n ts, t.2.length ≤ 40 := fun t ht => by
  unfold cutL at ht
  obtain ⟨x, _, rfl⟩ := List.mem_map.1 ht
  show (x.2.take 40).length ≤ 40
  rw [List.length_take]; omega
theorem cut_len (n : Nat) (ts : List Tok) : (cutL n ts).length ≤ n := by unfold cutL; rw [List.length_map, List.length_take]; omega
set_option maxRecDepth 100000 in
set_option maxHeartbeats 4000000 in
theorem lexRight_walk (A : Option Addr) (c : Nat) (xs : List Tok) (w : World) (hr : Rd w A xs) (hl : xs.length ≤ 9223372036854775807) (hfit : Hid (∀ t ∈ xs, t.2.length ≤ 9223372036854775807)) :
    Calls Try.prog 5 #[.slice A xs.length c] w fun e w' => e = .returned (.bool true) ∧ Below w.heap.size w w' := by
  have CT := Lib.hid (lcut_any A c 60 xs w hr hl hfit (by omega))
  have h40 := cut_mild 60 xs
  have h60 := cut_len 60 xs
  generalize cutL 60 xs = cs at *
  have M1 : Hid (Mild cs) := Lib.hid fun t ht => by have := h40 t ht; omega
  have T1 := Lib.hid (fun A c w (hr : Rd w A cs) => text_any A c cs w hr M1 (by omega))
  have RR := Lib.hid (fun A c w (hr : Rd w A cs) => right_any A c cs w hr M1 (by omega))
  have htl := text_size 40 cs h40
  have hml := toks_len (textL cs)
  have L1 := Lib.hid (fun w => lex_list (textL cs) w (by omega))
  have HI := Lib.hid (show decide (cs = toks (textL cs)) = rightL cs by
    rw [Bool.eq_iff_iff, decide_eq_true_eq, ← right_iff]
    exact ⟨fun h => h.symm, fun h => h.symm⟩)
  have h1 : (toks (textL cs)).length ≤ 190000 := by omega
  obtain ⟨ms, hms⟩ : ∃ ms, toks (textL cs) = ms := ⟨_, rfl⟩
  rw [hms] at L1 HI h1
  generalize textL cs = tx at *
  have SS := Lib.hid (fun A B c d w (hr : Rd w A cs) (hq : Rd w B ms) => same_any A B c d cs ms w hr hq (by omega) (by omega))
  rw [HI.out] at SS
  generalize rightL cs = v at *
  clear hms htl hml h40 HI M1
  go_enter Try.func5, Try.ntmps5
  go_wp2_with fail
  refine CT.out.mono ?_
  rintro e w1 ⟨A1, c1, rfl, ho1, hb⟩
  replace ho1 := ho1.rd
  have HB := Lib.hid hb
  clear hb CT
  go_wp2_with fail
  refine (T1.out A1 c1 w1 ho1).mono ?_
  rintro e w2 ⟨rfl, hb2⟩
  replace ho1 := ho1.below hb2
  replace HB := Lib.hid (bch HB.out hb2)
  clear hb2
  go_wp2_with fail
  refine (L1.out w2).mono ?_
  rintro e w3 ⟨A2, c2, rfl, ho2, hb3⟩
  replace ho1 := ho1.below hb3
  replace ho2 := ho2.rd
  replace HB := Lib.hid (bch HB.out hb3)
  clear hb3
  go_wp2_with fail
  refine (refs_any A1 c1 cs w3 ho1 (by omega)).mono ?_
  rintro e w5 ⟨A3, c3, rfl, ho3, hb5⟩
  replace ho1 := ho1.below hb5
  replace ho2 := ho2.below hb5
  replace ho3 := ho3.rd
  replace HB := Lib.hid (bch HB.out hb5)
  clear hb5
  go_wp2_with fail
  refine (refs_any A2 c2 ms w5 ho2 h1).mono ?_
  rintro e w6 ⟨A4, c4, rfl, ho4, hb6⟩
  replace ho1 := ho1.below hb6
  replace ho3 := ho3.below hb6
  replace ho4 := ho4.rd
  replace HB := Lib.hid (bch HB.out hb6)
  clear hb6
  go_wp2_with fail
  refine (SS.out A3 A4 c3 c4 w6 ho3 ho4).mono ?_
  rintro e w7 ⟨rfl, n7, hn7⟩
  have hb7 : Below w6.heap.size w6 w7 := by rw [hn7]; exact drewN_below w6 n7
  replace ho1 := ho1.below hb7
  replace HB := Lib.hid (bch HB.out hb7)
  clear hb7 ho3 ho4 hn7
  go_wp2_with fail
  refine (RR.out A1 c1 w7 ho1).mono ?_
  rintro e w8 ⟨rfl, hb8⟩
  replace HB := Lib.hid (bch HB.out hb8)
  clear hb8 ho1
  have q : (v == v) = true := by simp
  go_wp2_with fail
  refine (fixed_any w8).mono ?_
  rintro e w9 ⟨rfl, hb9⟩
  replace HB := Lib.hid (bch HB.out hb9)
  clear hb9
  go_wp2
  go_ret
  exact ⟨rfl, HB.out⟩
end Go.Proofs.Ytcfhjnidcmenkaa

/-
  Contracts of count.guess and count.Value over the translation: for every text of at most 1000 bytes and every style they return the plain functions' answers; the tables lie in memory; old memory stays as it was.
-/
import Derived.Test.YtglhcnhenhfkiaaDoorT5
namespace Go.Proofs.YtglhcnhenhfkiaaDoor
open Go.RowKit Go.Sort

theorem mapGoD_len (f : Int → Int) : ∀ (n : Nat) (l : List UInt8), (Lib.mapGoD f n l).length ≤ 4 * n
  | 0, l => by simp [Lib.mapGoD]
  | n + 1, l => by
    unfold Lib.mapGoD
    split
    · simp
    · have h1 := mapGoD_len f n (l.drop (Lib.decodeL l).2)
      have h2 : ((if 0 ≤ f (Lib.decodeL l).1 then Lib.encodeRune (f (Lib.decodeL l).1) else []) : List UInt8).length ≤ 4 := by
        split
        · have := (Lib.encodeRuneZ_length (f (Lib.decodeL l).1)).2
          simpa [Lib.encodeRune] using this
        · simp
      simp only [List.length_append]
      omega
theorem toLowerD_len (l : List UInt8) : (Lib.toLowerD l).length ≤ 4 * l.length := mapGoD_len _ _ _

/-- The one counter whose text l can be. -/
def cGuess (l : List UInt8) (style : Int) : Int :=
  if style = 2 then (if 0 < rvL (Lib.toLowerD l) then rvL (Lib.toLowerD l) else plGo 48 10 0 0 l)
  else if style = 1 then (if 0 < rvL l then rvL l else plGo 48 10 0 0 l)
  else if style = 3 then (if 0 < plGo 97 26 1 0 l then plGo 97 26 1 0 l else plGo 48 10 0 0 l)
  else plGo 48 10 0 0 l
theorem rvL_bd (l : List UInt8) : 0 ≤ rvL l ∧ rvL l ≤ 999999 := ⟨(rvP_bd l 13 (by omega)).1, (rvP_bd l 13 (by omega)).2.1⟩
theorem cGuess_bd (l : List UInt8) (style : Int) : 0 ≤ cGuess l style ∧ cGuess l style ≤ 999999 := by
  have h1 := rvL_bd (Lib.toLowerD l)
  have h2 := rvL_bd l
  have h3 := plGo_bd 97 26 1 l 0 (by omega) (by omega)
  have h4 := plGo_bd 48 10 0 l 0 (by omega) (by omega)
  unfold cGuess
  repeat' split
  all_goals omega

theorem places_a (l : List UInt8) (w : World) (hl : l.length ≤ 1000) :
    Calls Tryd.prog 31 #[.string ⟨l.toArray⟩, .int .u8 97, .int .i64 26, .int .i64 1] w fun e w' => e = .returned (.int .i64 (plGo 97 26 1 0 l)) ∧ w = w' :=
  placesA ⟨l.toArray⟩ w (by show l.length ≤ _; omega)
theorem places_d (l : List UInt8) (w : World) (hl : l.length ≤ 1000) :
    Calls Tryd.prog 31 #[.string ⟨l.toArray⟩, .int .u8 48, .int .i64 10, .int .i64 0] w fun e w' => e = .returned (.int .i64 (plGo 48 10 0 0 l)) ∧ w = w' :=
  placesD ⟨l.toArray⟩ w (by show l.length ≤ _; omega)
theorem lower_any (l : List UInt8) (w : World) (T : Tabs w) (hl : l.length ≤ 1000) :
    Calls Tryd.prog 29 #[.string ⟨l.toArray⟩] w fun e w' => e = .returned (.string ⟨(Lib.toLowerD l).toArray⟩) ∧ Below w.heap.size w w' :=
  Tryd.strings_ToLower_any ⟨l.toArray⟩ w (by show l.length < _; omega) T.cas T.u8
theorem rv_any (l : List UInt8) (w : World) (T : Tabs w) (hl : l.length ≤ 4000) :
    Calls Tryd.prog 30 #[.string ⟨l.toArray⟩] w fun e w' => e = .returned (.int .i64 (rvL l)) ∧ Below w.heap.size w w' := by
  obtain ⟨t, fr, hn⟩ := T.num
  exact romanValue_any l w t fr (by omega) hn

set_option maxHeartbeats 400000 in
theorem guess_any (l : List UInt8) (style : Int) (w : World) (T : Tabs w) (hl : l.length ≤ 1000) :
    Calls Tryd.prog 24 #[.string ⟨l.toArray⟩, .int .i64 style] w fun e w' => e = .returned (.int .i64 (cGuess l style)) ∧ Below w.heap.size w w' := by
  by_cases h2 : style = 2
  · subst h2
    have hlow := toLowerD_len l
    have hn0 := (rvL_bd (Lib.toLowerD l)).1
    generalize hn : rvL (Lib.toLowerD l) = n at *
    generalize hd : plGo 48 10 0 0 l = d at *
    have HN := Lib.hid hn
    have HD := Lib.hid hd
    clear hn hd
    by_cases hp : 0 < n
    · go_enter Tryd.func24, Tryd.ntmps24
      go_wp2_with fail
      refine (lower_any l _ T hl).mono ?_
      rintro e w1 ⟨rfl, hb⟩
      have T1 := T.below hb
      go_wp2_with fail
      refine (rv_any _ _ T1 (by omega)).mono ?_
      rintro e w2 ⟨rfl, hb2⟩
      rw [HN.out]
      go_wp2_with fail
      go_ret
      exact ⟨ret_int (by rw [cGuess, if_pos rfl, HN.out, if_pos hp]), hb.trans (hb2.mono hb.size)⟩
    · obtain rfl : n = 0 := by omega
      go_enter Tryd.func24, Tryd.ntmps24
      go_wp2_with fail
      refine (lower_any l _ T hl).mono ?_
      rintro e w1 ⟨rfl, hb⟩
      have T1 := T.below hb
      go_wp2_with fail
      refine (rv_any _ _ T1 (by omega)).mono ?_
      rintro e w2 ⟨rfl, hb2⟩
      rw [HN.out]
      go_wp2_with fail
      refine (places_d _ _ hl).mono ?_
      rintro e w4 ⟨rfl, rfl⟩
      rw [HD.out]
      go_wp2_with fail
      go_ret
      exact ⟨ret_int (by rw [cGuess, if_pos rfl, HN.out, if_neg (by omega), HD.out]), hb.trans (hb2.mono hb.size)⟩
  · have e2 : (style == 2) = false := by simpa using h2
    by_cases h1 : style = 1
    · subst h1
      have hn0 := (rvL_bd l).1
      generalize hn : rvL l = n at *
      generalize hd : plGo 48 10 0 0 l = d at *
      have HN := Lib.hid hn
      have HD := Lib.hid hd
      clear hn hd
      by_cases hp : 0 < n
      · go_enter Tryd.func24, Tryd.ntmps24
        go_wp2_with fail
        refine (rv_any _ _ T (by omega)).mono ?_
        rintro e w2 ⟨rfl, hb2⟩
        rw [HN.out]
        go_wp2_with fail
        go_ret
        exact ⟨ret_int (by rw [cGuess, if_neg h2, if_pos rfl, HN.out, if_pos hp]), hb2⟩
      · obtain rfl : n = 0 := by omega
        go_enter Tryd.func24, Tryd.ntmps24
        go_wp2_with fail
        refine (rv_any _ _ T (by omega)).mono ?_
        rintro e w2 ⟨rfl, hb2⟩
        rw [HN.out]
        go_wp2_with fail
        refine (places_d _ _ hl).mono ?_
        rintro e w4 ⟨rfl, rfl⟩
        rw [HD.out]
        go_wp2_with fail
        go_ret
        exact ⟨ret_int (by rw [cGuess, if_neg h2, if_pos rfl, HN.out, if_neg (by omega), HD.out]), hb2⟩
    · have e1 : (style == 1) = false := by simpa using h1
      by_cases h3 : style = 3
      · subst h3
        have hn0 := (plGo_bd 97 26 1 l 0 (by omega) (by omega)).1
        generalize hn : plGo 97 26 1 0 l = n at *
        generalize hd : plGo 48 10 0 0 l = d at *
        have HN := Lib.hid hn
        have HD := Lib.hid hd
        clear hn hd
        by_cases hp : 0 < n
        · go_enter Tryd.func24, Tryd.ntmps24
          go_wp2_with fail
          refine (places_a _ _ hl).mono ?_
          rintro e w3 ⟨rfl, rfl⟩
          rw [HN.out]
          go_wp2_with fail
          go_ret
          exact ⟨ret_int (by rw [cGuess, if_neg h2, if_neg h1, if_pos rfl, HN.out, if_pos hp]), Below.refl _ _⟩
        · obtain rfl : n = 0 := by omega
          go_enter Tryd.func24, Tryd.ntmps24
          go_wp2_with fail
          refine (places_a _ _ hl).mono ?_
          rintro e w3 ⟨rfl, rfl⟩
          rw [HN.out]
          go_wp2_with fail
          refine (places_d _ _ hl).mono ?_
          rintro e w4 ⟨rfl, rfl⟩
          rw [HD.out]
          go_wp2_with fail
          go_ret
          exact ⟨ret_int (by rw [cGuess, if_neg h2, if_neg h1, if_pos rfl, HN.out, if_neg (by omega), HD.out]), Below.refl _ _⟩
      · have e3 : (style == 3) = false := by simpa using h3
        generalize hd : plGo 48 10 0 0 l = d at *
        have HD := Lib.hid hd
        clear hd
        go_enter Tryd.func24, Tryd.ntmps24
        go_wp2_with fail
        refine (places_d _ _ hl).mono ?_
        rintro e w4 ⟨rfl, rfl⟩
        rw [HD.out]
        go_wp2_with fail
        go_ret
        exact ⟨ret_int (by rw [cGuess, if_neg h2, if_neg h1, if_neg h3, HD.out]), Below.refl _ _⟩

theorem ret_two {k1 k2 : IntKind} {a b c d : Int} (h1 : a = b) (h2 : c = d) : Ending.returned (.tuple #[.int k1 a, .int k2 c]) = .returned (.tuple #[.int k1 b, .int k2 d]) := by rw [h1, h2]
/-- Is l the text of what it is guessed to be? -/
def cOk (l : List UInt8) (style : Int) : Bool := cText (cGuess l style) style == l
def cVal (l : List UInt8) (style : Int) : Int := if cOk l style then cGuess l style else 0
def cErr (l : List UInt8) (style : Int) : Int := if cOk l style then 0 else 5
set_option maxHeartbeats 400000 in
theorem value_any (l : List UInt8) (style : Int) (w : World) (T : Tabs w) (hl : l.length ≤ 1000) :
    Calls Tryd.prog 15 #[.string ⟨l.toArray⟩, .int .i64 style] w fun e w' => e = .returned (.tuple #[.int .i64 (cVal l style), .int .i64 (cErr l style)]) ∧ Below w.heap.size w w' := by
  generalize hg : cGuess l style = g
  have HG := Lib.hid hg
  clear hg
  cases hc : (cText g style == l)
  · have hk : cOk l style = false := by rw [cOk, HG.out, hc]
    have HK := Lib.hid hk
    clear hk
    go_enter Tryd.func15, Tryd.ntmps15
    go_wp2_with fail
    refine (guess_any l style _ T hl).mono ?_
    rintro e w1 ⟨rfl, hb⟩
    rw [HG.out]
    have T1 := T.below hb
    go_wp2_with fail
    refine (text_any _ _ _ T1).mono ?_
    rintro e w2 ⟨rfl, hb2⟩
    go_wp2_with fail
    go_ret2
    exact ⟨ret_two (by rw [cVal, HK.out]; rfl) (by rw [cErr, HK.out]; rfl), hb.trans (hb2.mono hb.size)⟩
  · have hk : cOk l style = true := by rw [cOk, HG.out, hc]
    have HK := Lib.hid hk
    clear hk
    go_enter Tryd.func15, Tryd.ntmps15
    go_wp2_with fail
    refine (guess_any l style _ T hl).mono ?_
    rintro e w1 ⟨rfl, hb⟩
    rw [HG.out]
    have T1 := T.below hb
    go_wp2_with fail
    refine (text_any _ _ _ T1).mono ?_
    rintro e w2 ⟨rfl, hb2⟩
    go_wp2_with fail
    go_ret2
    exact ⟨ret_two (by rw [cVal, HK.out, if_pos rfl, HG.out]) (by rw [cErr, HK.out]; rfl), hb.trans (hb2.mono hb.size)⟩
end Go.Proofs.YtglhcnhenhfkiaaDoor

/-
  Contract of the document's answer for layer 1 (its Value) over the translation: for every text of at most 1000 bytes and every style it returns the same plain functions as count.Value; old memory stays as it was.
-/
import Derived.Test.YtglhcnhenhfkiaaDoorF4
import Derived.Test.YtglhcnhenhfkiaaDoorV
namespace Go.Proofs.YtglhcnhenhfkiaaDoor
open Go.RowKit Go.Sort

theorem rd_snoc (f g l : Int) (hg : 0 ≤ g) (hl : 0 ≤ l) (c : UInt8) (hc : plOk f g c) : ∀ (a : List UInt8) (n v : Int), 0 ≤ n → rdGo f g l n a = v → 0 ≤ v → v ≤ 999999 → rdGo f g l n (a ++ [c]) = v * g + ((c.toNat : Int) - f) + l
  | [], n, v, _, h, h0, h9 => by
    unfold plOk at hc
    simp only [rdGo] at h
    subst h
    simp only [List.nil_append, rdGo]
    rw [if_neg (by omega)]
  | x :: a, n, v, hn, h, h0, h9 => by
    rw [rdGo] at h
    simp only [List.cons_append]
    rw [rdGo]
    split at h
    · omega
    · rename_i hx
      rw [if_neg hx]
      have : 0 ≤ n * g := Int.mul_nonneg hn hg
      exact rd_snoc f g l hg hl c hc a _ v (by omega) h h0 h9
theorem rd_dec (u : Nat) (hu : u ≤ 999999) : rdGo 48 10 0 0 (Lib.decDigits u) = u := by
  induction u using Nat.strongRecOn with
  | _ u ih =>
    by_cases h : u < 10
    · rw [dec_small u h]
      have := rd_snoc 48 10 0 (by omega) (by omega) (UInt8.ofNat (48 + u)) (by unfold plOk; rw [byte_toNat _ (by omega)]; omega) [] 0 0 (by omega) rfl (by omega) (by omega)
      rw [List.nil_append, byte_toNat _ (by omega)] at this
      rw [this]; omega
    · rw [dec_big u h, rd_snoc 48 10 0 (by omega) (by omega) _ (by unfold plOk; rw [byte_toNat _ (by omega)]; omega) _ 0 _ (by omega) (ih (u / 10) (by omega) (by omega)) (by omega) (by omega), byte_toNat _ (by omega)]; omega
theorem rd_let (u : Nat) (hu : u ≤ 999999) : rdGo 97 26 1 0 (letL u) = u := by
  induction u using Nat.strongRecOn with
  | _ u ih =>
    by_cases h : u = 0
    · subst h; rw [letL_zero]; rfl
    · rw [letL_pos u (by omega), rd_snoc 97 26 1 (by omega) (by omega) _ (by unfold plOk; rw [byte_toNat _ (by omega)]; omega) _ 0 _ (by omega) (ih ((u - 1) / 26) (by omega) (by omega)) (by omega) (by omega), byte_toNat _ (by omega)]; omega
/-- What a text that is a counter's is read as. -/
theorem read_text (m : Nat) (style : Int) (h : m ≤ 999999) : rdGo 48 10 0 0 (cTextN m style) = m ∨ rdGo 97 26 1 0 (cTextN m style) = m ∨ ((style = 1 ∨ style = 2) ∧ 1 ≤ m ∧ m ≤ 3999) := by
  unfold cTextN
  split
  · rename_i hr; exact .inr (.inr ⟨.inr hr.1, hr.2⟩)
  split
  · rename_i hr; exact .inr (.inr ⟨.inl hr.1, hr.2⟩)
  split
  · exact .inr (.inl (rd_let m h))
  · exact .inl (rd_dec m h)

theorem rtext_nat (m : Nat) (style : Int) (l : List UInt8) (w : World) (hm : m ≤ 999999) (hl : cTextN m style = l) :
    Calls Tryd.prog 14 #[.int .i64 m, .int .i64 style] w fun e w' => e = .returned (.string ⟨l.toArray⟩) ∧ Below w.heap.size w w' :=
  (rtextN_any m style m w (cCut_id _ (by omega) (by omega)) hm).mono fun _ _ hh => ⟨hh.1.trans (ret_str hl), hh.2⟩
theorem read_a (l : List UInt8) (r : Int) (w : World) (hl : l.length ≤ 1000) (hr : rdGo 97 26 1 0 l = r) :
    Calls Tryd.prog 25 #[.string ⟨l.toArray⟩, .int .u8 97, .int .i64 26, .int .i64 1] w fun e w' => e = .returned (.int .i64 r) ∧ w = w' :=
  (readA ⟨l.toArray⟩ w (by show l.length ≤ _; omega)).mono fun _ _ hh => ⟨hh.1.trans (ret_int hr), hh.2⟩
theorem read_d (l : List UInt8) (r : Int) (w : World) (hl : l.length ≤ 1000) (hr : rdGo 48 10 0 0 l = r) :
    Calls Tryd.prog 25 #[.string ⟨l.toArray⟩, .int .u8 48, .int .i64 10, .int .i64 0] w fun e w' => e = .returned (.int .i64 r) ∧ w = w' :=
  (readD ⟨l.toArray⟩ w (by show l.length ≤ _; omega)).mono fun _ _ hh => ⟨hh.1.trans (ret_int hr), hh.2⟩

/-- A number that is none of the text: below, above, or of another text. -/
def Fails (a : Int) (style : Int) (l : List UInt8) : Prop := a < 0 ∨ 999999 < a ∨ ∃ (k : Nat) (t : List UInt8), a = k ∧ k ≤ 999999 ∧ cTextN k style = t ∧ (t == l) = false

set_option maxRecDepth 100000 in
set_option maxHeartbeats 2000000 in
theorem rv_first (l : List UInt8) (style b : Int) (k : Nat) (w : World) (hl : l.length ≤ 1000) (Ha : Hid (rdGo 48 10 0 0 l = (k : Int))) (Hb : Hid (rdGo 97 26 1 0 l = b)) (hk : k ≤ 999999) (HT : Hid (cTextN k style = l)) :
    Calls Tryd.prog 16 #[.string ⟨l.toArray⟩, .int .i64 style] w fun x w' => x = .returned (.tuple #[.int .i64 k, .int .i64 0]) ∧ Below w.heap.size w w' := by
  go_enter Tryd.func16, Tryd.ntmps16
  go_wp2_with fail
  refine (read_d l k _ hl Ha.out).mono ?_
  rintro e w' ⟨rfl, rfl⟩
  go_wp2_with fail
  refine (read_a l b _ hl Hb.out).mono ?_
  rintro e w' ⟨rfl, rfl⟩
  go_wp2_with fail
  refine (rtext_nat k style l _ hk HT.out).mono ?_
  rintro e w1 ⟨rfl, hb⟩
  go_wp2_with fail
  go_ret2
  exact ⟨rfl, hb⟩
set_option maxRecDepth 100000 in
set_option maxHeartbeats 2000000 in
theorem rv_second (l : List UInt8) (style a : Int) (k : Nat) (w : World) (hl : l.length ≤ 1000) (Ha : Hid (rdGo 48 10 0 0 l = a)) (Hb : Hid (rdGo 97 26 1 0 l = (k : Int))) (FA : Fails a style l) (hk : k ≤ 999999) (HT : Hid (cTextN k style = l)) :
    Calls Tryd.prog 16 #[.string ⟨l.toArray⟩, .int .i64 style] w fun x w' => x = .returned (.tuple #[.int .i64 k, .int .i64 0]) ∧ Below w.heap.size w w' := by
  have B : Below w.heap.size w w := Below.refl _ _
  rcases FA with fa | fa | ⟨ka, ta, rfl, fa1, fa2, fa3⟩
  · have g1 : decide ((0 : Int) ≤ a) = false := by simp; omega
    go_enter Tryd.func16, Tryd.ntmps16
    go_wp2_with fail
    refine (read_d l a _ hl Ha.out).mono ?_
    rintro e w' ⟨rfl, rfl⟩
    go_wp2_with fail
    refine (read_a l k _ hl Hb.out).mono ?_
    rintro e w' ⟨rfl, rfl⟩
    go_wp2_with fail
    refine (rtext_nat k style l _ hk HT.out).mono ?_
    rintro e w5 ⟨rfl, hb⟩
    go_wp2_with fail
    go_ret2
    exact ⟨rfl, B.trans (hb.mono B.size)⟩
  · have g1 : (0 : Int) ≤ a := by omega
    have g2 : decide (a ≤ 999999) = false := by simp; omega
    go_enter Tryd.func16, Tryd.ntmps16
    go_wp2_with fail
    refine (read_d l a _ hl Ha.out).mono ?_
    rintro e w' ⟨rfl, rfl⟩
    go_wp2_with fail
    refine (read_a l k _ hl Hb.out).mono ?_
    rintro e w' ⟨rfl, rfl⟩
    go_wp2_with fail
    refine (rtext_nat k style l _ hk HT.out).mono ?_
    rintro e w5 ⟨rfl, hb⟩
    go_wp2_with fail
    go_ret2
    exact ⟨rfl, B.trans (hb.mono B.size)⟩
  · have HF := Lib.hid fa2
    clear fa2
    go_enter Tryd.func16, Tryd.ntmps16
    go_wp2_with fail
    refine (read_d l ka _ hl Ha.out).mono ?_
    rintro e w' ⟨rfl, rfl⟩
    go_wp2_with fail
    refine (read_a l k _ hl Hb.out).mono ?_
    rintro e w' ⟨rfl, rfl⟩
    go_wp2_with fail
    refine (rtext_nat ka style ta _ fa1 HF.out).mono ?_
    rintro e w1 ⟨rfl, hb⟩
    replace B := B.trans (hb.mono B.size)
    clear hb
    go_wp2_with fail
    refine (rtext_nat k style l _ hk HT.out).mono ?_
    rintro e w5 ⟨rfl, hb⟩
    go_wp2_with fail
    go_ret2
    exact ⟨rfl, B.trans (hb.mono B.size)⟩
end Go.Proofs.YtglhcnhenhfkiaaDoor

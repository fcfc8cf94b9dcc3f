/-
  Contract of the document's answer for layer 1 (its Value) over the translation, whole: for every text of at most 1000 bytes and every style it returns the same plain functions as count.Value; old memory stays as it was.
-/
import Derived.Test.YtglhcnhenhfkiaaDoorF6
namespace Go.Proofs.YtglhcnhenhfkiaaDoor
open Go.RowKit Go.Sort

theorem fails_of (a style : Int) (l : List UInt8) (h : ∀ k : Nat, a = k → k ≤ 999999 → cTextN k style ≠ l) : Fails a style l := by
  by_cases h0 : a < 0
  · exact .inl h0
  by_cases h9 : 999999 < a
  · exact .inr (.inl h9)
  · obtain ⟨k, rfl⟩ := Int.eq_ofNat_of_zero_le (show 0 ≤ a by omega)
    exact .inr (.inr ⟨k, _, rfl, by omega, rfl, by rw [beq_eq_false_iff_ne]; exact h k rfl (by omega)⟩)
theorem ok_of (n : Nat) (style : Int) (l : List UInt8) (hn : n ≤ 999999) (h : cTextN n style = l) : cOk l style = true := by
  subst h; exact ok_text n style hn
theorem rvalue_any (l : List UInt8) (style : Int) (w : World) (hl : l.length ≤ 1000) :
    Calls Tryd.prog 16 #[.string ⟨l.toArray⟩, .int .i64 style] w fun x w' => x = .returned (.tuple #[.int .i64 (cVal l style), .int .i64 (cErr l style)]) ∧ Below w.heap.size w w' := by
  have hbd := cGuess_bd l style
  cases hok : cOk l style
  · have hv : cVal l style = 0 := by unfold cVal; rw [hok]; rfl
    have he : cErr l style = 5 := by unfold cErr; rw [hok]; rfl
    rw [hv, he]
    have hno : ∀ k : Nat, k ≤ 999999 → cTextN k style ≠ l := fun k hk h => by rw [ok_of k style l hk h] at hok; cases hok
    have FA := fails_of (rdGo 48 10 0 0 l) style l (fun k _ hk => hno k hk)
    have FB := fails_of (rdGo 97 26 1 0 l) style l (fun k _ hk => hno k hk)
    by_cases h1 : style = 1
    · subst h1
      exact rv_none1 l _ _ w hl (Lib.hid rfl) (Lib.hid rfl) FA FB (Lib.hid fun n _ h9 => by rw [beq_eq_false_iff_ne]; exact hno n (by omega))
    · by_cases h2 : style = 2
      · subst h2
        exact rv_none2 l _ _ w hl (Lib.hid rfl) (Lib.hid rfl) FA FB (Lib.hid fun n _ h9 => by rw [beq_eq_false_iff_ne]; exact hno n (by omega))
      · exact rv_other style l _ _ w hl (Lib.hid rfl) (Lib.hid rfl) (by simpa using h1) (by simpa using h2) FA FB
  · obtain ⟨g, hg⟩ := Int.eq_ofNat_of_zero_le hbd.1
    have hg9 : g ≤ 999999 := by omega
    have hv : cVal l style = g := by unfold cVal; rw [hok, if_pos rfl]; exact hg
    have he : cErr l style = 0 := by unfold cErr; rw [hok]; rfl
    have ht : cTextN g style = l := by
      have h2 : cText (cGuess l style) style = l := by unfold cOk at hok; exact beq_iff_eq.1 hok
      rw [hg, cText_nat g style hg9] at h2
      exact h2
    rw [hv, he]
    have huniq : ∀ k : Nat, k ≤ 999999 → cTextN k style = l → k = g := fun k hk h => text_inj k g style hk hg9 (h.trans ht.symm)
    by_cases hA : rdGo 48 10 0 0 l = g
    · exact rv_first l style _ g w hl (Lib.hid hA) (Lib.hid rfl) hg9 (Lib.hid ht)
    · have FA := fails_of (rdGo 48 10 0 0 l) style l (fun k hk h9 h => hA (by rw [hk, huniq k h9 h]))
      by_cases hB : rdGo 97 26 1 0 l = g
      · exact rv_second l style _ g w hl (Lib.hid rfl) (Lib.hid hB) FA hg9 (Lib.hid ht)
      · have FB := fails_of (rdGo 97 26 1 0 l) style l (fun k hk h9 h => hB (by rw [hk, huniq k h9 h]))
        have hr := read_text g style hg9
        rw [ht] at hr
        rcases hr with hr | hr | ⟨hst, h1, h39⟩
        · exact absurd hr hA
        · exact absurd hr hB
        · have hP : ∀ n : Nat, 1 ≤ n → n ≤ 3999 → (cTextN n style == l) = decide (n = g) := fun n _ h9 => by
            by_cases e : n = g
            · subst e; rw [ht]; simp
            · rw [decide_eq_false e, beq_eq_false_iff_ne]; exact fun h => e (huniq n (by omega) h)
          rcases hst with rfl | rfl
          · exact rv_third1 l _ _ w hl (Lib.hid rfl) (Lib.hid rfl) FA FB g h1 h39 (Lib.hid hP)
          · exact rv_third2 l _ _ w hl (Lib.hid rfl) (Lib.hid rfl) FA FB g h1 h39 (Lib.hid hP)
theorem rtext_any (n style : Int) (w : World) :
    Calls Tryd.prog 14 #[.int .i64 n, .int .i64 style] w fun e w' => e = .returned (.string ⟨(cText n style).toArray⟩) ∧ Below w.heap.size w w' := by
  have h := cCut_bd n
  exact rtextN_any n style (cCut n).toNat w (by omega) (by omega)
end Go.Proofs.YtglhcnhenhfkiaaDoor

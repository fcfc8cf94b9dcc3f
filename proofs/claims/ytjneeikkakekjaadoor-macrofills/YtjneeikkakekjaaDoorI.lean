/-
  The contract of lex.Text: a text that has these tokens; old memory stays.
-/
import Derived.Test.YtjneeikkakekjaaDoorH
namespace Go.Proofs.YtjneeikkakekjaaDoor
open Go.RowKit

theorem at_take {α : Type} {l : List α} {k : Nat} {f : α} (h : l[k]? = some f) : l.take (k + 1) = l.take k ++ [f] := by
  rw [List.take_add_one, h]; rfl
theorem text_step {ts : List Tok} {k : Nat} {f : Tok} (h : ts[k]? = some f) : textL (ts.take (k + 1)) = textL (ts.take k) ++ tokT f := by
  rw [at_take h]; unfold textL; rw [List.flatMap_append]; simp
def Mild (ts : List Tok) : Prop := ∀ t ∈ ts, t.2.length ≤ 2000
theorem tokT_len (t : Tok) (h : t.2.length ≤ 2000) : (tokT t).length ≤ 4100 := by
  unfold tokT
  have := safe_len t.2
  split
  · omega
  · split
    · simp
    · split
      · simp
      · split
        · simp; omega
        · split
          · simp
          · split
            · simp
            · split
              · simp; omega
              · simp
theorem cells_two {w : World} {h : Nat} {a b : Value} {t : TypeId} {fr : Nat × Nat} (hh : w.heap[h]? = some (.cells #[a, b] t fr)) : w.cell? ⟨h, 0, none⟩ = some a ∧ w.cell? ⟨h, 1, none⟩ = some b := by
  constructor <;> simp [World.cell?, hh]
theorem kind_ways (k : Int) : k = 1 ∨ k = 2 ∨ k = 3 ∨ k = 4 ∨ k = 5 ∨ k = 6 ∨ k = 7 ∨ (k ≠ 1 ∧ k ≠ 2 ∧ k ≠ 3 ∧ k ≠ 4 ∧ k ≠ 5 ∧ k ≠ 6 ∧ k ≠ 7) := by omega
end Go.Proofs.YtjneeikkakekjaaDoor

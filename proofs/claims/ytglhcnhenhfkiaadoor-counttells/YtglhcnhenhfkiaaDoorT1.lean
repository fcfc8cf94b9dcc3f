/-
  Contract of count.romanText over the translation: for every number up to 3999, in small letters or capitals, it returns the plain function's numeral; the numerals' table lies in memory; old memory stays as it was.
-/
import Derived.Test.YtglhcnhenhfkiaaDoorA
import Derived.Test.YtglhcnhenhfkiaaDoorM
import Derived.Test.YtglhcnhenhfkiaaDoorShelf
import Derived.Handy
import Derived.Lib.Hide
namespace Go.Proofs.YtglhcnhenhfkiaaDoor
open Go.RowKit

def numCells : Array Value := #[.int .i64 1000, .string ⟨#[109]⟩, .int .i64 900, .string ⟨#[99, 109]⟩, .int .i64 500, .string ⟨#[100]⟩, .int .i64 400, .string ⟨#[99, 100]⟩, .int .i64 100, .string ⟨#[99]⟩, .int .i64 90, .string ⟨#[120, 99]⟩, .int .i64 50, .string ⟨#[108]⟩, .int .i64 40, .string ⟨#[120, 108]⟩, .int .i64 10, .string ⟨#[120]⟩, .int .i64 9, .string ⟨#[105, 120]⟩, .int .i64 5, .string ⟨#[118]⟩, .int .i64 4, .string ⟨#[105, 118]⟩, .int .i64 1, .string ⟨#[105]⟩]

theorem num_index (k : Nat) (h : k < 13) (w : World) : (Instr.index 44 (.agg numCells) (.int .i64 k)).run Tryd.prog w = .ok (.agg #[.int .i64 (numAt k).1, .string ⟨(numAt k).2.toArray⟩]) w := by
  obtain rfl | rfl | rfl | rfl | rfl | rfl | rfl | rfl | rfl | rfl | rfl | rfl | rfl : k = 0 ∨ k = 1 ∨ k = 2 ∨ k = 3 ∨ k = 4 ∨ k = 5 ∨ k = 6 ∨ k = 7 ∨ k = 8 ∨ k = 9 ∨ k = 10 ∨ k = 11 ∨ k = 12 := by omega
  all_goals (clear h; kernel_rfl)

theorem str_app (l r : List UInt8) : Value.string (({ data := l.toArray } : ByteArray) ++ { data := r.toArray }) = Value.string { data := (l ++ r).toArray } := by
  congr 1
theorem int_sub (j v : Nat) (h : v ≤ j) : Value.int .i64 ((j : Int) - (v : Int)) = .int .i64 ((j - v : Nat) : Int) := by
  congr 1; omega

def romC (c : Bool) (n : Nat) : List UInt8 := if c then Lib.toUpperA (romL n) else romL n

set_option maxHeartbeats 400000 in
theorem romanText_any (c : Bool) (n : Nat) (w : World) (t : TypeId) (fr : Nat × Nat) (hn : n ≤ 3999) (hg : w.heap[0]? = some (.cells numCells t fr)) :
    Calls Tryd.prog 18 #[.int .i64 n, .bool c] w fun e w' => e = .returned (.string ⟨(romC c n).toArray⟩) ∧ Below w.heap.size w w' := by
  go_enter Tryd.func18, Tryd.ntmps18
  go_wp2_with (refine wpList_load_row rfl 44 _ rfl 0 rfl t numCells fr _ hg Tryd.underlying44 rfl (by kernel_rfl) ?_)
  go_loopw [0, 5, 9] (fun m s i wr => ∃ k : Nat, k ≤ 13 ∧ i = .int .i64 k ∧ m = .int .i64 (romP n k).1 ∧ s = .string ⟨(romP n k).2.toArray⟩ ∧ Below w.heap.size w wr) (fun _ _ i _ => 13 - (intOf i).toNat)
  case atStart => exact ⟨0, by omega, rfl, rfl, rfl, Below.refl _ _⟩
  case round =>
    obtain ⟨k, hk, rfl, rfl, rfl, hb⟩ := hrel
    have hle := romP_le n k hk
    have hln := romP_len n k hk
    by_cases hlt : k < 13
    · have hidx := num_index k hlt
      have hv := numAt_pos k hlt
      have hx2 := numAt_len k hlt
      have hd : decide ((k : Int) < 13) = true := by simp; omega
      have HS := Lib.hid (romP_succ n k hlt)
      have HR := Lib.hid (RI.start (romP n k) (numAt k))
      generalize hp : romP n k = p at *
      generalize hx : numAt k = x at *
      clear hp hx
      go_wp2
      go_loop [0, 5] (fun m s => ∃ (j : Nat) (l : List UInt8), RI p x j l ∧ m = .int .i64 j ∧ s = .string ⟨l.toArray⟩) (fun m _ => (intOf m).toNat)
      case atStart => exact ⟨p.1, p.2, HR.out, rfl, rfl⟩
      case round =>
        obtain ⟨j, l, hri, rfl, rfl⟩ := hrel
        have hj := hri.le
        have hl := hri.len hv.1 hx2.2
        by_cases hge : x.1 ≤ j
        · have hge' : (x.1 : Int) ≤ j := by omega
          go_wp2
          go_round
          case rel => exact ⟨j - x.1, l ++ x.2, hri.step hge, int_sub _ _ hge, str_app _ _⟩
          case measure => simp [intOf]; omega
        · have HD := Lib.hid (hri.done (by omega))
          have HE := Lib.hid (HS.out.trans HD.out)
          clear HS HD
          go_wp2
          go_roundw
          case rel => exact ⟨k + 1, by omega, by go_num, by rw [HE.out], by rw [HE.out], hb.alloc (hb.size) _⟩
          case measure => simp [intOf]; omega
    · obtain rfl : k = 13 := by omega
      cases c
      · go_wp2
        go_ret
        exact ⟨rfl, hb⟩
      · go_wp2_with fail
        refine (Tryd.strings_ToUpper_ascii ⟨(romP n 13).2.toArray⟩ _ (by simp [ByteArray.size]; omega) (fun j b h => romP_ascii n 13 (by omega) b (List.mem_of_getElem? (by simpa using h)))).mono ?_
        rintro e w1 ⟨rfl, hb1⟩
        go_wp2
        go_ret
        exact ⟨rfl, hb.trans (hb1.mono hb.size)⟩
end Go.Proofs.YtglhcnhenhfkiaaDoor

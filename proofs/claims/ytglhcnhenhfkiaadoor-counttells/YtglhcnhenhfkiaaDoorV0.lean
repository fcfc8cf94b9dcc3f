/-
  One closed fact, asked by the kernel: the value of each numeral from 1 to 3999 is its number.
-/
import Derived.Test.YtglhcnhenhfkiaaDoorT5
namespace Go.Proofs.YtglhcnhenhfkiaaDoor
/-- The table of all numerals, asked by the kernel. -/
theorem rom_all : ((List.range 4000).all fun m => m == 0 || rvL (romL m) == (m : Int)) = true := by decide +kernel
theorem rom_len_all : ((List.range 4000).all fun m => decide ((romL m).length ≤ 15)) = true := by decide +kernel
end Go.Proofs.YtglhcnhenhfkiaaDoor

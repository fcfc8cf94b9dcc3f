/-
  NARROWER THAN 'FOR EVERY INPUT', by the rows' own cells (each row's printed sentence says how): MacroGroups: laid · MacroFills: laid · MacroDoes: laid · MacroWithin: laid · MacroFlat: laid · MacroEmpty: laid.
  DERIVED. THE GIVEN ROWS OF THIS SEAT. 6 by the template 'for every input the law returns true; each argument reads behind the call as it read before'; 0 by the template 'total and deterministic' (their statements: YtjneeikkakekjaaDoorTotals.lean).
  GIVEN WITH THE SEED: the statements are not yours to turn. If you find one false, say at which input.
  Laid BY PROGRAM, IN A SANDBOX (cutbox-rows.mjs): the forced cells as the released guide's own fill.sh prints them over the translation 9ce654fa65c6ec91… (all of the seat's roots in one cut). By AI agents, Wed Nov 11 2026. No macro, syntax, notation, axiom, sorry.
-/
import Derived.Test.YtjneeikkakekjaaDoorChecked
import GoSem.PinnedTables
import GoSem.Claim
import GoSem.ClaimJoined
import GoSem.ClaimMapViews
import Derived.JoinedTies
import Derived.KernelRfl
namespace Go.Proofs.YtjneeikkakekjaaDoor
/- THE CELL 'sum', in the pinned program and in every row, IS THE sha256 OF THE DUMP (.gsa) THAT YtjneeikkakekjaaDoorProg.lean LOADS. Nothing in Lean hashes anything: it is a label: what it is worth is what the hold of that sum in a sandbox is worth. -/
noncomputable def Tryd.pinned : Pinned := { name := "ytjneeikkakekjaadoor", sum := "9ce654fa65c6ec911ed8bd528f7e9fbcb76a2733bdc577d88460c7b532112f1c", checked := Tryd.checked }
namespace Rows
def none {H : Type} : Left H := { results := [], args := [] }

/- WHAT THE LISTED PACKAGE-LEVEL VARIABLES READ AS WHEN THE CALL BEGINS. Each datum BY PROGRAM (the guide's laid-datum.mjs) off the statement by which the dump's own 'gosem.cut.vars' lays the variable. In a bare row this is a premise. The card (YtjneeikkakekjaaDoorCards.lean) ties it to the program's text. -/
def laid_unicode_utf8_acceptRanges {H : Type} : DataW H := .agg [.agg [.lit (.int .u8 128), .lit (.int .u8 191)], .agg [.lit (.int .u8 160), .lit (.int .u8 191)], .agg [.lit (.int .u8 128), .lit (.int .u8 159)], .agg [.lit (.int .u8 144), .lit (.int .u8 191)], .agg [.lit (.int .u8 128), .lit (.int .u8 143)], .agg [.lit (.int .u8 0), .lit (.int .u8 0)], .agg [.lit (.int .u8 0), .lit (.int .u8 0)], .agg [.lit (.int .u8 0), .lit (.int .u8 0)], .agg [.lit (.int .u8 0), .lit (.int .u8 0)], .agg [.lit (.int .u8 0), .lit (.int .u8 0)], .agg [.lit (.int .u8 0), .lit (.int .u8 0)], .agg [.lit (.int .u8 0), .lit (.int .u8 0)], .agg [.lit (.int .u8 0), .lit (.int .u8 0)], .agg [.lit (.int .u8 0), .lit (.int .u8 0)], .agg [.lit (.int .u8 0), .lit (.int .u8 0)], .agg [.lit (.int .u8 0), .lit (.int .u8 0)]]
/-- One of Go's own tables, pinned by name: the form's constant. -/
def laid_unicode_utf8_first : DataW Unit := Go.Pinned.utf8First

/-- 'stetlaw07.MacroGroups': WHATEVER THE INPUT: true; the input reads as it did. -/
def macroGroupsSpec : ChangeSpec := { name := "macroGroups", fn := fun _ => fun
  | [d1, d2, d3] => { results := [.lit (.bool true)], args := [d1, d2, d3] }
  | _ => none }
def macroGroupsRow : OpenClaim := { program := "ytjneeikkakekjaadoor", sum := "9ce654fa65c6ec911ed8bd528f7e9fbcb76a2733bdc577d88460c7b532112f1c", func := "stet/stetlaw07.MacroGroups", spec := "macroGroups", inPlace := ["internal/abi.NoEscape", "internal/bytealg.IndexByteString", "internal/bytealg.IndexString", "internal/bytealg.abigen_runtime_cmpstring"], unfollowed := true, recurses := true, named := ["internal/bytealg.MaxLen", "unicode/utf8.first", "unicode/utf8.acceptRanges"], apart := false, laid := [("unicode/utf8.acceptRanges", laid_unicode_utf8_acceptRanges), ("unicode/utf8.first", laid_unicode_utf8_first)] }
def MacroGroupsSaid : Prop := macroGroupsRow.holds Tryd.pinned (OpenSpec.ofChange macroGroupsSpec)

/-- ITS FALSE NEIGHBOUR: 'it returns false'. Refute it at one input. -/
def macroGroupsWrong : ChangeSpec := { name := "macroGroups", fn := fun _ => fun
  | [d1, d2, d3] => { results := [.lit (.bool false)], args := [d1, d2, d3] }
  | _ => none }
def MacroGroupsWrongFalsely : Prop := macroGroupsRow.holds Tryd.pinned (OpenSpec.ofChange macroGroupsWrong)

/-- 'stetlaw07.MacroFills': WHATEVER THE INPUT: true; the input reads as it did. -/
def macroFillsSpec : ChangeSpec := { name := "macroFills", fn := fun _ => fun
  | [d1, d2] => { results := [.lit (.bool true)], args := [d1, d2] }
  | _ => none }
def macroFillsRow : OpenClaim := { program := "ytjneeikkakekjaadoor", sum := "9ce654fa65c6ec911ed8bd528f7e9fbcb76a2733bdc577d88460c7b532112f1c", func := "stet/stetlaw07.MacroFills", spec := "macroFills", inPlace := ["internal/abi.NoEscape", "internal/bytealg.IndexByteString", "internal/bytealg.IndexString", "internal/bytealg.abigen_runtime_cmpstring"], unfollowed := true, recurses := true, named := ["unicode/utf8.first", "unicode/utf8.acceptRanges", "internal/bytealg.MaxLen"], apart := false, laid := [("unicode/utf8.acceptRanges", laid_unicode_utf8_acceptRanges), ("unicode/utf8.first", laid_unicode_utf8_first)] }
def MacroFillsSaid : Prop := macroFillsRow.holds Tryd.pinned (OpenSpec.ofChange macroFillsSpec)

/-- ITS FALSE NEIGHBOUR: 'it returns false'. Refute it at one input. -/
def macroFillsWrong : ChangeSpec := { name := "macroFills", fn := fun _ => fun
  | [d1, d2] => { results := [.lit (.bool false)], args := [d1, d2] }
  | _ => none }
def MacroFillsWrongFalsely : Prop := macroFillsRow.holds Tryd.pinned (OpenSpec.ofChange macroFillsWrong)

/-- 'stetlaw07.MacroDoes': WHATEVER THE INPUT: true; the input reads as it did. -/
def macroDoesSpec : ChangeSpec := { name := "macroDoes", fn := fun _ => fun
  | [d1, d2] => { results := [.lit (.bool true)], args := [d1, d2] }
  | _ => none }
def macroDoesRow : OpenClaim := { program := "ytjneeikkakekjaadoor", sum := "9ce654fa65c6ec911ed8bd528f7e9fbcb76a2733bdc577d88460c7b532112f1c", func := "stet/stetlaw07.MacroDoes", spec := "macroDoes", inPlace := ["internal/bytealg.abigen_runtime_cmpstring", "internal/abi.NoEscape", "internal/bytealg.IndexByteString", "internal/bytealg.IndexString"], unfollowed := true, recurses := true, named := ["internal/bytealg.MaxLen", "unicode/utf8.first", "unicode/utf8.acceptRanges"], apart := false, laid := [("unicode/utf8.acceptRanges", laid_unicode_utf8_acceptRanges), ("unicode/utf8.first", laid_unicode_utf8_first)] }
def MacroDoesSaid : Prop := macroDoesRow.holds Tryd.pinned (OpenSpec.ofChange macroDoesSpec)

/-- ITS FALSE NEIGHBOUR: 'it returns false'. Refute it at one input. -/
def macroDoesWrong : ChangeSpec := { name := "macroDoes", fn := fun _ => fun
  | [d1, d2] => { results := [.lit (.bool false)], args := [d1, d2] }
  | _ => none }
def MacroDoesWrongFalsely : Prop := macroDoesRow.holds Tryd.pinned (OpenSpec.ofChange macroDoesWrong)

/-- 'stetlaw07.MacroWithin': WHATEVER THE INPUT: true; the input reads as it did. -/
def macroWithinSpec : ChangeSpec := { name := "macroWithin", fn := fun _ => fun
  | [d] => { results := [.lit (.bool true)], args := [d] }
  | _ => none }
def macroWithinRow : OpenClaim := { program := "ytjneeikkakekjaadoor", sum := "9ce654fa65c6ec911ed8bd528f7e9fbcb76a2733bdc577d88460c7b532112f1c", func := "stet/stetlaw07.MacroWithin", spec := "macroWithin", inPlace := ["internal/abi.NoEscape", "internal/bytealg.IndexByteString", "internal/bytealg.IndexString", "internal/bytealg.abigen_runtime_cmpstring"], unfollowed := true, recurses := true, named := ["internal/bytealg.MaxLen", "unicode/utf8.first", "unicode/utf8.acceptRanges"], apart := false, laid := [("unicode/utf8.acceptRanges", laid_unicode_utf8_acceptRanges), ("unicode/utf8.first", laid_unicode_utf8_first)] }
def MacroWithinSaid : Prop := macroWithinRow.holds Tryd.pinned (OpenSpec.ofChange macroWithinSpec)

/-- ITS FALSE NEIGHBOUR: 'it returns false'. Refute it at one input. -/
def macroWithinWrong : ChangeSpec := { name := "macroWithin", fn := fun _ => fun
  | [d] => { results := [.lit (.bool false)], args := [d] }
  | _ => none }
def MacroWithinWrongFalsely : Prop := macroWithinRow.holds Tryd.pinned (OpenSpec.ofChange macroWithinWrong)

/-- 'stetlaw07.MacroFlat': WHATEVER THE INPUT: true; the input reads as it did. -/
def macroFlatSpec : ChangeSpec := { name := "macroFlat", fn := fun _ => fun
  | [d1, d2] => { results := [.lit (.bool true)], args := [d1, d2] }
  | _ => none }
def macroFlatRow : OpenClaim := { program := "ytjneeikkakekjaadoor", sum := "9ce654fa65c6ec911ed8bd528f7e9fbcb76a2733bdc577d88460c7b532112f1c", func := "stet/stetlaw07.MacroFlat", spec := "macroFlat", inPlace := ["internal/abi.NoEscape", "internal/bytealg.IndexByteString", "internal/bytealg.IndexString", "internal/bytealg.abigen_runtime_cmpstring"], unfollowed := true, recurses := true, named := ["unicode/utf8.first", "unicode/utf8.acceptRanges", "internal/bytealg.MaxLen"], apart := false, laid := [("unicode/utf8.acceptRanges", laid_unicode_utf8_acceptRanges), ("unicode/utf8.first", laid_unicode_utf8_first)] }
def MacroFlatSaid : Prop := macroFlatRow.holds Tryd.pinned (OpenSpec.ofChange macroFlatSpec)

/-- ITS FALSE NEIGHBOUR: 'it returns false'. Refute it at one input. -/
def macroFlatWrong : ChangeSpec := { name := "macroFlat", fn := fun _ => fun
  | [d1, d2] => { results := [.lit (.bool false)], args := [d1, d2] }
  | _ => none }
def MacroFlatWrongFalsely : Prop := macroFlatRow.holds Tryd.pinned (OpenSpec.ofChange macroFlatWrong)

/-- 'stetlaw07.MacroEmpty': WHATEVER THE INPUT: true; the input reads as it did. -/
def macroEmptySpec : ChangeSpec := { name := "macroEmpty", fn := fun _ => fun
  | [d1, d2, d3] => { results := [.lit (.bool true)], args := [d1, d2, d3] }
  | _ => none }
def macroEmptyRow : OpenClaim := { program := "ytjneeikkakekjaadoor", sum := "9ce654fa65c6ec911ed8bd528f7e9fbcb76a2733bdc577d88460c7b532112f1c", func := "stet/stetlaw07.MacroEmpty", spec := "macroEmpty", inPlace := ["internal/abi.NoEscape", "internal/bytealg.IndexByteString", "internal/bytealg.IndexString", "internal/bytealg.abigen_runtime_cmpstring"], unfollowed := true, recurses := true, named := ["internal/bytealg.MaxLen", "unicode/utf8.first", "unicode/utf8.acceptRanges"], apart := false, laid := [("unicode/utf8.acceptRanges", laid_unicode_utf8_acceptRanges), ("unicode/utf8.first", laid_unicode_utf8_first)] }
def MacroEmptySaid : Prop := macroEmptyRow.holds Tryd.pinned (OpenSpec.ofChange macroEmptySpec)

/-- ITS FALSE NEIGHBOUR: 'it returns false'. Refute it at one input. -/
def macroEmptyWrong : ChangeSpec := { name := "macroEmpty", fn := fun _ => fun
  | [d1, d2, d3] => { results := [.lit (.bool false)], args := [d1, d2, d3] }
  | _ => none }
def MacroEmptyWrongFalsely : Prop := macroEmptyRow.holds Tryd.pinned (OpenSpec.ofChange macroEmptyWrong)

/- THE SECOND FORM. 'bulk': how many values and letters a reading holds, each counted each time it is reached (what is shared counts as often as it is met; a slice's spare places count too). A statement '..UptoSaid' is the law's where the arguments, and the package variables that the reading takes, are together of bulk at most 1048576: NARROWER than '..Said'. Prove '..Said' where nothing that the law and all that it calls make is longer than what came in: it says more and counts as full. Else prove '..UptoSaid'. A law counts once. -/
mutual
def uptoBulk {H : Type} : DataW H → Nat
  | .lit (.string bytes) => bytes.length + 1
  | .lit _ => 1
  | .nil => 1
  | .ptr d => uptoBulk d + 1
  | .slice elems spare => uptoBulkAll elems + uptoBulkAll spare + 1
  | .agg parts => uptoBulkAll parts + 1
  | .iface _ d => uptoBulk d + 1
  | .map entries => uptoBulkEntries entries + 1
  | .held _ => 1
def uptoBulkAll {H : Type} : List (DataW H) → Nat
  | [] => 0
  | d :: r => uptoBulk d + uptoBulkAll r
def uptoBulkEntries {H : Type} : List (Lit × DataW H) → Nat
  | [] => 0
  | x :: r => uptoBulkEntry x + uptoBulkEntries r
def uptoBulkEntry {H : Type} : Lit × DataW H → Nat
  | (.string bytes, d) => bytes.length + uptoBulk d + 1
  | (_, d) => uptoBulk d + 1
 end
def uptoSmall : (H : Type) → List (DataW H) → Bool := fun _ ds => decide (uptoBulkAll ds ≤ 1048576)
def OpenSpec.upto (s : _root_.Go.ChangeSpec) : _root_.Go.OpenSpec := { _root_.Go.OpenSpec.ofChange s with cond := some uptoSmall }

/-- 'stetlaw07.MacroGroups', WHERE WHAT IT READS IS OF BULK AT MOST 1048576: true; the input reads as it did. -/
def macroGroupsUptoRow : OpenClaim := { program := "ytjneeikkakekjaadoor", sum := "9ce654fa65c6ec911ed8bd528f7e9fbcb76a2733bdc577d88460c7b532112f1c", func := "stet/stetlaw07.MacroGroups", spec := "macroGroups", inPlace := ["internal/abi.NoEscape", "internal/bytealg.IndexByteString", "internal/bytealg.IndexString", "internal/bytealg.abigen_runtime_cmpstring"], unfollowed := true, recurses := true, named := ["internal/bytealg.MaxLen", "unicode/utf8.first", "unicode/utf8.acceptRanges"], apart := false, laid := [("unicode/utf8.acceptRanges", laid_unicode_utf8_acceptRanges), ("unicode/utf8.first", laid_unicode_utf8_first)], narrowed := true }
def MacroGroupsUptoSaid : Prop := macroGroupsUptoRow.holds Tryd.pinned (OpenSpec.upto macroGroupsSpec)

/-- 'stetlaw07.MacroFills', WHERE WHAT IT READS IS OF BULK AT MOST 1048576: true; the input reads as it did. -/
def macroFillsUptoRow : OpenClaim := { program := "ytjneeikkakekjaadoor", sum := "9ce654fa65c6ec911ed8bd528f7e9fbcb76a2733bdc577d88460c7b532112f1c", func := "stet/stetlaw07.MacroFills", spec := "macroFills", inPlace := ["internal/abi.NoEscape", "internal/bytealg.IndexByteString", "internal/bytealg.IndexString", "internal/bytealg.abigen_runtime_cmpstring"], unfollowed := true, recurses := true, named := ["unicode/utf8.first", "unicode/utf8.acceptRanges", "internal/bytealg.MaxLen"], apart := false, laid := [("unicode/utf8.acceptRanges", laid_unicode_utf8_acceptRanges), ("unicode/utf8.first", laid_unicode_utf8_first)], narrowed := true }
def MacroFillsUptoSaid : Prop := macroFillsUptoRow.holds Tryd.pinned (OpenSpec.upto macroFillsSpec)

/-- 'stetlaw07.MacroDoes', WHERE WHAT IT READS IS OF BULK AT MOST 1048576: true; the input reads as it did. -/
def macroDoesUptoRow : OpenClaim := { program := "ytjneeikkakekjaadoor", sum := "9ce654fa65c6ec911ed8bd528f7e9fbcb76a2733bdc577d88460c7b532112f1c", func := "stet/stetlaw07.MacroDoes", spec := "macroDoes", inPlace := ["internal/bytealg.abigen_runtime_cmpstring", "internal/abi.NoEscape", "internal/bytealg.IndexByteString", "internal/bytealg.IndexString"], unfollowed := true, recurses := true, named := ["internal/bytealg.MaxLen", "unicode/utf8.first", "unicode/utf8.acceptRanges"], apart := false, laid := [("unicode/utf8.acceptRanges", laid_unicode_utf8_acceptRanges), ("unicode/utf8.first", laid_unicode_utf8_first)], narrowed := true }
def MacroDoesUptoSaid : Prop := macroDoesUptoRow.holds Tryd.pinned (OpenSpec.upto macroDoesSpec)

/-- 'stetlaw07.MacroWithin', WHERE WHAT IT READS IS OF BULK AT MOST 1048576: true; the input reads as it did. -/
def macroWithinUptoRow : OpenClaim := { program := "ytjneeikkakekjaadoor", sum := "9ce654fa65c6ec911ed8bd528f7e9fbcb76a2733bdc577d88460c7b532112f1c", func := "stet/stetlaw07.MacroWithin", spec := "macroWithin", inPlace := ["internal/abi.NoEscape", "internal/bytealg.IndexByteString", "internal/bytealg.IndexString", "internal/bytealg.abigen_runtime_cmpstring"], unfollowed := true, recurses := true, named := ["internal/bytealg.MaxLen", "unicode/utf8.first", "unicode/utf8.acceptRanges"], apart := false, laid := [("unicode/utf8.acceptRanges", laid_unicode_utf8_acceptRanges), ("unicode/utf8.first", laid_unicode_utf8_first)], narrowed := true }
def MacroWithinUptoSaid : Prop := macroWithinUptoRow.holds Tryd.pinned (OpenSpec.upto macroWithinSpec)

/-- 'stetlaw07.MacroFlat', WHERE WHAT IT READS IS OF BULK AT MOST 1048576: true; the input reads as it did. -/
def macroFlatUptoRow : OpenClaim := { program := "ytjneeikkakekjaadoor", sum := "9ce654fa65c6ec911ed8bd528f7e9fbcb76a2733bdc577d88460c7b532112f1c", func := "stet/stetlaw07.MacroFlat", spec := "macroFlat", inPlace := ["internal/abi.NoEscape", "internal/bytealg.IndexByteString", "internal/bytealg.IndexString", "internal/bytealg.abigen_runtime_cmpstring"], unfollowed := true, recurses := true, named := ["unicode/utf8.first", "unicode/utf8.acceptRanges", "internal/bytealg.MaxLen"], apart := false, laid := [("unicode/utf8.acceptRanges", laid_unicode_utf8_acceptRanges), ("unicode/utf8.first", laid_unicode_utf8_first)], narrowed := true }
def MacroFlatUptoSaid : Prop := macroFlatUptoRow.holds Tryd.pinned (OpenSpec.upto macroFlatSpec)

/-- 'stetlaw07.MacroEmpty', WHERE WHAT IT READS IS OF BULK AT MOST 1048576: true; the input reads as it did. -/
def macroEmptyUptoRow : OpenClaim := { program := "ytjneeikkakekjaadoor", sum := "9ce654fa65c6ec911ed8bd528f7e9fbcb76a2733bdc577d88460c7b532112f1c", func := "stet/stetlaw07.MacroEmpty", spec := "macroEmpty", inPlace := ["internal/abi.NoEscape", "internal/bytealg.IndexByteString", "internal/bytealg.IndexString", "internal/bytealg.abigen_runtime_cmpstring"], unfollowed := true, recurses := true, named := ["internal/bytealg.MaxLen", "unicode/utf8.first", "unicode/utf8.acceptRanges"], apart := false, laid := [("unicode/utf8.acceptRanges", laid_unicode_utf8_acceptRanges), ("unicode/utf8.first", laid_unicode_utf8_first)], narrowed := true }
def MacroEmptyUptoSaid : Prop := macroEmptyUptoRow.holds Tryd.pinned (OpenSpec.upto macroEmptySpec)

end Rows
end Go.Proofs.YtjneeikkakekjaaDoor

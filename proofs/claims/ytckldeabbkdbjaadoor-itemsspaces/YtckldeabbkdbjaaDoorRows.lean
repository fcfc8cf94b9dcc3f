/-
  NARROWER THAN 'FOR EVERY INPUT', by the rows' own cells (each row's printed sentence says how): ItemsTell: laid · ItemsTexts: laid · ItemsBack: laid · ItemsJoin: laid · ItemsSpaces: laid.
  DERIVED. THE GIVEN ROWS OF THIS SEAT. 5 by the template 'for every input the law returns true; each argument reads behind the call as it read before'; 0 by the template 'total and deterministic' (their statements: YtckldeabbkdbjaaDoorTotals.lean).
  GIVEN WITH THE SEED: the statements are not yours to turn. If you find one false, say at which input.
  Laid BY PROGRAM, IN A SANDBOX (cutbox-rows.mjs): the forced cells as the released guide's own fill.sh prints them over the translation 355686f2dc2bfc4f… (all of the seat's roots in one cut). By AI agents, Wed Nov 11 2026. No macro, syntax, notation, axiom, sorry.
-/
import Derived.Test.YtckldeabbkdbjaaDoorChecked
import GoSem.PinnedTables
import GoSem.Claim
import GoSem.ClaimJoined
import GoSem.ClaimMapViews
import Derived.JoinedTies
import Derived.KernelRfl
namespace Go.Proofs.YtckldeabbkdbjaaDoor
/- THE CELL 'sum', in the pinned program and in every row, IS THE sha256 OF THE DUMP (.gsa) THAT YtckldeabbkdbjaaDoorProg.lean LOADS. Nothing in Lean hashes anything: it is a label: what it is worth is what the hold of that sum in a sandbox is worth. -/
noncomputable def Tryd.pinned : Pinned := { name := "ytckldeabbkdbjaadoor", sum := "355686f2dc2bfc4f08d5ddf1a0d7f23f60430b25f61c801a38ea1af1623bb50b", checked := Tryd.checked }
namespace Rows
def none {H : Type} : Left H := { results := [], args := [] }

/- WHAT THE LISTED PACKAGE-LEVEL VARIABLES READ AS WHEN THE CALL BEGINS. Each datum BY PROGRAM (the guide's laid-datum.mjs) off the statement by which the dump's own 'gosem.cut.vars' lays the variable. In a bare row this is a premise. The card (YtckldeabbkdbjaaDoorCards.lean) ties it to the program's text. -/
def laid_unicode_utf8_acceptRanges {H : Type} : DataW H := .agg [.agg [.lit (.int .u8 128), .lit (.int .u8 191)], .agg [.lit (.int .u8 160), .lit (.int .u8 191)], .agg [.lit (.int .u8 128), .lit (.int .u8 159)], .agg [.lit (.int .u8 144), .lit (.int .u8 191)], .agg [.lit (.int .u8 128), .lit (.int .u8 143)], .agg [.lit (.int .u8 0), .lit (.int .u8 0)], .agg [.lit (.int .u8 0), .lit (.int .u8 0)], .agg [.lit (.int .u8 0), .lit (.int .u8 0)], .agg [.lit (.int .u8 0), .lit (.int .u8 0)], .agg [.lit (.int .u8 0), .lit (.int .u8 0)], .agg [.lit (.int .u8 0), .lit (.int .u8 0)], .agg [.lit (.int .u8 0), .lit (.int .u8 0)], .agg [.lit (.int .u8 0), .lit (.int .u8 0)], .agg [.lit (.int .u8 0), .lit (.int .u8 0)], .agg [.lit (.int .u8 0), .lit (.int .u8 0)], .agg [.lit (.int .u8 0), .lit (.int .u8 0)]]
/-- One of Go's own tables, pinned by name: the form's constant. -/
def laid_unicode_utf8_first : DataW Unit := Go.Pinned.utf8First

/-- 'stetlaw09.ItemsTell': WHATEVER THE INPUT: true; the input reads as it did. -/
def itemsTellSpec : ChangeSpec := { name := "itemsTell", fn := fun _ => fun
  | [d1, d2] => { results := [.lit (.bool true)], args := [d1, d2] }
  | _ => none }
def itemsTellRow : OpenClaim := { program := "ytckldeabbkdbjaadoor", sum := "355686f2dc2bfc4f08d5ddf1a0d7f23f60430b25f61c801a38ea1af1623bb50b", func := "stet/stetlaw09.ItemsTell", spec := "itemsTell", inPlace := ["internal/abi.NoEscape", "internal/bytealg.IndexByteString", "internal/bytealg.IndexString"], unfollowed := true, recurses := true, named := ["unicode/utf8.first", "unicode/utf8.acceptRanges", "internal/bytealg.MaxLen"], apart := false, laid := [("unicode/utf8.acceptRanges", laid_unicode_utf8_acceptRanges), ("unicode/utf8.first", laid_unicode_utf8_first)] }
def ItemsTellSaid : Prop := itemsTellRow.holds Tryd.pinned (OpenSpec.ofChange itemsTellSpec)

/-- ITS FALSE NEIGHBOUR: 'it returns false'. Refute it at one input. -/
def itemsTellWrong : ChangeSpec := { name := "itemsTell", fn := fun _ => fun
  | [d1, d2] => { results := [.lit (.bool false)], args := [d1, d2] }
  | _ => none }
def ItemsTellWrongFalsely : Prop := itemsTellRow.holds Tryd.pinned (OpenSpec.ofChange itemsTellWrong)

/-- 'stetlaw09.ItemsTexts': WHATEVER THE INPUT: true; the input reads as it did. -/
def itemsTextsSpec : ChangeSpec := { name := "itemsTexts", fn := fun _ => fun
  | [d] => { results := [.lit (.bool true)], args := [d] }
  | _ => none }
def itemsTextsRow : OpenClaim := { program := "ytckldeabbkdbjaadoor", sum := "355686f2dc2bfc4f08d5ddf1a0d7f23f60430b25f61c801a38ea1af1623bb50b", func := "stet/stetlaw09.ItemsTexts", spec := "itemsTexts", inPlace := ["internal/abi.NoEscape", "internal/bytealg.IndexByteString", "internal/bytealg.IndexString"], unfollowed := true, recurses := true, named := ["internal/bytealg.MaxLen", "unicode/utf8.first", "unicode/utf8.acceptRanges"], apart := false, laid := [("unicode/utf8.acceptRanges", laid_unicode_utf8_acceptRanges), ("unicode/utf8.first", laid_unicode_utf8_first)] }
def ItemsTextsSaid : Prop := itemsTextsRow.holds Tryd.pinned (OpenSpec.ofChange itemsTextsSpec)

/-- ITS FALSE NEIGHBOUR: 'it returns false'. Refute it at one input. -/
def itemsTextsWrong : ChangeSpec := { name := "itemsTexts", fn := fun _ => fun
  | [d] => { results := [.lit (.bool false)], args := [d] }
  | _ => none }
def ItemsTextsWrongFalsely : Prop := itemsTextsRow.holds Tryd.pinned (OpenSpec.ofChange itemsTextsWrong)

/-- 'stetlaw09.ItemsBack': WHATEVER THE INPUT: true; the input reads as it did. -/
def itemsBackSpec : ChangeSpec := { name := "itemsBack", fn := fun _ => fun
  | [d1, d2] => { results := [.lit (.bool true)], args := [d1, d2] }
  | _ => none }
def itemsBackRow : OpenClaim := { program := "ytckldeabbkdbjaadoor", sum := "355686f2dc2bfc4f08d5ddf1a0d7f23f60430b25f61c801a38ea1af1623bb50b", func := "stet/stetlaw09.ItemsBack", spec := "itemsBack", inPlace := ["internal/abi.NoEscape", "internal/bytealg.IndexByteString", "internal/bytealg.IndexString"], unfollowed := true, recurses := true, named := ["unicode/utf8.first", "unicode/utf8.acceptRanges", "internal/bytealg.MaxLen"], apart := false, laid := [("unicode/utf8.acceptRanges", laid_unicode_utf8_acceptRanges), ("unicode/utf8.first", laid_unicode_utf8_first)] }
def ItemsBackSaid : Prop := itemsBackRow.holds Tryd.pinned (OpenSpec.ofChange itemsBackSpec)

/-- ITS FALSE NEIGHBOUR: 'it returns false'. Refute it at one input. -/
def itemsBackWrong : ChangeSpec := { name := "itemsBack", fn := fun _ => fun
  | [d1, d2] => { results := [.lit (.bool false)], args := [d1, d2] }
  | _ => none }
def ItemsBackWrongFalsely : Prop := itemsBackRow.holds Tryd.pinned (OpenSpec.ofChange itemsBackWrong)

/-- 'stetlaw09.ItemsJoin': WHATEVER THE INPUT: true; the input reads as it did. -/
def itemsJoinSpec : ChangeSpec := { name := "itemsJoin", fn := fun _ => fun
  | [d1, d2] => { results := [.lit (.bool true)], args := [d1, d2] }
  | _ => none }
def itemsJoinRow : OpenClaim := { program := "ytckldeabbkdbjaadoor", sum := "355686f2dc2bfc4f08d5ddf1a0d7f23f60430b25f61c801a38ea1af1623bb50b", func := "stet/stetlaw09.ItemsJoin", spec := "itemsJoin", inPlace := ["internal/abi.NoEscape", "internal/bytealg.IndexByteString", "internal/bytealg.IndexString"], unfollowed := true, recurses := true, named := ["internal/bytealg.MaxLen", "unicode/utf8.first", "unicode/utf8.acceptRanges"], apart := false, laid := [("unicode/utf8.acceptRanges", laid_unicode_utf8_acceptRanges), ("unicode/utf8.first", laid_unicode_utf8_first)] }
def ItemsJoinSaid : Prop := itemsJoinRow.holds Tryd.pinned (OpenSpec.ofChange itemsJoinSpec)

/-- ITS FALSE NEIGHBOUR: 'it returns false'. Refute it at one input. -/
def itemsJoinWrong : ChangeSpec := { name := "itemsJoin", fn := fun _ => fun
  | [d1, d2] => { results := [.lit (.bool false)], args := [d1, d2] }
  | _ => none }
def ItemsJoinWrongFalsely : Prop := itemsJoinRow.holds Tryd.pinned (OpenSpec.ofChange itemsJoinWrong)

/-- 'stetlaw09.ItemsSpaces': WHATEVER THE INPUT: true; the input reads as it did. -/
def itemsSpacesSpec : ChangeSpec := { name := "itemsSpaces", fn := fun _ => fun
  | [d1, d2] => { results := [.lit (.bool true)], args := [d1, d2] }
  | _ => none }
def itemsSpacesRow : OpenClaim := { program := "ytckldeabbkdbjaadoor", sum := "355686f2dc2bfc4f08d5ddf1a0d7f23f60430b25f61c801a38ea1af1623bb50b", func := "stet/stetlaw09.ItemsSpaces", spec := "itemsSpaces", inPlace := ["internal/abi.NoEscape", "internal/bytealg.IndexByteString", "internal/bytealg.IndexString"], unfollowed := true, recurses := true, named := ["internal/bytealg.MaxLen", "unicode/utf8.first", "unicode/utf8.acceptRanges"], apart := false, laid := [("unicode/utf8.acceptRanges", laid_unicode_utf8_acceptRanges), ("unicode/utf8.first", laid_unicode_utf8_first)] }
def ItemsSpacesSaid : Prop := itemsSpacesRow.holds Tryd.pinned (OpenSpec.ofChange itemsSpacesSpec)

/-- ITS FALSE NEIGHBOUR: 'it returns false'. Refute it at one input. -/
def itemsSpacesWrong : ChangeSpec := { name := "itemsSpaces", fn := fun _ => fun
  | [d1, d2] => { results := [.lit (.bool false)], args := [d1, d2] }
  | _ => none }
def ItemsSpacesWrongFalsely : Prop := itemsSpacesRow.holds Tryd.pinned (OpenSpec.ofChange itemsSpacesWrong)

/- THE SECOND FORM. 'bulk': how many values and letters a reading holds, each counted each time it is reached (what is shared counts as often as it is met; a slice's spare places count too). A statement '..UptoSaid' is the law's where the arguments, and the package variables that the reading takes, are together of bulk at most 1048576: NARROWER than '..Said'. Prove '..Said' where nothing that the law and all that it calls make is longer than what came in: it says more and counts as full. Else prove '..UptoSaid'. A law counts once. -/
mutual
def uptoBulk {H : Type} : DataW H → Nat
  | .lit (.string bytes) => bytes.length + 1
  | .lit _ => 1
  | .nil => 1
  | .ptr d => uptoBulk d + 1
  | .slice elems spare => uptoBulkAll elems + uptoBulkAll spare + 1
  | .agg parts => uptoBulkAll parts + 1
  | .iface _ d => uptoBulk d + 1
  | .map entries => uptoBulkEntries entries + 1
  | .held _ => 1
def uptoBulkAll {H : Type} : List (DataW H) → Nat
  | [] => 0
  | d :: r => uptoBulk d + uptoBulkAll r
def uptoBulkEntries {H : Type} : List (Lit × DataW H) → Nat
  | [] => 0
  | x :: r => uptoBulkEntry x + uptoBulkEntries r
def uptoBulkEntry {H : Type} : Lit × DataW H → Nat
  | (.string bytes, d) => bytes.length + uptoBulk d + 1
  | (_, d) => uptoBulk d + 1
 end
def uptoSmall : (H : Type) → List (DataW H) → Bool := fun _ ds => decide (uptoBulkAll ds ≤ 1048576)
def OpenSpec.upto (s : _root_.Go.ChangeSpec) : _root_.Go.OpenSpec := { _root_.Go.OpenSpec.ofChange s with cond := some uptoSmall }

/-- 'stetlaw09.ItemsTell', WHERE WHAT IT READS IS OF BULK AT MOST 1048576: true; the input reads as it did. -/
def itemsTellUptoRow : OpenClaim := { program := "ytckldeabbkdbjaadoor", sum := "355686f2dc2bfc4f08d5ddf1a0d7f23f60430b25f61c801a38ea1af1623bb50b", func := "stet/stetlaw09.ItemsTell", spec := "itemsTell", inPlace := ["internal/abi.NoEscape", "internal/bytealg.IndexByteString", "internal/bytealg.IndexString"], unfollowed := true, recurses := true, named := ["unicode/utf8.first", "unicode/utf8.acceptRanges", "internal/bytealg.MaxLen"], apart := false, laid := [("unicode/utf8.acceptRanges", laid_unicode_utf8_acceptRanges), ("unicode/utf8.first", laid_unicode_utf8_first)], narrowed := true }
def ItemsTellUptoSaid : Prop := itemsTellUptoRow.holds Tryd.pinned (OpenSpec.upto itemsTellSpec)

/-- 'stetlaw09.ItemsTexts', WHERE WHAT IT READS IS OF BULK AT MOST 1048576: true; the input reads as it did. -/
def itemsTextsUptoRow : OpenClaim := { program := "ytckldeabbkdbjaadoor", sum := "355686f2dc2bfc4f08d5ddf1a0d7f23f60430b25f61c801a38ea1af1623bb50b", func := "stet/stetlaw09.ItemsTexts", spec := "itemsTexts", inPlace := ["internal/abi.NoEscape", "internal/bytealg.IndexByteString", "internal/bytealg.IndexString"], unfollowed := true, recurses := true, named := ["internal/bytealg.MaxLen", "unicode/utf8.first", "unicode/utf8.acceptRanges"], apart := false, laid := [("unicode/utf8.acceptRanges", laid_unicode_utf8_acceptRanges), ("unicode/utf8.first", laid_unicode_utf8_first)], narrowed := true }
def ItemsTextsUptoSaid : Prop := itemsTextsUptoRow.holds Tryd.pinned (OpenSpec.upto itemsTextsSpec)

/-- 'stetlaw09.ItemsBack', WHERE WHAT IT READS IS OF BULK AT MOST 1048576: true; the input reads as it did. -/
def itemsBackUptoRow : OpenClaim := { program := "ytckldeabbkdbjaadoor", sum := "355686f2dc2bfc4f08d5ddf1a0d7f23f60430b25f61c801a38ea1af1623bb50b", func := "stet/stetlaw09.ItemsBack", spec := "itemsBack", inPlace := ["internal/abi.NoEscape", "internal/bytealg.IndexByteString", "internal/bytealg.IndexString"], unfollowed := true, recurses := true, named := ["unicode/utf8.first", "unicode/utf8.acceptRanges", "internal/bytealg.MaxLen"], apart := false, laid := [("unicode/utf8.acceptRanges", laid_unicode_utf8_acceptRanges), ("unicode/utf8.first", laid_unicode_utf8_first)], narrowed := true }
def ItemsBackUptoSaid : Prop := itemsBackUptoRow.holds Tryd.pinned (OpenSpec.upto itemsBackSpec)

/-- 'stetlaw09.ItemsJoin', WHERE WHAT IT READS IS OF BULK AT MOST 1048576: true; the input reads as it did. -/
def itemsJoinUptoRow : OpenClaim := { program := "ytckldeabbkdbjaadoor", sum := "355686f2dc2bfc4f08d5ddf1a0d7f23f60430b25f61c801a38ea1af1623bb50b", func := "stet/stetlaw09.ItemsJoin", spec := "itemsJoin", inPlace := ["internal/abi.NoEscape", "internal/bytealg.IndexByteString", "internal/bytealg.IndexString"], unfollowed := true, recurses := true, named := ["internal/bytealg.MaxLen", "unicode/utf8.first", "unicode/utf8.acceptRanges"], apart := false, laid := [("unicode/utf8.acceptRanges", laid_unicode_utf8_acceptRanges), ("unicode/utf8.first", laid_unicode_utf8_first)], narrowed := true }
def ItemsJoinUptoSaid : Prop := itemsJoinUptoRow.holds Tryd.pinned (OpenSpec.upto itemsJoinSpec)

/-- 'stetlaw09.ItemsSpaces', WHERE WHAT IT READS IS OF BULK AT MOST 1048576: true; the input reads as it did. -/
def itemsSpacesUptoRow : OpenClaim := { program := "ytckldeabbkdbjaadoor", sum := "355686f2dc2bfc4f08d5ddf1a0d7f23f60430b25f61c801a38ea1af1623bb50b", func := "stet/stetlaw09.ItemsSpaces", spec := "itemsSpaces", inPlace := ["internal/abi.NoEscape", "internal/bytealg.IndexByteString", "internal/bytealg.IndexString"], unfollowed := true, recurses := true, named := ["internal/bytealg.MaxLen", "unicode/utf8.first", "unicode/utf8.acceptRanges"], apart := false, laid := [("unicode/utf8.acceptRanges", laid_unicode_utf8_acceptRanges), ("unicode/utf8.first", laid_unicode_utf8_first)], narrowed := true }
def ItemsSpacesUptoSaid : Prop := itemsSpacesUptoRow.holds Tryd.pinned (OpenSpec.upto itemsSpacesSpec)

end Rows
end Go.Proofs.YtckldeabbkdbjaaDoor

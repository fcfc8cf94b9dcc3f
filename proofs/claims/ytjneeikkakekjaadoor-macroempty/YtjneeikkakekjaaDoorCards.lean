/-
  DERIVED. GIVEN WITH THE SEED: THE CARDS: each row of YtjneeikkakekjaaDoorRows.lean that lists a variable, with what it lists TIED to the program's text (the seventh form; the later family's looks); each row that meets fmt, with fmt's text TOLD by the authors' own Lean function (tested against real Go, not proved from fmt's source: count such statements apart). THE CARD IS WHAT COUNTS. Prove the row's statement (the work); the ties are given (YtjneeikkakekjaaDoorTie.lean); close each card by the builder's one call (the guide's Derived/Test/ToyasCard.lean, 'card_holds'). Laid BY PROGRAM, IN A SANDBOX (cutbox-door.mjs). By AI agents, Wed Nov 11 2026. No macro, syntax, notation, axiom, sorry.
-/
import Derived.Test.YtjneeikkakekjaaDoorRows
import GoSem.ClaimSeven
namespace Go.Proofs.YtjneeikkakekjaaDoor
namespace Rows

/-- THE TIED CARD OF 'stetlaw07.MacroGroups'. -/
def macroGroupsCard : Claim7 := { stood := { row := macroGroupsRow, standIns := [], harness := (true, "dd51aaf70607cb9c2741e9a8a7f31685aec6ea24d28b2c17dfb2246a7054cecc"), looks := false }, kinds := [], alts := [], laidByText := true, laidKinds := [.data, .pinned], laidTests := true, laidLooks := .later }
def MacroGroupsCardSaid : Prop := Claim7.holds Tryd.pinned (.plain (OpenSpec.ofChange macroGroupsSpec)) macroGroupsCard

/-- THE TIED CARD OF 'stetlaw07.MacroFills'. -/
def macroFillsCard : Claim7 := { stood := { row := macroFillsRow, standIns := [], harness := (true, "dd51aaf70607cb9c2741e9a8a7f31685aec6ea24d28b2c17dfb2246a7054cecc"), looks := false }, kinds := [], alts := [], laidByText := true, laidKinds := [.data, .pinned], laidTests := true, laidLooks := .later }
def MacroFillsCardSaid : Prop := Claim7.holds Tryd.pinned (.plain (OpenSpec.ofChange macroFillsSpec)) macroFillsCard

/-- THE TIED CARD OF 'stetlaw07.MacroDoes'. -/
def macroDoesCard : Claim7 := { stood := { row := macroDoesRow, standIns := [], harness := (true, "dd51aaf70607cb9c2741e9a8a7f31685aec6ea24d28b2c17dfb2246a7054cecc"), looks := false }, kinds := [], alts := [], laidByText := true, laidKinds := [.data, .pinned], laidTests := true, laidLooks := .later }
def MacroDoesCardSaid : Prop := Claim7.holds Tryd.pinned (.plain (OpenSpec.ofChange macroDoesSpec)) macroDoesCard

/-- THE TIED CARD OF 'stetlaw07.MacroWithin'. -/
def macroWithinCard : Claim7 := { stood := { row := macroWithinRow, standIns := [], harness := (true, "dd51aaf70607cb9c2741e9a8a7f31685aec6ea24d28b2c17dfb2246a7054cecc"), looks := false }, kinds := [], alts := [], laidByText := true, laidKinds := [.data, .pinned], laidTests := true, laidLooks := .later }
def MacroWithinCardSaid : Prop := Claim7.holds Tryd.pinned (.plain (OpenSpec.ofChange macroWithinSpec)) macroWithinCard

/-- THE TIED CARD OF 'stetlaw07.MacroFlat'. -/
def macroFlatCard : Claim7 := { stood := { row := macroFlatRow, standIns := [], harness := (true, "dd51aaf70607cb9c2741e9a8a7f31685aec6ea24d28b2c17dfb2246a7054cecc"), looks := false }, kinds := [], alts := [], laidByText := true, laidKinds := [.data, .pinned], laidTests := true, laidLooks := .later }
def MacroFlatCardSaid : Prop := Claim7.holds Tryd.pinned (.plain (OpenSpec.ofChange macroFlatSpec)) macroFlatCard

/-- THE TIED CARD OF 'stetlaw07.MacroEmpty'. -/
def macroEmptyCard : Claim7 := { stood := { row := macroEmptyRow, standIns := [], harness := (true, "dd51aaf70607cb9c2741e9a8a7f31685aec6ea24d28b2c17dfb2246a7054cecc"), looks := false }, kinds := [], alts := [], laidByText := true, laidKinds := [.data, .pinned], laidTests := true, laidLooks := .later }
def MacroEmptyCardSaid : Prop := Claim7.holds Tryd.pinned (.plain (OpenSpec.ofChange macroEmptySpec)) macroEmptyCard

/-- THE SECOND FORM's CARD OF 'stetlaw07.MacroGroups'. -/
def macroGroupsUptoCard : Claim7 := { stood := { row := macroGroupsUptoRow, standIns := [], harness := (true, "dd51aaf70607cb9c2741e9a8a7f31685aec6ea24d28b2c17dfb2246a7054cecc"), looks := false }, kinds := [], alts := [], laidByText := true, laidKinds := [.data, .pinned], laidTests := true, laidLooks := .later }
def MacroGroupsUptoCardSaid : Prop := Claim7.holds Tryd.pinned (.plain (OpenSpec.upto macroGroupsSpec)) macroGroupsUptoCard

/-- THE SECOND FORM's CARD OF 'stetlaw07.MacroFills'. -/
def macroFillsUptoCard : Claim7 := { stood := { row := macroFillsUptoRow, standIns := [], harness := (true, "dd51aaf70607cb9c2741e9a8a7f31685aec6ea24d28b2c17dfb2246a7054cecc"), looks := false }, kinds := [], alts := [], laidByText := true, laidKinds := [.data, .pinned], laidTests := true, laidLooks := .later }
def MacroFillsUptoCardSaid : Prop := Claim7.holds Tryd.pinned (.plain (OpenSpec.upto macroFillsSpec)) macroFillsUptoCard

/-- THE SECOND FORM's CARD OF 'stetlaw07.MacroDoes'. -/
def macroDoesUptoCard : Claim7 := { stood := { row := macroDoesUptoRow, standIns := [], harness := (true, "dd51aaf70607cb9c2741e9a8a7f31685aec6ea24d28b2c17dfb2246a7054cecc"), looks := false }, kinds := [], alts := [], laidByText := true, laidKinds := [.data, .pinned], laidTests := true, laidLooks := .later }
def MacroDoesUptoCardSaid : Prop := Claim7.holds Tryd.pinned (.plain (OpenSpec.upto macroDoesSpec)) macroDoesUptoCard

/-- THE SECOND FORM's CARD OF 'stetlaw07.MacroWithin'. -/
def macroWithinUptoCard : Claim7 := { stood := { row := macroWithinUptoRow, standIns := [], harness := (true, "dd51aaf70607cb9c2741e9a8a7f31685aec6ea24d28b2c17dfb2246a7054cecc"), looks := false }, kinds := [], alts := [], laidByText := true, laidKinds := [.data, .pinned], laidTests := true, laidLooks := .later }
def MacroWithinUptoCardSaid : Prop := Claim7.holds Tryd.pinned (.plain (OpenSpec.upto macroWithinSpec)) macroWithinUptoCard

/-- THE SECOND FORM's CARD OF 'stetlaw07.MacroFlat'. -/
def macroFlatUptoCard : Claim7 := { stood := { row := macroFlatUptoRow, standIns := [], harness := (true, "dd51aaf70607cb9c2741e9a8a7f31685aec6ea24d28b2c17dfb2246a7054cecc"), looks := false }, kinds := [], alts := [], laidByText := true, laidKinds := [.data, .pinned], laidTests := true, laidLooks := .later }
def MacroFlatUptoCardSaid : Prop := Claim7.holds Tryd.pinned (.plain (OpenSpec.upto macroFlatSpec)) macroFlatUptoCard

/-- THE SECOND FORM's CARD OF 'stetlaw07.MacroEmpty'. -/
def macroEmptyUptoCard : Claim7 := { stood := { row := macroEmptyUptoRow, standIns := [], harness := (true, "dd51aaf70607cb9c2741e9a8a7f31685aec6ea24d28b2c17dfb2246a7054cecc"), looks := false }, kinds := [], alts := [], laidByText := true, laidKinds := [.data, .pinned], laidTests := true, laidLooks := .later }
def MacroEmptyUptoCardSaid : Prop := Claim7.holds Tryd.pinned (.plain (OpenSpec.upto macroEmptySpec)) macroEmptyUptoCard
end Rows
end Go.Proofs.YtjneeikkakekjaaDoor

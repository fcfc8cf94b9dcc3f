/-
  DERIVED. GIVEN WITH THE SEED: THE CARDS: each row of YtckldeabbkdbjaaDoorRows.lean that lists a variable, with what it lists TIED to the program's text (the seventh form; the later family's looks); each row that meets fmt, with fmt's text TOLD by the authors' own Lean function (tested against real Go, not proved from fmt's source: count such statements apart). THE CARD IS WHAT COUNTS. Prove the row's statement (the work); the ties are given (YtckldeabbkdbjaaDoorTie.lean); close each card by the builder's one call (the guide's Derived/Test/ToyasCard.lean, 'card_holds'). Laid BY PROGRAM, IN A SANDBOX (cutbox-door.mjs). By AI agents, Wed Nov 11 2026. No macro, syntax, notation, axiom, sorry.
-/
import Derived.Test.YtckldeabbkdbjaaDoorRows
import GoSem.ClaimSeven
namespace Go.Proofs.YtckldeabbkdbjaaDoor
namespace Rows

/-- THE TIED CARD OF 'stetlaw09.ItemsTell'. -/
def itemsTellCard : Claim7 := { stood := { row := itemsTellRow, standIns := [], harness := (true, "c52d021b6da86bd5187ef4ae2282602458925a1560485195eb1ec4c4e9379fee"), looks := false }, kinds := [], alts := [], laidByText := true, laidKinds := [.data, .pinned], laidTests := true, laidLooks := .later }
def ItemsTellCardSaid : Prop := Claim7.holds Tryd.pinned (.plain (OpenSpec.ofChange itemsTellSpec)) itemsTellCard

/-- THE TIED CARD OF 'stetlaw09.ItemsTexts'. -/
def itemsTextsCard : Claim7 := { stood := { row := itemsTextsRow, standIns := [], harness := (true, "c52d021b6da86bd5187ef4ae2282602458925a1560485195eb1ec4c4e9379fee"), looks := false }, kinds := [], alts := [], laidByText := true, laidKinds := [.data, .pinned], laidTests := true, laidLooks := .later }
def ItemsTextsCardSaid : Prop := Claim7.holds Tryd.pinned (.plain (OpenSpec.ofChange itemsTextsSpec)) itemsTextsCard

/-- THE TIED CARD OF 'stetlaw09.ItemsBack'. -/
def itemsBackCard : Claim7 := { stood := { row := itemsBackRow, standIns := [], harness := (true, "c52d021b6da86bd5187ef4ae2282602458925a1560485195eb1ec4c4e9379fee"), looks := false }, kinds := [], alts := [], laidByText := true, laidKinds := [.data, .pinned], laidTests := true, laidLooks := .later }
def ItemsBackCardSaid : Prop := Claim7.holds Tryd.pinned (.plain (OpenSpec.ofChange itemsBackSpec)) itemsBackCard

/-- THE TIED CARD OF 'stetlaw09.ItemsJoin'. -/
def itemsJoinCard : Claim7 := { stood := { row := itemsJoinRow, standIns := [], harness := (true, "c52d021b6da86bd5187ef4ae2282602458925a1560485195eb1ec4c4e9379fee"), looks := false }, kinds := [], alts := [], laidByText := true, laidKinds := [.data, .pinned], laidTests := true, laidLooks := .later }
def ItemsJoinCardSaid : Prop := Claim7.holds Tryd.pinned (.plain (OpenSpec.ofChange itemsJoinSpec)) itemsJoinCard

/-- THE TIED CARD OF 'stetlaw09.ItemsSpaces'. -/
def itemsSpacesCard : Claim7 := { stood := { row := itemsSpacesRow, standIns := [], harness := (true, "c52d021b6da86bd5187ef4ae2282602458925a1560485195eb1ec4c4e9379fee"), looks := false }, kinds := [], alts := [], laidByText := true, laidKinds := [.data, .pinned], laidTests := true, laidLooks := .later }
def ItemsSpacesCardSaid : Prop := Claim7.holds Tryd.pinned (.plain (OpenSpec.ofChange itemsSpacesSpec)) itemsSpacesCard

/-- THE SECOND FORM's CARD OF 'stetlaw09.ItemsTell'. -/
def itemsTellUptoCard : Claim7 := { stood := { row := itemsTellUptoRow, standIns := [], harness := (true, "c52d021b6da86bd5187ef4ae2282602458925a1560485195eb1ec4c4e9379fee"), looks := false }, kinds := [], alts := [], laidByText := true, laidKinds := [.data, .pinned], laidTests := true, laidLooks := .later }
def ItemsTellUptoCardSaid : Prop := Claim7.holds Tryd.pinned (.plain (OpenSpec.upto itemsTellSpec)) itemsTellUptoCard

/-- THE SECOND FORM's CARD OF 'stetlaw09.ItemsTexts'. -/
def itemsTextsUptoCard : Claim7 := { stood := { row := itemsTextsUptoRow, standIns := [], harness := (true, "c52d021b6da86bd5187ef4ae2282602458925a1560485195eb1ec4c4e9379fee"), looks := false }, kinds := [], alts := [], laidByText := true, laidKinds := [.data, .pinned], laidTests := true, laidLooks := .later }
def ItemsTextsUptoCardSaid : Prop := Claim7.holds Tryd.pinned (.plain (OpenSpec.upto itemsTextsSpec)) itemsTextsUptoCard

/-- THE SECOND FORM's CARD OF 'stetlaw09.ItemsBack'. -/
def itemsBackUptoCard : Claim7 := { stood := { row := itemsBackUptoRow, standIns := [], harness := (true, "c52d021b6da86bd5187ef4ae2282602458925a1560485195eb1ec4c4e9379fee"), looks := false }, kinds := [], alts := [], laidByText := true, laidKinds := [.data, .pinned], laidTests := true, laidLooks := .later }
def ItemsBackUptoCardSaid : Prop := Claim7.holds Tryd.pinned (.plain (OpenSpec.upto itemsBackSpec)) itemsBackUptoCard

/-- THE SECOND FORM's CARD OF 'stetlaw09.ItemsJoin'. -/
def itemsJoinUptoCard : Claim7 := { stood := { row := itemsJoinUptoRow, standIns := [], harness := (true, "c52d021b6da86bd5187ef4ae2282602458925a1560485195eb1ec4c4e9379fee"), looks := false }, kinds := [], alts := [], laidByText := true, laidKinds := [.data, .pinned], laidTests := true, laidLooks := .later }
def ItemsJoinUptoCardSaid : Prop := Claim7.holds Tryd.pinned (.plain (OpenSpec.upto itemsJoinSpec)) itemsJoinUptoCard

/-- THE SECOND FORM's CARD OF 'stetlaw09.ItemsSpaces'. -/
def itemsSpacesUptoCard : Claim7 := { stood := { row := itemsSpacesUptoRow, standIns := [], harness := (true, "c52d021b6da86bd5187ef4ae2282602458925a1560485195eb1ec4c4e9379fee"), looks := false }, kinds := [], alts := [], laidByText := true, laidKinds := [.data, .pinned], laidTests := true, laidLooks := .later }
def ItemsSpacesUptoCardSaid : Prop := Claim7.holds Tryd.pinned (.plain (OpenSpec.upto itemsSpacesSpec)) itemsSpacesUptoCard
end Rows
end Go.Proofs.YtckldeabbkdbjaaDoor

/-
  DERIVED. GIVEN WITH THE SEED: THE CARDS: each row of YtllcbjaajffaeaaGreatDoorRows.lean that lists a variable, with what it lists TIED to the program's text (the seventh form; the later family's looks); each row that meets fmt, with fmt's text TOLD by the authors' own Lean function (tested against real Go, not proved from fmt's source: count such statements apart). THE CARD IS WHAT COUNTS. Prove the row's statement (the work); the ties are given (YtllcbjaajffaeaaGreatDoorTie.lean); close each card by the builder's one call (the guide's Derived/Test/ToyasCard.lean, 'card_holds'). Laid BY PROGRAM, IN A SANDBOX (cutbox-door.mjs). By AI agents, Wed Nov 11 2026. No macro, syntax, notation, axiom, sorry.
-/
import Derived.Test.YtllcbjaajffaeaaGreatDoorRows
import GoSem.ClaimSeven
namespace Go.Proofs.YtllcbjaajffaeaaGreatDoor
namespace Rows

/-- THE TIED CARD OF 'bastionlaw12.DescReads'. -/
def descReadsCard : Claim7 := { stood := { row := descReadsRow, standIns := [], harness := (true, "3a4309274df18ff099e46dce0aebbc8a29db54501c9fd38c11da9e3ec38fd9f1"), looks := true }, kinds := [], alts := [], laidByText := true, laidKinds := [.data, .data, .data, .data, .handle, .sentinel, .sentinel, .pinned], laidTests := true, laidLooks := .later }
def DescReadsCardSaid : Prop := Claim7.holds Tryz.pinned (.plain (OpenSpec.ofChange descReadsSpec)) descReadsCard

/-- THE TIED CARD OF 'bastionlaw12.DescPrints'. -/
def descPrintsCard : Claim7 := { stood := { row := descPrintsRow, standIns := [], harness := (true, "3a4309274df18ff099e46dce0aebbc8a29db54501c9fd38c11da9e3ec38fd9f1"), looks := true }, kinds := [], alts := [], laidByText := true, laidKinds := [.data, .data, .data, .data, .handle, .sentinel, .sentinel, .pinned], laidTests := true, laidLooks := .later }
def DescPrintsCardSaid : Prop := Claim7.holds Tryz.pinned (.plain (OpenSpec.ofChange descPrintsSpec)) descPrintsCard

/-- THE TIED CARD OF 'bastionlaw13.ExpandNames'. -/
def expandNamesCard : Claim7 := { stood := { row := expandNamesRow, standIns := [], harness := (true, "3a4309274df18ff099e46dce0aebbc8a29db54501c9fd38c11da9e3ec38fd9f1"), looks := true }, kinds := [], alts := [], laidByText := true, laidKinds := [.data, .data, .data, .data, .handle, .sentinel, .sentinel, .pinned], laidTests := true, laidLooks := .later }
def ExpandNamesCardSaid : Prop := Claim7.holds Tryz.pinned (.plain (OpenSpec.ofChange expandNamesSpec)) expandNamesCard

/-- THE TIED CARD OF 'bastionlaw13.ExpandTakes'. -/
def expandTakesCard : Claim7 := { stood := { row := expandTakesRow, standIns := [], harness := (true, "3a4309274df18ff099e46dce0aebbc8a29db54501c9fd38c11da9e3ec38fd9f1"), looks := true }, kinds := [], alts := [], laidByText := true, laidKinds := [.data, .data, .data, .data, .handle, .sentinel, .sentinel, .pinned], laidTests := true, laidLooks := .later }
def ExpandTakesCardSaid : Prop := Claim7.holds Tryz.pinned (.plain (OpenSpec.ofChange expandTakesSpec)) expandTakesCard

/-- THE TIED CARD OF 'bastionlaw13.ExpandPlain'. -/
def expandPlainCard : Claim7 := { stood := { row := expandPlainRow, standIns := [], harness := (true, "3a4309274df18ff099e46dce0aebbc8a29db54501c9fd38c11da9e3ec38fd9f1"), looks := true }, kinds := [], alts := [], laidByText := true, laidKinds := [.data, .data, .data, .data, .handle, .sentinel, .sentinel, .pinned], laidTests := true, laidLooks := .later }
def ExpandPlainCardSaid : Prop := Claim7.holds Tryz.pinned (.plain (OpenSpec.ofChange expandPlainSpec)) expandPlainCard

/-- THE TIED CARD OF 'bastionlaw13.ExpandFiles'. -/
def expandFilesCard : Claim7 := { stood := { row := expandFilesRow, standIns := [], harness := (true, "3a4309274df18ff099e46dce0aebbc8a29db54501c9fd38c11da9e3ec38fd9f1"), looks := true }, kinds := [], alts := [], laidByText := true, laidKinds := [.data, .data, .data, .data, .handle, .sentinel, .sentinel, .pinned], laidTests := true, laidLooks := .later }
def ExpandFilesCardSaid : Prop := Claim7.holds Tryz.pinned (.plain (OpenSpec.ofChange expandFilesSpec)) expandFilesCard

/-- THE TIED CARD OF 'bastionlaw13.ExpandOthers'. -/
def expandOthersCard : Claim7 := { stood := { row := expandOthersRow, standIns := [], harness := (true, "3a4309274df18ff099e46dce0aebbc8a29db54501c9fd38c11da9e3ec38fd9f1"), looks := true }, kinds := [], alts := [], laidByText := true, laidKinds := [.data, .data, .data, .data, .handle, .sentinel, .sentinel, .pinned], laidTests := true, laidLooks := .later }
def ExpandOthersCardSaid : Prop := Claim7.holds Tryz.pinned (.plain (OpenSpec.ofChange expandOthersSpec)) expandOthersCard

/-- THE SECOND FORM's CARD OF 'bastionlaw12.DescReads'. -/
def descReadsUptoCard : Claim7 := { stood := { row := descReadsUptoRow, standIns := [], harness := (true, "3a4309274df18ff099e46dce0aebbc8a29db54501c9fd38c11da9e3ec38fd9f1"), looks := true }, kinds := [], alts := [], laidByText := true, laidKinds := [.data, .data, .data, .data, .handle, .sentinel, .sentinel, .pinned], laidTests := true, laidLooks := .later }
def DescReadsUptoCardSaid : Prop := Claim7.holds Tryz.pinned (.plain (OpenSpec.upto descReadsSpec)) descReadsUptoCard

/-- THE SECOND FORM's CARD OF 'bastionlaw12.DescPrints'. -/
def descPrintsUptoCard : Claim7 := { stood := { row := descPrintsUptoRow, standIns := [], harness := (true, "3a4309274df18ff099e46dce0aebbc8a29db54501c9fd38c11da9e3ec38fd9f1"), looks := true }, kinds := [], alts := [], laidByText := true, laidKinds := [.data, .data, .data, .data, .handle, .sentinel, .sentinel, .pinned], laidTests := true, laidLooks := .later }
def DescPrintsUptoCardSaid : Prop := Claim7.holds Tryz.pinned (.plain (OpenSpec.upto descPrintsSpec)) descPrintsUptoCard

/-- THE SECOND FORM's CARD OF 'bastionlaw13.ExpandNames'. -/
def expandNamesUptoCard : Claim7 := { stood := { row := expandNamesUptoRow, standIns := [], harness := (true, "3a4309274df18ff099e46dce0aebbc8a29db54501c9fd38c11da9e3ec38fd9f1"), looks := true }, kinds := [], alts := [], laidByText := true, laidKinds := [.data, .data, .data, .data, .handle, .sentinel, .sentinel, .pinned], laidTests := true, laidLooks := .later }
def ExpandNamesUptoCardSaid : Prop := Claim7.holds Tryz.pinned (.plain (OpenSpec.upto expandNamesSpec)) expandNamesUptoCard

/-- THE SECOND FORM's CARD OF 'bastionlaw13.ExpandTakes'. -/
def expandTakesUptoCard : Claim7 := { stood := { row := expandTakesUptoRow, standIns := [], harness := (true, "3a4309274df18ff099e46dce0aebbc8a29db54501c9fd38c11da9e3ec38fd9f1"), looks := true }, kinds := [], alts := [], laidByText := true, laidKinds := [.data, .data, .data, .data, .handle, .sentinel, .sentinel, .pinned], laidTests := true, laidLooks := .later }
def ExpandTakesUptoCardSaid : Prop := Claim7.holds Tryz.pinned (.plain (OpenSpec.upto expandTakesSpec)) expandTakesUptoCard

/-- THE SECOND FORM's CARD OF 'bastionlaw13.ExpandPlain'. -/
def expandPlainUptoCard : Claim7 := { stood := { row := expandPlainUptoRow, standIns := [], harness := (true, "3a4309274df18ff099e46dce0aebbc8a29db54501c9fd38c11da9e3ec38fd9f1"), looks := true }, kinds := [], alts := [], laidByText := true, laidKinds := [.data, .data, .data, .data, .handle, .sentinel, .sentinel, .pinned], laidTests := true, laidLooks := .later }
def ExpandPlainUptoCardSaid : Prop := Claim7.holds Tryz.pinned (.plain (OpenSpec.upto expandPlainSpec)) expandPlainUptoCard

/-- THE SECOND FORM's CARD OF 'bastionlaw13.ExpandFiles'. -/
def expandFilesUptoCard : Claim7 := { stood := { row := expandFilesUptoRow, standIns := [], harness := (true, "3a4309274df18ff099e46dce0aebbc8a29db54501c9fd38c11da9e3ec38fd9f1"), looks := true }, kinds := [], alts := [], laidByText := true, laidKinds := [.data, .data, .data, .data, .handle, .sentinel, .sentinel, .pinned], laidTests := true, laidLooks := .later }
def ExpandFilesUptoCardSaid : Prop := Claim7.holds Tryz.pinned (.plain (OpenSpec.upto expandFilesSpec)) expandFilesUptoCard

/-- THE SECOND FORM's CARD OF 'bastionlaw13.ExpandOthers'. -/
def expandOthersUptoCard : Claim7 := { stood := { row := expandOthersUptoRow, standIns := [], harness := (true, "3a4309274df18ff099e46dce0aebbc8a29db54501c9fd38c11da9e3ec38fd9f1"), looks := true }, kinds := [], alts := [], laidByText := true, laidKinds := [.data, .data, .data, .data, .handle, .sentinel, .sentinel, .pinned], laidTests := true, laidLooks := .later }
def ExpandOthersUptoCardSaid : Prop := Claim7.holds Tryz.pinned (.plain (OpenSpec.upto expandOthersSpec)) expandOthersUptoCard
end Rows
end Go.Proofs.YtllcbjaajffaeaaGreatDoor

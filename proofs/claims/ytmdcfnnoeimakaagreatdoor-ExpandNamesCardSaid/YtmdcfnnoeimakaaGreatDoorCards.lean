/-
  DERIVED. GIVEN WITH THE SEED: THE CARDS: each row of YtmdcfnnoeimakaaGreatDoorRows.lean that lists a variable, with what it lists TIED to the program's text (the seventh form; the later family's looks); each row that meets fmt, with fmt's text TOLD by the authors' own Lean function (tested against real Go, not proved from fmt's source: count such statements apart). THE CARD IS WHAT COUNTS. Prove the row's statement (the work); the ties are given (YtmdcfnnoeimakaaGreatDoorTie.lean); close each card by the builder's one call (the guide's Derived/Test/ToyasCard.lean, 'card_holds'). Laid BY PROGRAM, IN A SANDBOX (cutbox-door.mjs). By AI agents, Wed Nov 11 2026. No macro, syntax, notation, axiom, sorry.
-/
import Derived.Test.YtmdcfnnoeimakaaGreatDoorRows
import GoSem.ClaimSeven
namespace Go.Proofs.YtmdcfnnoeimakaaGreatDoor
namespace Rows

/-- THE TIED CARD OF 'bastionlaw13.ExpandNames'. -/
def expandNamesCard : Claim7 := { stood := { row := expandNamesRow, standIns := [], harness := (true, "12f302b0b932a362b86e90e3ba9c05416506929e02966e26e50e77ead0046732"), looks := true }, kinds := [], alts := [], laidByText := true, laidKinds := [.data, .data, .data, .data, .handle, .sentinel, .sentinel, .pinned], laidTests := true, laidLooks := .later }
def ExpandNamesCardSaid : Prop := Claim7.holds Tryz.pinned (.plain (OpenSpec.ofChange expandNamesSpec)) expandNamesCard

/-- THE TIED CARD OF 'bastionlaw13.ExpandPlain'. -/
def expandPlainCard : Claim7 := { stood := { row := expandPlainRow, standIns := [], harness := (true, "12f302b0b932a362b86e90e3ba9c05416506929e02966e26e50e77ead0046732"), looks := true }, kinds := [], alts := [], laidByText := true, laidKinds := [.data, .data, .data, .data, .handle, .sentinel, .sentinel, .pinned], laidTests := true, laidLooks := .later }
def ExpandPlainCardSaid : Prop := Claim7.holds Tryz.pinned (.plain (OpenSpec.ofChange expandPlainSpec)) expandPlainCard

/-- THE SECOND FORM's CARD OF 'bastionlaw13.ExpandNames'. -/
def expandNamesUptoCard : Claim7 := { stood := { row := expandNamesUptoRow, standIns := [], harness := (true, "12f302b0b932a362b86e90e3ba9c05416506929e02966e26e50e77ead0046732"), looks := true }, kinds := [], alts := [], laidByText := true, laidKinds := [.data, .data, .data, .data, .handle, .sentinel, .sentinel, .pinned], laidTests := true, laidLooks := .later }
def ExpandNamesUptoCardSaid : Prop := Claim7.holds Tryz.pinned (.plain (OpenSpec.upto expandNamesSpec)) expandNamesUptoCard

/-- THE SECOND FORM's CARD OF 'bastionlaw13.ExpandPlain'. -/
def expandPlainUptoCard : Claim7 := { stood := { row := expandPlainUptoRow, standIns := [], harness := (true, "12f302b0b932a362b86e90e3ba9c05416506929e02966e26e50e77ead0046732"), looks := true }, kinds := [], alts := [], laidByText := true, laidKinds := [.data, .data, .data, .data, .handle, .sentinel, .sentinel, .pinned], laidTests := true, laidLooks := .later }
def ExpandPlainUptoCardSaid : Prop := Claim7.holds Tryz.pinned (.plain (OpenSpec.upto expandPlainSpec)) expandPlainUptoCard
end Rows
end Go.Proofs.YtmdcfnnoeimakaaGreatDoor

/-
  No cell of these rows narrows 'for every input' (looked for: loops, veiled, ifaces, maps, wideKeys, modest, calm, conditions, laid).
  DERIVED. THE GIVEN ROWS OF THIS SEAT. 6 by the template 'for every input the law returns true; each argument reads behind the call as it read before'; 0 by the template 'total and deterministic' (their statements: YtllcbjaajffaeaaTotals.lean).
  GIVEN WITH THE SEED: the statements are not yours to turn. If you find one false, say at which input.
  Laid BY PROGRAM, IN A SANDBOX (cutbox-rows.mjs): the forced cells as the released guide's own fill.sh prints them over the translation 27ce1d838f0f5ba4… (all of the seat's roots in one cut). By AI agents, Wed Nov 11 2026. No macro, syntax, notation, axiom, sorry.
-/
import Derived.Test.YtllcbjaajffaeaaChecked
import GoSem.Claim
import GoSem.ClaimJoined
import GoSem.ClaimMapViews
import Derived.JoinedTies
import Derived.KernelRfl
namespace Go.Proofs.Ytllcbjaajffaeaa
/- THE CELL 'sum', in the pinned program and in every row, IS THE sha256 OF THE DUMP (.gsa) THAT YtllcbjaajffaeaaProg.lean LOADS. Nothing in Lean hashes anything: it is a label: what it is worth is what the hold of that sum in a sandbox is worth. -/
noncomputable def Try.pinned : Pinned := { name := "ytllcbjaajffaeaa", sum := "27ce1d838f0f5ba4f96c380b4538d7326706a5c9fc04e040f28d7925741dc360", checked := Try.checked }
namespace Rows
def none {H : Type} : Left H := { results := [], args := [] }

/-- 'bastionlaw13.ExpandSubst': WHATEVER THE INPUT: true; the input reads as it did. -/
def expandSubstSpec : ChangeSpec := { name := "expandSubst", fn := fun _ => fun
  | [d1, d2] => { results := [.lit (.bool true)], args := [d1, d2] }
  | _ => none }
def expandSubstRow : OpenClaim := { program := "ytllcbjaajffaeaa", sum := "27ce1d838f0f5ba4f96c380b4538d7326706a5c9fc04e040f28d7925741dc360", func := "bastion/bastionlaw13.ExpandSubst", spec := "expandSubst", inPlace := ["internal/bytealg.IndexByteString", "internal/bytealg.IndexString", "internal/abi.NoEscape"], unfollowed := true, recurses := true, named := ["internal/bytealg.MaxLen"], apart := false }
def ExpandSubstSaid : Prop := expandSubstRow.holds Try.pinned (OpenSpec.ofChange expandSubstSpec)

/-- ITS FALSE NEIGHBOUR: 'it returns false'. Refute it at one input. -/
def expandSubstWrong : ChangeSpec := { name := "expandSubst", fn := fun _ => fun
  | [d1, d2] => { results := [.lit (.bool false)], args := [d1, d2] }
  | _ => none }
def ExpandSubstWrongFalsely : Prop := expandSubstRow.holds Try.pinned (OpenSpec.ofChange expandSubstWrong)

/-- 'bastionlaw14.MatrixRows': WHATEVER THE INPUT: true; the input reads as it did. -/
def matrixRowsSpec : ChangeSpec := { name := "matrixRows", fn := fun _ => fun
  | [d1, d2] => { results := [.lit (.bool true)], args := [d1, d2] }
  | _ => none }
def matrixRowsRow : OpenClaim := { program := "ytllcbjaajffaeaa", sum := "27ce1d838f0f5ba4f96c380b4538d7326706a5c9fc04e040f28d7925741dc360", func := "bastion/bastionlaw14.MatrixRows", spec := "matrixRows", inPlace := ["internal/abi.NoEscape"], unfollowed := true, recurses := true, apart := false }
def MatrixRowsSaid : Prop := matrixRowsRow.holds Try.pinned (OpenSpec.ofChange matrixRowsSpec)

/-- ITS FALSE NEIGHBOUR: 'it returns false'. Refute it at one input. -/
def matrixRowsWrong : ChangeSpec := { name := "matrixRows", fn := fun _ => fun
  | [d1, d2] => { results := [.lit (.bool false)], args := [d1, d2] }
  | _ => none }
def MatrixRowsWrongFalsely : Prop := matrixRowsRow.holds Try.pinned (OpenSpec.ofChange matrixRowsWrong)

/-- 'bastionlaw14.MatrixLabels': WHATEVER THE INPUT: true; the input reads as it did. -/
def matrixLabelsSpec : ChangeSpec := { name := "matrixLabels", fn := fun _ => fun
  | [d1, d2, d3] => { results := [.lit (.bool true)], args := [d1, d2, d3] }
  | _ => none }
def matrixLabelsRow : OpenClaim := { program := "ytllcbjaajffaeaa", sum := "27ce1d838f0f5ba4f96c380b4538d7326706a5c9fc04e040f28d7925741dc360", func := "bastion/bastionlaw14.MatrixLabels", spec := "matrixLabels", inPlace := ["internal/abi.NoEscape"], unfollowed := true, recurses := true, apart := false }
def MatrixLabelsSaid : Prop := matrixLabelsRow.holds Try.pinned (OpenSpec.ofChange matrixLabelsSpec)

/-- ITS FALSE NEIGHBOUR: 'it returns false'. Refute it at one input. -/
def matrixLabelsWrong : ChangeSpec := { name := "matrixLabels", fn := fun _ => fun
  | [d1, d2, d3] => { results := [.lit (.bool false)], args := [d1, d2, d3] }
  | _ => none }
def MatrixLabelsWrongFalsely : Prop := matrixLabelsRow.holds Try.pinned (OpenSpec.ofChange matrixLabelsWrong)

/-- 'bastionlaw14.MatrixNames': WHATEVER THE INPUT: true; the input reads as it did. -/
def matrixNamesSpec : ChangeSpec := { name := "matrixNames", fn := fun _ => fun
  | [] => { results := [.lit (.bool true)], args := [] }
  | _ => none }
def matrixNamesRow : OpenClaim := { program := "ytllcbjaajffaeaa", sum := "27ce1d838f0f5ba4f96c380b4538d7326706a5c9fc04e040f28d7925741dc360", func := "bastion/bastionlaw14.MatrixNames", spec := "matrixNames", inPlace := ["internal/abi.NoEscape"], unfollowed := true, recurses := true, apart := false }
def MatrixNamesSaid : Prop := matrixNamesRow.holds Try.pinned (OpenSpec.ofChange matrixNamesSpec)

/-- ITS FALSE NEIGHBOUR: 'it returns false'. Refute it at one input. -/
def matrixNamesWrong : ChangeSpec := { name := "matrixNames", fn := fun _ => fun
  | [] => { results := [.lit (.bool false)], args := [] }
  | _ => none }
def MatrixNamesWrongFalsely : Prop := matrixNamesRow.holds Try.pinned (OpenSpec.ofChange matrixNamesWrong)

/-- 'bastionlaw14.MatrixCounts': WHATEVER THE INPUT: true; the input reads as it did. -/
def matrixCountsSpec : ChangeSpec := { name := "matrixCounts", fn := fun _ => fun
  | [d1, d2] => { results := [.lit (.bool true)], args := [d1, d2] }
  | _ => none }
def matrixCountsRow : OpenClaim := { program := "ytllcbjaajffaeaa", sum := "27ce1d838f0f5ba4f96c380b4538d7326706a5c9fc04e040f28d7925741dc360", func := "bastion/bastionlaw14.MatrixCounts", spec := "matrixCounts", inPlace := ["internal/abi.NoEscape"], unfollowed := true, recurses := true, apart := false }
def MatrixCountsSaid : Prop := matrixCountsRow.holds Try.pinned (OpenSpec.ofChange matrixCountsSpec)

/-- ITS FALSE NEIGHBOUR: 'it returns false'. Refute it at one input. -/
def matrixCountsWrong : ChangeSpec := { name := "matrixCounts", fn := fun _ => fun
  | [d1, d2] => { results := [.lit (.bool false)], args := [d1, d2] }
  | _ => none }
def MatrixCountsWrongFalsely : Prop := matrixCountsRow.holds Try.pinned (OpenSpec.ofChange matrixCountsWrong)

/-- 'bastionlaw14.MatrixBack': WHATEVER THE INPUT: true; the input reads as it did. -/
def matrixBackSpec : ChangeSpec := { name := "matrixBack", fn := fun _ => fun
  | [d1, d2, d3] => { results := [.lit (.bool true)], args := [d1, d2, d3] }
  | _ => none }
def matrixBackRow : OpenClaim := { program := "ytllcbjaajffaeaa", sum := "27ce1d838f0f5ba4f96c380b4538d7326706a5c9fc04e040f28d7925741dc360", func := "bastion/bastionlaw14.MatrixBack", spec := "matrixBack", inPlace := ["internal/abi.NoEscape"], unfollowed := true, recurses := true, apart := false }
def MatrixBackSaid : Prop := matrixBackRow.holds Try.pinned (OpenSpec.ofChange matrixBackSpec)

/-- ITS FALSE NEIGHBOUR: 'it returns false'. Refute it at one input. -/
def matrixBackWrong : ChangeSpec := { name := "matrixBack", fn := fun _ => fun
  | [d1, d2, d3] => { results := [.lit (.bool false)], args := [d1, d2, d3] }
  | _ => none }
def MatrixBackWrongFalsely : Prop := matrixBackRow.holds Try.pinned (OpenSpec.ofChange matrixBackWrong)

/- THE SECOND FORM. 'bulk': how many values and letters a reading holds, each counted each time it is reached (what is shared counts as often as it is met; a slice's spare places count too). A statement '..UptoSaid' is the law's where the arguments, and the package variables that the reading takes, are together of bulk at most 1048576: NARROWER than '..Said'. Prove '..Said' where nothing that the law and all that it calls make is longer than what came in: it says more and counts as full. Else prove '..UptoSaid'. A law counts once. -/
mutual
def uptoBulk {H : Type} : DataW H → Nat
  | .lit (.string bytes) => bytes.length + 1
  | .lit _ => 1
  | .nil => 1
  | .ptr d => uptoBulk d + 1
  | .slice elems spare => uptoBulkAll elems + uptoBulkAll spare + 1
  | .agg parts => uptoBulkAll parts + 1
  | .iface _ d => uptoBulk d + 1
  | .map entries => uptoBulkEntries entries + 1
  | .held _ => 1
def uptoBulkAll {H : Type} : List (DataW H) → Nat
  | [] => 0
  | d :: r => uptoBulk d + uptoBulkAll r
def uptoBulkEntries {H : Type} : List (Lit × DataW H) → Nat
  | [] => 0
  | x :: r => uptoBulkEntry x + uptoBulkEntries r
def uptoBulkEntry {H : Type} : Lit × DataW H → Nat
  | (.string bytes, d) => bytes.length + uptoBulk d + 1
  | (_, d) => uptoBulk d + 1
 end
def uptoSmall : (H : Type) → List (DataW H) → Bool := fun _ ds => decide (uptoBulkAll ds ≤ 1048576)
def OpenSpec.upto (s : _root_.Go.ChangeSpec) : _root_.Go.OpenSpec := { _root_.Go.OpenSpec.ofChange s with cond := some uptoSmall }

/-- 'bastionlaw13.ExpandSubst', WHERE WHAT IT READS IS OF BULK AT MOST 1048576: true; the input reads as it did. -/
def expandSubstUptoRow : OpenClaim := { program := "ytllcbjaajffaeaa", sum := "27ce1d838f0f5ba4f96c380b4538d7326706a5c9fc04e040f28d7925741dc360", func := "bastion/bastionlaw13.ExpandSubst", spec := "expandSubst", inPlace := ["internal/bytealg.IndexByteString", "internal/bytealg.IndexString", "internal/abi.NoEscape"], unfollowed := true, recurses := true, named := ["internal/bytealg.MaxLen"], apart := false, narrowed := true }
def ExpandSubstUptoSaid : Prop := expandSubstUptoRow.holds Try.pinned (OpenSpec.upto expandSubstSpec)

/-- 'bastionlaw14.MatrixRows', WHERE WHAT IT READS IS OF BULK AT MOST 1048576: true; the input reads as it did. -/
def matrixRowsUptoRow : OpenClaim := { program := "ytllcbjaajffaeaa", sum := "27ce1d838f0f5ba4f96c380b4538d7326706a5c9fc04e040f28d7925741dc360", func := "bastion/bastionlaw14.MatrixRows", spec := "matrixRows", inPlace := ["internal/abi.NoEscape"], unfollowed := true, recurses := true, apart := false, narrowed := true }
def MatrixRowsUptoSaid : Prop := matrixRowsUptoRow.holds Try.pinned (OpenSpec.upto matrixRowsSpec)

/-- 'bastionlaw14.MatrixLabels', WHERE WHAT IT READS IS OF BULK AT MOST 1048576: true; the input reads as it did. -/
def matrixLabelsUptoRow : OpenClaim := { program := "ytllcbjaajffaeaa", sum := "27ce1d838f0f5ba4f96c380b4538d7326706a5c9fc04e040f28d7925741dc360", func := "bastion/bastionlaw14.MatrixLabels", spec := "matrixLabels", inPlace := ["internal/abi.NoEscape"], unfollowed := true, recurses := true, apart := false, narrowed := true }
def MatrixLabelsUptoSaid : Prop := matrixLabelsUptoRow.holds Try.pinned (OpenSpec.upto matrixLabelsSpec)

/-- 'bastionlaw14.MatrixNames', WHERE WHAT IT READS IS OF BULK AT MOST 1048576: true; the input reads as it did. -/
def matrixNamesUptoRow : OpenClaim := { program := "ytllcbjaajffaeaa", sum := "27ce1d838f0f5ba4f96c380b4538d7326706a5c9fc04e040f28d7925741dc360", func := "bastion/bastionlaw14.MatrixNames", spec := "matrixNames", inPlace := ["internal/abi.NoEscape"], unfollowed := true, recurses := true, apart := false, narrowed := true }
def MatrixNamesUptoSaid : Prop := matrixNamesUptoRow.holds Try.pinned (OpenSpec.upto matrixNamesSpec)

/-- 'bastionlaw14.MatrixCounts', WHERE WHAT IT READS IS OF BULK AT MOST 1048576: true; the input reads as it did. -/
def matrixCountsUptoRow : OpenClaim := { program := "ytllcbjaajffaeaa", sum := "27ce1d838f0f5ba4f96c380b4538d7326706a5c9fc04e040f28d7925741dc360", func := "bastion/bastionlaw14.MatrixCounts", spec := "matrixCounts", inPlace := ["internal/abi.NoEscape"], unfollowed := true, recurses := true, apart := false, narrowed := true }
def MatrixCountsUptoSaid : Prop := matrixCountsUptoRow.holds Try.pinned (OpenSpec.upto matrixCountsSpec)

/-- 'bastionlaw14.MatrixBack', WHERE WHAT IT READS IS OF BULK AT MOST 1048576: true; the input reads as it did. -/
def matrixBackUptoRow : OpenClaim := { program := "ytllcbjaajffaeaa", sum := "27ce1d838f0f5ba4f96c380b4538d7326706a5c9fc04e040f28d7925741dc360", func := "bastion/bastionlaw14.MatrixBack", spec := "matrixBack", inPlace := ["internal/abi.NoEscape"], unfollowed := true, recurses := true, apart := false, narrowed := true }
def MatrixBackUptoSaid : Prop := matrixBackUptoRow.holds Try.pinned (OpenSpec.upto matrixBackSpec)

end Rows
end Go.Proofs.Ytllcbjaajffaeaa

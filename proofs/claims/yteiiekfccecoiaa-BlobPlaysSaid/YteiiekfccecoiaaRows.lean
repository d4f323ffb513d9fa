/-
  No cell of these rows narrows 'for every input' (looked for: loops, veiled, ifaces, maps, wideKeys, modest, calm, conditions, laid).
  DERIVED. THE GIVEN ROWS OF THIS SEAT. 4 by the template 'for every input the law returns true; each argument reads behind the call as it read before'; 0 by the template 'total and deterministic' (their statements: YteiiekfccecoiaaTotals.lean).
  GIVEN WITH THE SEED: the statements are not yours to turn. If you find one false, say at which input.
  Laid BY PROGRAM, IN A SANDBOX (cutbox-rows.mjs): the forced cells as the released guide's own fill.sh prints them over the translation d60cdcd7769dbf21… (all of the seat's roots in one cut). By AI agents, Wed Nov 11 2026. No macro, syntax, notation, axiom, sorry.
-/
import Derived.Test.YteiiekfccecoiaaChecked
import GoSem.Claim
import GoSem.ClaimJoined
import GoSem.ClaimMapViews
import Derived.JoinedTies
import Derived.KernelRfl
namespace Go.Proofs.Yteiiekfccecoiaa
/- THE CELL 'sum', in the pinned program and in every row, IS THE sha256 OF THE DUMP (.gsa) THAT YteiiekfccecoiaaProg.lean LOADS. Nothing in Lean hashes anything: it is a label: what it is worth is what the hold of that sum in a sandbox is worth. -/
noncomputable def Try.pinned : Pinned := { name := "yteiiekfccecoiaa", sum := "d60cdcd7769dbf2169fa99bfb5c69e385c0bd5153a310cd7b4bd9810da5819da", checked := Try.checked }
namespace Rows
def none {H : Type} : Left H := { results := [], args := [] }

/-- 'bastionlaw08.BlobPlays': WHATEVER THE INPUT: true; the input reads as it did. -/
def blobPlaysSpec : ChangeSpec := { name := "blobPlays", fn := fun _ => fun
  | [d1, d2] => { results := [.lit (.bool true)], args := [d1, d2] }
  | _ => none }
def blobPlaysRow : OpenClaim := { program := "yteiiekfccecoiaa", sum := "d60cdcd7769dbf2169fa99bfb5c69e385c0bd5153a310cd7b4bd9810da5819da", func := "bastion/bastionlaw08.BlobPlays", spec := "blobPlays", inPlace := ["internal/abi.NoEscape"], unfollowed := true, recurses := true, apart := false }
def BlobPlaysSaid : Prop := blobPlaysRow.holds Try.pinned (OpenSpec.ofChange blobPlaysSpec)

/-- ITS FALSE NEIGHBOUR: 'it returns false'. Refute it at one input. -/
def blobPlaysWrong : ChangeSpec := { name := "blobPlays", fn := fun _ => fun
  | [d1, d2] => { results := [.lit (.bool false)], args := [d1, d2] }
  | _ => none }
def BlobPlaysWrongFalsely : Prop := blobPlaysRow.holds Try.pinned (OpenSpec.ofChange blobPlaysWrong)

/-- 'bastionlaw08.BlobNeeds': WHATEVER THE INPUT: true; the input reads as it did. -/
def blobNeedsSpec : ChangeSpec := { name := "blobNeeds", fn := fun _ => fun
  | [d] => { results := [.lit (.bool true)], args := [d] }
  | _ => none }
def blobNeedsRow : OpenClaim := { program := "yteiiekfccecoiaa", sum := "d60cdcd7769dbf2169fa99bfb5c69e385c0bd5153a310cd7b4bd9810da5819da", func := "bastion/bastionlaw08.BlobNeeds", spec := "blobNeeds", inPlace := ["internal/abi.NoEscape"], unfollowed := true, recurses := true, apart := false }
def BlobNeedsSaid : Prop := blobNeedsRow.holds Try.pinned (OpenSpec.ofChange blobNeedsSpec)

/-- ITS FALSE NEIGHBOUR: 'it returns false'. Refute it at one input. -/
def blobNeedsWrong : ChangeSpec := { name := "blobNeeds", fn := fun _ => fun
  | [d] => { results := [.lit (.bool false)], args := [d] }
  | _ => none }
def BlobNeedsWrongFalsely : Prop := blobNeedsRow.holds Try.pinned (OpenSpec.ofChange blobNeedsWrong)

/-- 'bastionlaw08.BlobApart': WHATEVER THE INPUT: true; the input reads as it did. -/
def blobApartSpec : ChangeSpec := { name := "blobApart", fn := fun _ => fun
  | [d1, d2, d3] => { results := [.lit (.bool true)], args := [d1, d2, d3] }
  | _ => none }
def blobApartRow : OpenClaim := { program := "yteiiekfccecoiaa", sum := "d60cdcd7769dbf2169fa99bfb5c69e385c0bd5153a310cd7b4bd9810da5819da", func := "bastion/bastionlaw08.BlobApart", spec := "blobApart", inPlace := ["internal/abi.NoEscape"], unfollowed := true, recurses := true, apart := false }
def BlobApartSaid : Prop := blobApartRow.holds Try.pinned (OpenSpec.ofChange blobApartSpec)

/-- ITS FALSE NEIGHBOUR: 'it returns false'. Refute it at one input. -/
def blobApartWrong : ChangeSpec := { name := "blobApart", fn := fun _ => fun
  | [d1, d2, d3] => { results := [.lit (.bool false)], args := [d1, d2, d3] }
  | _ => none }
def BlobApartWrongFalsely : Prop := blobApartRow.holds Try.pinned (OpenSpec.ofChange blobApartWrong)

/-- 'bastionlaw08.BlobStays': WHATEVER THE INPUT: true; the input reads as it did. -/
def blobStaysSpec : ChangeSpec := { name := "blobStays", fn := fun _ => fun
  | [d1, d2, d3] => { results := [.lit (.bool true)], args := [d1, d2, d3] }
  | _ => none }
def blobStaysRow : OpenClaim := { program := "yteiiekfccecoiaa", sum := "d60cdcd7769dbf2169fa99bfb5c69e385c0bd5153a310cd7b4bd9810da5819da", func := "bastion/bastionlaw08.BlobStays", spec := "blobStays", inPlace := ["internal/abi.NoEscape"], unfollowed := true, recurses := true, apart := false }
def BlobStaysSaid : Prop := blobStaysRow.holds Try.pinned (OpenSpec.ofChange blobStaysSpec)

/-- ITS FALSE NEIGHBOUR: 'it returns false'. Refute it at one input. -/
def blobStaysWrong : ChangeSpec := { name := "blobStays", fn := fun _ => fun
  | [d1, d2, d3] => { results := [.lit (.bool false)], args := [d1, d2, d3] }
  | _ => none }
def BlobStaysWrongFalsely : Prop := blobStaysRow.holds Try.pinned (OpenSpec.ofChange blobStaysWrong)

/- THE SECOND FORM. 'bulk': how many values and letters a reading holds, each counted each time it is reached (what is shared counts as often as it is met; a slice's spare places count too). A statement '..UptoSaid' is the law's where the arguments, and the package variables that the reading takes, are together of bulk at most 1048576: NARROWER than '..Said'. Prove '..Said' where nothing that the law and all that it calls make is longer than what came in: it says more and counts as full. Else prove '..UptoSaid'. A law counts once. -/
mutual
def uptoBulk {H : Type} : DataW H → Nat
  | .lit (.string bytes) => bytes.length + 1
  | .lit _ => 1
  | .nil => 1
  | .ptr d => uptoBulk d + 1
  | .slice elems spare => uptoBulkAll elems + uptoBulkAll spare + 1
  | .agg parts => uptoBulkAll parts + 1
  | .iface _ d => uptoBulk d + 1
  | .map entries => uptoBulkEntries entries + 1
  | .held _ => 1
def uptoBulkAll {H : Type} : List (DataW H) → Nat
  | [] => 0
  | d :: r => uptoBulk d + uptoBulkAll r
def uptoBulkEntries {H : Type} : List (Lit × DataW H) → Nat
  | [] => 0
  | x :: r => uptoBulkEntry x + uptoBulkEntries r
def uptoBulkEntry {H : Type} : Lit × DataW H → Nat
  | (.string bytes, d) => bytes.length + uptoBulk d + 1
  | (_, d) => uptoBulk d + 1
 end
def uptoSmall : (H : Type) → List (DataW H) → Bool := fun _ ds => decide (uptoBulkAll ds ≤ 1048576)
def OpenSpec.upto (s : _root_.Go.ChangeSpec) : _root_.Go.OpenSpec := { _root_.Go.OpenSpec.ofChange s with cond := some uptoSmall }

/-- 'bastionlaw08.BlobPlays', WHERE WHAT IT READS IS OF BULK AT MOST 1048576: true; the input reads as it did. -/
def blobPlaysUptoRow : OpenClaim := { program := "yteiiekfccecoiaa", sum := "d60cdcd7769dbf2169fa99bfb5c69e385c0bd5153a310cd7b4bd9810da5819da", func := "bastion/bastionlaw08.BlobPlays", spec := "blobPlays", inPlace := ["internal/abi.NoEscape"], unfollowed := true, recurses := true, apart := false, narrowed := true }
def BlobPlaysUptoSaid : Prop := blobPlaysUptoRow.holds Try.pinned (OpenSpec.upto blobPlaysSpec)

/-- 'bastionlaw08.BlobNeeds', WHERE WHAT IT READS IS OF BULK AT MOST 1048576: true; the input reads as it did. -/
def blobNeedsUptoRow : OpenClaim := { program := "yteiiekfccecoiaa", sum := "d60cdcd7769dbf2169fa99bfb5c69e385c0bd5153a310cd7b4bd9810da5819da", func := "bastion/bastionlaw08.BlobNeeds", spec := "blobNeeds", inPlace := ["internal/abi.NoEscape"], unfollowed := true, recurses := true, apart := false, narrowed := true }
def BlobNeedsUptoSaid : Prop := blobNeedsUptoRow.holds Try.pinned (OpenSpec.upto blobNeedsSpec)

/-- 'bastionlaw08.BlobApart', WHERE WHAT IT READS IS OF BULK AT MOST 1048576: true; the input reads as it did. -/
def blobApartUptoRow : OpenClaim := { program := "yteiiekfccecoiaa", sum := "d60cdcd7769dbf2169fa99bfb5c69e385c0bd5153a310cd7b4bd9810da5819da", func := "bastion/bastionlaw08.BlobApart", spec := "blobApart", inPlace := ["internal/abi.NoEscape"], unfollowed := true, recurses := true, apart := false, narrowed := true }
def BlobApartUptoSaid : Prop := blobApartUptoRow.holds Try.pinned (OpenSpec.upto blobApartSpec)

/-- 'bastionlaw08.BlobStays', WHERE WHAT IT READS IS OF BULK AT MOST 1048576: true; the input reads as it did. -/
def blobStaysUptoRow : OpenClaim := { program := "yteiiekfccecoiaa", sum := "d60cdcd7769dbf2169fa99bfb5c69e385c0bd5153a310cd7b4bd9810da5819da", func := "bastion/bastionlaw08.BlobStays", spec := "blobStays", inPlace := ["internal/abi.NoEscape"], unfollowed := true, recurses := true, apart := false, narrowed := true }
def BlobStaysUptoSaid : Prop := blobStaysUptoRow.holds Try.pinned (OpenSpec.upto blobStaysSpec)

end Rows
end Go.Proofs.Yteiiekfccecoiaa

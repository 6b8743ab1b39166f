/-
  No cell of these rows narrows 'for every input' (looked for: loops, veiled, ifaces, maps, wideKeys, modest, calm, conditions, laid).
  DERIVED. THE GIVEN ROWS OF THIS SEAT. 6 by the template 'for every input the law returns true; each argument reads behind the call as it read before'; 0 by the template 'total and deterministic' (their statements: YthgdanbkngnckaaTotals.lean).
  GIVEN WITH THE SEED: the statements are not yours to turn. If you find one false, say at which input.
  Laid BY PROGRAM, IN A SANDBOX (cutbox-rows.mjs): the forced cells as the released guide's own fill.sh prints them over the translation b3b3e03fc55d866a… (all of the seat's roots in one cut). By AI agents, Wed Nov 11 2026. No macro, syntax, notation, axiom, sorry.
-/
import Derived.Test.YthgdanbkngnckaaChecked
import GoSem.Claim
import GoSem.ClaimJoined
import GoSem.ClaimMapViews
import Derived.JoinedTies
import Derived.KernelRfl
namespace Go.Proofs.Ythgdanbkngnckaa
/- THE CELL 'sum', in the pinned program and in every row, IS THE sha256 OF THE DUMP (.gsa) THAT YthgdanbkngnckaaProg.lean LOADS. Nothing in Lean hashes anything: it is a label: what it is worth is what the hold of that sum in a sandbox is worth. -/
noncomputable def Try.pinned : Pinned := { name := "ythgdanbkngnckaa", sum := "b3b3e03fc55d866a157d6516092e246d4f5ecede2932ee9c2292b40257b920c3", checked := Try.checked }
namespace Rows
def none {H : Type} : Left H := { results := [], args := [] }

/-- 'cedillalaw18.LevTells': WHATEVER THE INPUT: true; the input reads as it did. -/
def levTellsSpec : ChangeSpec := { name := "levTells", fn := fun _ => fun
  | [d1, d2, d3] => { results := [.lit (.bool true)], args := [d1, d2, d3] }
  | _ => none }
def levTellsRow : OpenClaim := { program := "ythgdanbkngnckaa", sum := "b3b3e03fc55d866a157d6516092e246d4f5ecede2932ee9c2292b40257b920c3", func := "cedilla/cedillalaw18.LevTells", spec := "levTells", inPlace := ["internal/bytealg.IndexByteString"], unfollowed := true, recurses := true, apart := false }
def LevTellsSaid : Prop := levTellsRow.holds Try.pinned (OpenSpec.ofChange levTellsSpec)

/-- ITS FALSE NEIGHBOUR: 'it returns false'. Refute it at one input. -/
def levTellsWrong : ChangeSpec := { name := "levTells", fn := fun _ => fun
  | [d1, d2, d3] => { results := [.lit (.bool false)], args := [d1, d2, d3] }
  | _ => none }
def LevTellsWrongFalsely : Prop := levTellsRow.holds Try.pinned (OpenSpec.ofChange levTellsWrong)

/-- 'cedillalaw18.LevDist': WHATEVER THE INPUT: true; the input reads as it did. -/
def levDistSpec : ChangeSpec := { name := "levDist", fn := fun _ => fun
  | [d] => { results := [.lit (.bool true)], args := [d] }
  | _ => none }
def levDistRow : OpenClaim := { program := "ythgdanbkngnckaa", sum := "b3b3e03fc55d866a157d6516092e246d4f5ecede2932ee9c2292b40257b920c3", func := "cedilla/cedillalaw18.LevDist", spec := "levDist", inPlace := ["internal/bytealg.IndexByteString"], unfollowed := true, recurses := true, apart := false }
def LevDistSaid : Prop := levDistRow.holds Try.pinned (OpenSpec.ofChange levDistSpec)

/-- ITS FALSE NEIGHBOUR: 'it returns false'. Refute it at one input. -/
def levDistWrong : ChangeSpec := { name := "levDist", fn := fun _ => fun
  | [d] => { results := [.lit (.bool false)], args := [d] }
  | _ => none }
def LevDistWrongFalsely : Prop := levDistRow.holds Try.pinned (OpenSpec.ofChange levDistWrong)

/-- 'cedillalaw18.LevDead': WHATEVER THE INPUT: true; the input reads as it did. -/
def levDeadSpec : ChangeSpec := { name := "levDead", fn := fun _ => fun
  | [d1, d2] => { results := [.lit (.bool true)], args := [d1, d2] }
  | _ => none }
def levDeadRow : OpenClaim := { program := "ythgdanbkngnckaa", sum := "b3b3e03fc55d866a157d6516092e246d4f5ecede2932ee9c2292b40257b920c3", func := "cedilla/cedillalaw18.LevDead", spec := "levDead", inPlace := ["internal/bytealg.IndexByteString"], unfollowed := true, recurses := true, apart := false }
def LevDeadSaid : Prop := levDeadRow.holds Try.pinned (OpenSpec.ofChange levDeadSpec)

/-- ITS FALSE NEIGHBOUR: 'it returns false'. Refute it at one input. -/
def levDeadWrong : ChangeSpec := { name := "levDead", fn := fun _ => fun
  | [d1, d2] => { results := [.lit (.bool false)], args := [d1, d2] }
  | _ => none }
def LevDeadWrongFalsely : Prop := levDeadRow.holds Try.pinned (OpenSpec.ofChange levDeadWrong)

/-- 'cedillalaw18.LevBounds': WHATEVER THE INPUT: true; the input reads as it did. -/
def levBoundsSpec : ChangeSpec := { name := "levBounds", fn := fun _ => fun
  | [d1, d2] => { results := [.lit (.bool true)], args := [d1, d2] }
  | _ => none }
def levBoundsRow : OpenClaim := { program := "ythgdanbkngnckaa", sum := "b3b3e03fc55d866a157d6516092e246d4f5ecede2932ee9c2292b40257b920c3", func := "cedilla/cedillalaw18.LevBounds", spec := "levBounds", inPlace := ["internal/bytealg.IndexByteString"], unfollowed := true, recurses := true, apart := false }
def LevBoundsSaid : Prop := levBoundsRow.holds Try.pinned (OpenSpec.ofChange levBoundsSpec)

/-- ITS FALSE NEIGHBOUR: 'it returns false'. Refute it at one input. -/
def levBoundsWrong : ChangeSpec := { name := "levBounds", fn := fun _ => fun
  | [d1, d2] => { results := [.lit (.bool false)], args := [d1, d2] }
  | _ => none }
def LevBoundsWrongFalsely : Prop := levBoundsRow.holds Try.pinned (OpenSpec.ofChange levBoundsWrong)

/-- 'cedillalaw18.LevBytes': WHATEVER THE INPUT: true; the input reads as it did. -/
def levBytesSpec : ChangeSpec := { name := "levBytes", fn := fun _ => fun
  | [d] => { results := [.lit (.bool true)], args := [d] }
  | _ => none }
def levBytesRow : OpenClaim := { program := "ythgdanbkngnckaa", sum := "b3b3e03fc55d866a157d6516092e246d4f5ecede2932ee9c2292b40257b920c3", func := "cedilla/cedillalaw18.LevBytes", spec := "levBytes", inPlace := ["internal/bytealg.IndexByteString", "internal/bytealg.IndexString"], unfollowed := true, recurses := true, named := ["internal/bytealg.MaxLen"], apart := false }
def LevBytesSaid : Prop := levBytesRow.holds Try.pinned (OpenSpec.ofChange levBytesSpec)

/-- ITS FALSE NEIGHBOUR: 'it returns false'. Refute it at one input. -/
def levBytesWrong : ChangeSpec := { name := "levBytes", fn := fun _ => fun
  | [d] => { results := [.lit (.bool false)], args := [d] }
  | _ => none }
def LevBytesWrongFalsely : Prop := levBytesRow.holds Try.pinned (OpenSpec.ofChange levBytesWrong)

/-- 'cedillalaw18.LevKnown': WHATEVER THE INPUT: true; the input reads as it did. -/
def levKnownSpec : ChangeSpec := { name := "levKnown", fn := fun _ => fun
  | [] => { results := [.lit (.bool true)], args := [] }
  | _ => none }
def levKnownRow : OpenClaim := { program := "ythgdanbkngnckaa", sum := "b3b3e03fc55d866a157d6516092e246d4f5ecede2932ee9c2292b40257b920c3", func := "cedilla/cedillalaw18.LevKnown", spec := "levKnown", inPlace := ["internal/bytealg.IndexByteString", "internal/abi.NoEscape", "internal/bytealg.MakeNoZero"], unfollowed := true, recurses := true, apart := false }
def LevKnownSaid : Prop := levKnownRow.holds Try.pinned (OpenSpec.ofChange levKnownSpec)

/-- ITS FALSE NEIGHBOUR: 'it returns false'. Refute it at one input. -/
def levKnownWrong : ChangeSpec := { name := "levKnown", fn := fun _ => fun
  | [] => { results := [.lit (.bool false)], args := [] }
  | _ => none }
def LevKnownWrongFalsely : Prop := levKnownRow.holds Try.pinned (OpenSpec.ofChange levKnownWrong)

/- THE SECOND FORM. 'bulk': how many values and letters a reading holds, each counted each time it is reached (what is shared counts as often as it is met; a slice's spare places count too). A statement '..UptoSaid' is the law's where the arguments, and the package variables that the reading takes, are together of bulk at most 1048576: NARROWER than '..Said'. Prove '..Said' where nothing that the law and all that it calls make is longer than what came in: it says more and counts as full. Else prove '..UptoSaid'. A law counts once. -/
mutual
def uptoBulk {H : Type} : DataW H → Nat
  | .lit (.string bytes) => bytes.length + 1
  | .lit _ => 1
  | .nil => 1
  | .ptr d => uptoBulk d + 1
  | .slice elems spare => uptoBulkAll elems + uptoBulkAll spare + 1
  | .agg parts => uptoBulkAll parts + 1
  | .iface _ d => uptoBulk d + 1
  | .map entries => uptoBulkEntries entries + 1
  | .held _ => 1
def uptoBulkAll {H : Type} : List (DataW H) → Nat
  | [] => 0
  | d :: r => uptoBulk d + uptoBulkAll r
def uptoBulkEntries {H : Type} : List (Lit × DataW H) → Nat
  | [] => 0
  | x :: r => uptoBulkEntry x + uptoBulkEntries r
def uptoBulkEntry {H : Type} : Lit × DataW H → Nat
  | (.string bytes, d) => bytes.length + uptoBulk d + 1
  | (_, d) => uptoBulk d + 1
 end
def uptoSmall : (H : Type) → List (DataW H) → Bool := fun _ ds => decide (uptoBulkAll ds ≤ 1048576)
def OpenSpec.upto (s : _root_.Go.ChangeSpec) : _root_.Go.OpenSpec := { _root_.Go.OpenSpec.ofChange s with cond := some uptoSmall }

/-- 'cedillalaw18.LevTells', WHERE WHAT IT READS IS OF BULK AT MOST 1048576: true; the input reads as it did. -/
def levTellsUptoRow : OpenClaim := { program := "ythgdanbkngnckaa", sum := "b3b3e03fc55d866a157d6516092e246d4f5ecede2932ee9c2292b40257b920c3", func := "cedilla/cedillalaw18.LevTells", spec := "levTells", inPlace := ["internal/bytealg.IndexByteString"], unfollowed := true, recurses := true, apart := false, narrowed := true }
def LevTellsUptoSaid : Prop := levTellsUptoRow.holds Try.pinned (OpenSpec.upto levTellsSpec)

/-- 'cedillalaw18.LevDist', WHERE WHAT IT READS IS OF BULK AT MOST 1048576: true; the input reads as it did. -/
def levDistUptoRow : OpenClaim := { program := "ythgdanbkngnckaa", sum := "b3b3e03fc55d866a157d6516092e246d4f5ecede2932ee9c2292b40257b920c3", func := "cedilla/cedillalaw18.LevDist", spec := "levDist", inPlace := ["internal/bytealg.IndexByteString"], unfollowed := true, recurses := true, apart := false, narrowed := true }
def LevDistUptoSaid : Prop := levDistUptoRow.holds Try.pinned (OpenSpec.upto levDistSpec)

/-- 'cedillalaw18.LevDead', WHERE WHAT IT READS IS OF BULK AT MOST 1048576: true; the input reads as it did. -/
def levDeadUptoRow : OpenClaim := { program := "ythgdanbkngnckaa", sum := "b3b3e03fc55d866a157d6516092e246d4f5ecede2932ee9c2292b40257b920c3", func := "cedilla/cedillalaw18.LevDead", spec := "levDead", inPlace := ["internal/bytealg.IndexByteString"], unfollowed := true, recurses := true, apart := false, narrowed := true }
def LevDeadUptoSaid : Prop := levDeadUptoRow.holds Try.pinned (OpenSpec.upto levDeadSpec)

/-- 'cedillalaw18.LevBounds', WHERE WHAT IT READS IS OF BULK AT MOST 1048576: true; the input reads as it did. -/
def levBoundsUptoRow : OpenClaim := { program := "ythgdanbkngnckaa", sum := "b3b3e03fc55d866a157d6516092e246d4f5ecede2932ee9c2292b40257b920c3", func := "cedilla/cedillalaw18.LevBounds", spec := "levBounds", inPlace := ["internal/bytealg.IndexByteString"], unfollowed := true, recurses := true, apart := false, narrowed := true }
def LevBoundsUptoSaid : Prop := levBoundsUptoRow.holds Try.pinned (OpenSpec.upto levBoundsSpec)

/-- 'cedillalaw18.LevBytes', WHERE WHAT IT READS IS OF BULK AT MOST 1048576: true; the input reads as it did. -/
def levBytesUptoRow : OpenClaim := { program := "ythgdanbkngnckaa", sum := "b3b3e03fc55d866a157d6516092e246d4f5ecede2932ee9c2292b40257b920c3", func := "cedilla/cedillalaw18.LevBytes", spec := "levBytes", inPlace := ["internal/bytealg.IndexByteString", "internal/bytealg.IndexString"], unfollowed := true, recurses := true, named := ["internal/bytealg.MaxLen"], apart := false, narrowed := true }
def LevBytesUptoSaid : Prop := levBytesUptoRow.holds Try.pinned (OpenSpec.upto levBytesSpec)

/-- 'cedillalaw18.LevKnown', WHERE WHAT IT READS IS OF BULK AT MOST 1048576: true; the input reads as it did. -/
def levKnownUptoRow : OpenClaim := { program := "ythgdanbkngnckaa", sum := "b3b3e03fc55d866a157d6516092e246d4f5ecede2932ee9c2292b40257b920c3", func := "cedilla/cedillalaw18.LevKnown", spec := "levKnown", inPlace := ["internal/bytealg.IndexByteString", "internal/abi.NoEscape", "internal/bytealg.MakeNoZero"], unfollowed := true, recurses := true, apart := false, narrowed := true }
def LevKnownUptoSaid : Prop := levKnownUptoRow.holds Try.pinned (OpenSpec.upto levKnownSpec)

end Rows
end Go.Proofs.Ythgdanbkngnckaa

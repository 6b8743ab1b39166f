/-
  No cell of these rows narrows 'for every input' (looked for: loops, veiled, ifaces, maps, wideKeys, modest, calm, conditions, laid).
  DERIVED. THE GIVEN ROWS OF THIS SEAT. 5 by the template 'for every input the law returns true; each argument reads behind the call as it read before'; 0 by the template 'total and deterministic' (their statements: YtbdbcfidbapioaaTotals.lean).
  GIVEN WITH THE SEED: the statements are not yours to turn. If you find one false, say at which input.
  Laid BY PROGRAM, IN A SANDBOX (cutbox-rows.mjs): the forced cells as the released guide's own fill.sh prints them over the translation 553ae295f6d687cd… (all of the seat's roots in one cut). By AI agents, Wed Nov 11 2026. No macro, syntax, notation, axiom, sorry.
-/
import Derived.Test.YtbdbcfidbapioaaChecked
import GoSem.Claim
import GoSem.ClaimJoined
import GoSem.ClaimMapViews
import Derived.JoinedTies
import Derived.KernelRfl
namespace Go.Proofs.Ytbdbcfidbapioaa
/- THE CELL 'sum', in the pinned program and in every row, IS THE sha256 OF THE DUMP (.gsa) THAT YtbdbcfidbapioaaProg.lean LOADS. Nothing in Lean hashes anything: it is a label: what it is worth is what the hold of that sum in a sandbox is worth. -/
noncomputable def Try.pinned : Pinned := { name := "ytbdbcfidbapioaa", sum := "553ae295f6d687cdf66bc83d55e4d090b3e314da255ae2edeb0994790bc0ed52", checked := Try.checked }
namespace Rows
def none {H : Type} : Left H := { results := [], args := [] }

/-- 'cedillalaw17.DistTells': WHATEVER THE INPUT: true; the input reads as it did. -/
def distTellsSpec : ChangeSpec := { name := "distTells", fn := fun _ => fun
  | [d1, d2, d3] => { results := [.lit (.bool true)], args := [d1, d2, d3] }
  | _ => none }
def distTellsRow : OpenClaim := { program := "ytbdbcfidbapioaa", sum := "553ae295f6d687cdf66bc83d55e4d090b3e314da255ae2edeb0994790bc0ed52", func := "cedilla/cedillalaw17.DistTells", spec := "distTells", inPlace := ["internal/bytealg.MakeNoZero"], unfollowed := true, recurses := true, apart := false }
def DistTellsSaid : Prop := distTellsRow.holds Try.pinned (OpenSpec.ofChange distTellsSpec)

/-- ITS FALSE NEIGHBOUR: 'it returns false'. Refute it at one input. -/
def distTellsWrong : ChangeSpec := { name := "distTells", fn := fun _ => fun
  | [d1, d2, d3] => { results := [.lit (.bool false)], args := [d1, d2, d3] }
  | _ => none }
def DistTellsWrongFalsely : Prop := distTellsRow.holds Try.pinned (OpenSpec.ofChange distTellsWrong)

/-- 'cedillalaw17.DistMeasures': WHATEVER THE INPUT: true; the input reads as it did. -/
def distMeasuresSpec : ChangeSpec := { name := "distMeasures", fn := fun _ => fun
  | [d1, d2, d3] => { results := [.lit (.bool true)], args := [d1, d2, d3] }
  | _ => none }
def distMeasuresRow : OpenClaim := { program := "ytbdbcfidbapioaa", sum := "553ae295f6d687cdf66bc83d55e4d090b3e314da255ae2edeb0994790bc0ed52", func := "cedilla/cedillalaw17.DistMeasures", spec := "distMeasures", inPlace := ["internal/bytealg.MakeNoZero"], unfollowed := true, recurses := true, apart := false }
def DistMeasuresSaid : Prop := distMeasuresRow.holds Try.pinned (OpenSpec.ofChange distMeasuresSpec)

/-- ITS FALSE NEIGHBOUR: 'it returns false'. Refute it at one input. -/
def distMeasuresWrong : ChangeSpec := { name := "distMeasures", fn := fun _ => fun
  | [d1, d2, d3] => { results := [.lit (.bool false)], args := [d1, d2, d3] }
  | _ => none }
def DistMeasuresWrongFalsely : Prop := distMeasuresRow.holds Try.pinned (OpenSpec.ofChange distMeasuresWrong)

/-- 'cedillalaw17.DistScripts': WHATEVER THE INPUT: true; the input reads as it did. -/
def distScriptsSpec : ChangeSpec := { name := "distScripts", fn := fun _ => fun
  | [d1, d2, d3] => { results := [.lit (.bool true)], args := [d1, d2, d3] }
  | _ => none }
def distScriptsRow : OpenClaim := { program := "ytbdbcfidbapioaa", sum := "553ae295f6d687cdf66bc83d55e4d090b3e314da255ae2edeb0994790bc0ed52", func := "cedilla/cedillalaw17.DistScripts", spec := "distScripts", inPlace := ["internal/bytealg.MakeNoZero"], unfollowed := true, recurses := true, apart := false }
def DistScriptsSaid : Prop := distScriptsRow.holds Try.pinned (OpenSpec.ofChange distScriptsSpec)

/-- ITS FALSE NEIGHBOUR: 'it returns false'. Refute it at one input. -/
def distScriptsWrong : ChangeSpec := { name := "distScripts", fn := fun _ => fun
  | [d1, d2, d3] => { results := [.lit (.bool false)], args := [d1, d2, d3] }
  | _ => none }
def DistScriptsWrongFalsely : Prop := distScriptsRow.holds Try.pinned (OpenSpec.ofChange distScriptsWrong)

/-- 'cedillalaw17.DistKnown': WHATEVER THE INPUT: true; the input reads as it did. -/
def distKnownSpec : ChangeSpec := { name := "distKnown", fn := fun _ => fun
  | [] => { results := [.lit (.bool true)], args := [] }
  | _ => none }
def distKnownRow : OpenClaim := { program := "ytbdbcfidbapioaa", sum := "553ae295f6d687cdf66bc83d55e4d090b3e314da255ae2edeb0994790bc0ed52", func := "cedilla/cedillalaw17.DistKnown", spec := "distKnown", inPlace := ["internal/bytealg.MakeNoZero"], unfollowed := true, recurses := true, apart := false }
def DistKnownSaid : Prop := distKnownRow.holds Try.pinned (OpenSpec.ofChange distKnownSpec)

/-- ITS FALSE NEIGHBOUR: 'it returns false'. Refute it at one input. -/
def distKnownWrong : ChangeSpec := { name := "distKnown", fn := fun _ => fun
  | [] => { results := [.lit (.bool false)], args := [] }
  | _ => none }
def DistKnownWrongFalsely : Prop := distKnownRow.holds Try.pinned (OpenSpec.ofChange distKnownWrong)

/-- 'cedillalaw17.DistPrunes': WHATEVER THE INPUT: true; the input reads as it did. -/
def distPrunesSpec : ChangeSpec := { name := "distPrunes", fn := fun _ => fun
  | [d1, d2, d3] => { results := [.lit (.bool true)], args := [d1, d2, d3] }
  | _ => none }
def distPrunesRow : OpenClaim := { program := "ytbdbcfidbapioaa", sum := "553ae295f6d687cdf66bc83d55e4d090b3e314da255ae2edeb0994790bc0ed52", func := "cedilla/cedillalaw17.DistPrunes", spec := "distPrunes", inPlace := ["internal/bytealg.MakeNoZero"], unfollowed := true, recurses := true, apart := false }
def DistPrunesSaid : Prop := distPrunesRow.holds Try.pinned (OpenSpec.ofChange distPrunesSpec)

/-- ITS FALSE NEIGHBOUR: 'it returns false'. Refute it at one input. -/
def distPrunesWrong : ChangeSpec := { name := "distPrunes", fn := fun _ => fun
  | [d1, d2, d3] => { results := [.lit (.bool false)], args := [d1, d2, d3] }
  | _ => none }
def DistPrunesWrongFalsely : Prop := distPrunesRow.holds Try.pinned (OpenSpec.ofChange distPrunesWrong)

/- THE SECOND FORM. 'bulk': how many values and letters a reading holds, each counted each time it is reached (what is shared counts as often as it is met; a slice's spare places count too). A statement '..UptoSaid' is the law's where the arguments, and the package variables that the reading takes, are together of bulk at most 1048576: NARROWER than '..Said'. Prove '..Said' where nothing that the law and all that it calls make is longer than what came in: it says more and counts as full. Else prove '..UptoSaid'. A law counts once. -/
mutual
def uptoBulk {H : Type} : DataW H → Nat
  | .lit (.string bytes) => bytes.length + 1
  | .lit _ => 1
  | .nil => 1
  | .ptr d => uptoBulk d + 1
  | .slice elems spare => uptoBulkAll elems + uptoBulkAll spare + 1
  | .agg parts => uptoBulkAll parts + 1
  | .iface _ d => uptoBulk d + 1
  | .map entries => uptoBulkEntries entries + 1
  | .held _ => 1
def uptoBulkAll {H : Type} : List (DataW H) → Nat
  | [] => 0
  | d :: r => uptoBulk d + uptoBulkAll r
def uptoBulkEntries {H : Type} : List (Lit × DataW H) → Nat
  | [] => 0
  | x :: r => uptoBulkEntry x + uptoBulkEntries r
def uptoBulkEntry {H : Type} : Lit × DataW H → Nat
  | (.string bytes, d) => bytes.length + uptoBulk d + 1
  | (_, d) => uptoBulk d + 1
 end
def uptoSmall : (H : Type) → List (DataW H) → Bool := fun _ ds => decide (uptoBulkAll ds ≤ 1048576)
def OpenSpec.upto (s : _root_.Go.ChangeSpec) : _root_.Go.OpenSpec := { _root_.Go.OpenSpec.ofChange s with cond := some uptoSmall }

/-- 'cedillalaw17.DistTells', WHERE WHAT IT READS IS OF BULK AT MOST 1048576: true; the input reads as it did. -/
def distTellsUptoRow : OpenClaim := { program := "ytbdbcfidbapioaa", sum := "553ae295f6d687cdf66bc83d55e4d090b3e314da255ae2edeb0994790bc0ed52", func := "cedilla/cedillalaw17.DistTells", spec := "distTells", inPlace := ["internal/bytealg.MakeNoZero"], unfollowed := true, recurses := true, apart := false, narrowed := true }
def DistTellsUptoSaid : Prop := distTellsUptoRow.holds Try.pinned (OpenSpec.upto distTellsSpec)

/-- 'cedillalaw17.DistMeasures', WHERE WHAT IT READS IS OF BULK AT MOST 1048576: true; the input reads as it did. -/
def distMeasuresUptoRow : OpenClaim := { program := "ytbdbcfidbapioaa", sum := "553ae295f6d687cdf66bc83d55e4d090b3e314da255ae2edeb0994790bc0ed52", func := "cedilla/cedillalaw17.DistMeasures", spec := "distMeasures", inPlace := ["internal/bytealg.MakeNoZero"], unfollowed := true, recurses := true, apart := false, narrowed := true }
def DistMeasuresUptoSaid : Prop := distMeasuresUptoRow.holds Try.pinned (OpenSpec.upto distMeasuresSpec)

/-- 'cedillalaw17.DistScripts', WHERE WHAT IT READS IS OF BULK AT MOST 1048576: true; the input reads as it did. -/
def distScriptsUptoRow : OpenClaim := { program := "ytbdbcfidbapioaa", sum := "553ae295f6d687cdf66bc83d55e4d090b3e314da255ae2edeb0994790bc0ed52", func := "cedilla/cedillalaw17.DistScripts", spec := "distScripts", inPlace := ["internal/bytealg.MakeNoZero"], unfollowed := true, recurses := true, apart := false, narrowed := true }
def DistScriptsUptoSaid : Prop := distScriptsUptoRow.holds Try.pinned (OpenSpec.upto distScriptsSpec)

/-- 'cedillalaw17.DistKnown', WHERE WHAT IT READS IS OF BULK AT MOST 1048576: true; the input reads as it did. -/
def distKnownUptoRow : OpenClaim := { program := "ytbdbcfidbapioaa", sum := "553ae295f6d687cdf66bc83d55e4d090b3e314da255ae2edeb0994790bc0ed52", func := "cedilla/cedillalaw17.DistKnown", spec := "distKnown", inPlace := ["internal/bytealg.MakeNoZero"], unfollowed := true, recurses := true, apart := false, narrowed := true }
def DistKnownUptoSaid : Prop := distKnownUptoRow.holds Try.pinned (OpenSpec.upto distKnownSpec)

/-- 'cedillalaw17.DistPrunes', WHERE WHAT IT READS IS OF BULK AT MOST 1048576: true; the input reads as it did. -/
def distPrunesUptoRow : OpenClaim := { program := "ytbdbcfidbapioaa", sum := "553ae295f6d687cdf66bc83d55e4d090b3e314da255ae2edeb0994790bc0ed52", func := "cedilla/cedillalaw17.DistPrunes", spec := "distPrunes", inPlace := ["internal/bytealg.MakeNoZero"], unfollowed := true, recurses := true, apart := false, narrowed := true }
def DistPrunesUptoSaid : Prop := distPrunesUptoRow.holds Try.pinned (OpenSpec.upto distPrunesSpec)

end Rows
end Go.Proofs.Ytbdbcfidbapioaa

/-
  No cell of these rows narrows 'for every input' (looked for: loops, veiled, ifaces, maps, wideKeys, modest, calm, conditions, laid).
  DERIVED. THE GIVEN ROWS OF THIS SEAT. 11 by the template 'for every input the law returns true; each argument reads behind the call as it read before'; 0 by the template 'total and deterministic' (their statements: YtclaadiclgfbmaaTotals.lean).
  GIVEN WITH THE SEED: the statements are not yours to turn. If you find one false, say at which input.
  Laid BY PROGRAM, IN A SANDBOX (cutbox-rows.mjs): the forced cells as the released guide's own fill.sh prints them over the translation 7c68360b3e7eb763… (all of the seat's roots in one cut). By AI agents, Wed Nov 11 2026. No macro, syntax, notation, axiom, sorry.
-/
import Derived.Test.YtclaadiclgfbmaaChecked
import GoSem.Claim
import GoSem.ClaimJoined
import GoSem.ClaimMapViews
import Derived.JoinedTies
import Derived.KernelRfl
namespace Go.Proofs.Ytclaadiclgfbmaa
/- THE CELL 'sum', in the pinned program and in every row, IS THE sha256 OF THE DUMP (.gsa) THAT YtclaadiclgfbmaaProg.lean LOADS. Nothing in Lean hashes anything: it is a label: what it is worth is what the hold of that sum in a sandbox is worth. -/
noncomputable def Try.pinned : Pinned := { name := "ytclaadiclgfbmaa", sum := "7c68360b3e7eb763b2f620a1349c3f346d5c8349ac9025969b35ad60bf382b15", checked := Try.checked }
namespace Rows
def none {H : Type} : Left H := { results := [], args := [] }

/-- 'cedillalaw12.TrieTells': WHATEVER THE INPUT: true; the input reads as it did. -/
def trieTellsSpec : ChangeSpec := { name := "trieTells", fn := fun _ => fun
  | [d1, d2, d3] => { results := [.lit (.bool true)], args := [d1, d2, d3] }
  | _ => none }
def trieTellsRow : OpenClaim := { program := "ytclaadiclgfbmaa", sum := "7c68360b3e7eb763b2f620a1349c3f346d5c8349ac9025969b35ad60bf382b15", func := "cedilla/cedillalaw12.TrieTells", spec := "trieTells", inPlace := ["maps.clone"], unfollowed := true, recurses := true, apart := false }
def TrieTellsSaid : Prop := trieTellsRow.holds Try.pinned (OpenSpec.ofChange trieTellsSpec)

/-- ITS FALSE NEIGHBOUR: 'it returns false'. Refute it at one input. -/
def trieTellsWrong : ChangeSpec := { name := "trieTells", fn := fun _ => fun
  | [d1, d2, d3] => { results := [.lit (.bool false)], args := [d1, d2, d3] }
  | _ => none }
def TrieTellsWrongFalsely : Prop := trieTellsRow.holds Try.pinned (OpenSpec.ofChange trieTellsWrong)

/-- 'cedillalaw12.TrieOrder': WHATEVER THE INPUT: true; the input reads as it did. -/
def trieOrderSpec : ChangeSpec := { name := "trieOrder", fn := fun _ => fun
  | [d1, d2] => { results := [.lit (.bool true)], args := [d1, d2] }
  | _ => none }
def trieOrderRow : OpenClaim := { program := "ytclaadiclgfbmaa", sum := "7c68360b3e7eb763b2f620a1349c3f346d5c8349ac9025969b35ad60bf382b15", func := "cedilla/cedillalaw12.TrieOrder", spec := "trieOrder", inPlace := ["maps.clone"], unfollowed := true, recurses := true, apart := false }
def TrieOrderSaid : Prop := trieOrderRow.holds Try.pinned (OpenSpec.ofChange trieOrderSpec)

/-- ITS FALSE NEIGHBOUR: 'it returns false'. Refute it at one input. -/
def trieOrderWrong : ChangeSpec := { name := "trieOrder", fn := fun _ => fun
  | [d1, d2] => { results := [.lit (.bool false)], args := [d1, d2] }
  | _ => none }
def TrieOrderWrongFalsely : Prop := trieOrderRow.holds Try.pinned (OpenSpec.ofChange trieOrderWrong)

/-- 'cedillalaw12.TrieUnder': WHATEVER THE INPUT: true; the input reads as it did. -/
def trieUnderSpec : ChangeSpec := { name := "trieUnder", fn := fun _ => fun
  | [d1, d2] => { results := [.lit (.bool true)], args := [d1, d2] }
  | _ => none }
def trieUnderRow : OpenClaim := { program := "ytclaadiclgfbmaa", sum := "7c68360b3e7eb763b2f620a1349c3f346d5c8349ac9025969b35ad60bf382b15", func := "cedilla/cedillalaw12.TrieUnder", spec := "trieUnder", inPlace := ["maps.clone"], unfollowed := true, recurses := true, apart := false }
def TrieUnderSaid : Prop := trieUnderRow.holds Try.pinned (OpenSpec.ofChange trieUnderSpec)

/-- ITS FALSE NEIGHBOUR: 'it returns false'. Refute it at one input. -/
def trieUnderWrong : ChangeSpec := { name := "trieUnder", fn := fun _ => fun
  | [d1, d2] => { results := [.lit (.bool false)], args := [d1, d2] }
  | _ => none }
def TrieUnderWrongFalsely : Prop := trieUnderRow.holds Try.pinned (OpenSpec.ofChange trieUnderWrong)

/-- 'cedillalaw13.DawgBuilds': WHATEVER THE INPUT: true; the input reads as it did. -/
def dawgBuildsSpec : ChangeSpec := { name := "dawgBuilds", fn := fun _ => fun
  | [d1, d2, d3] => { results := [.lit (.bool true)], args := [d1, d2, d3] }
  | _ => none }
def dawgBuildsRow : OpenClaim := { program := "ytclaadiclgfbmaa", sum := "7c68360b3e7eb763b2f620a1349c3f346d5c8349ac9025969b35ad60bf382b15", func := "cedilla/cedillalaw13.DawgBuilds", spec := "dawgBuilds", unfollowed := true, recurses := true, apart := false }
def DawgBuildsSaid : Prop := dawgBuildsRow.holds Try.pinned (OpenSpec.ofChange dawgBuildsSpec)

/-- ITS FALSE NEIGHBOUR: 'it returns false'. Refute it at one input. -/
def dawgBuildsWrong : ChangeSpec := { name := "dawgBuilds", fn := fun _ => fun
  | [d1, d2, d3] => { results := [.lit (.bool false)], args := [d1, d2, d3] }
  | _ => none }
def DawgBuildsWrongFalsely : Prop := dawgBuildsRow.holds Try.pinned (OpenSpec.ofChange dawgBuildsWrong)

/-- 'cedillalaw13.DawgLeast': WHATEVER THE INPUT: true; the input reads as it did. -/
def dawgLeastSpec : ChangeSpec := { name := "dawgLeast", fn := fun _ => fun
  | [d1, d2] => { results := [.lit (.bool true)], args := [d1, d2] }
  | _ => none }
def dawgLeastRow : OpenClaim := { program := "ytclaadiclgfbmaa", sum := "7c68360b3e7eb763b2f620a1349c3f346d5c8349ac9025969b35ad60bf382b15", func := "cedilla/cedillalaw13.DawgLeast", spec := "dawgLeast", unfollowed := true, recurses := true, apart := false }
def DawgLeastSaid : Prop := dawgLeastRow.holds Try.pinned (OpenSpec.ofChange dawgLeastSpec)

/-- ITS FALSE NEIGHBOUR: 'it returns false'. Refute it at one input. -/
def dawgLeastWrong : ChangeSpec := { name := "dawgLeast", fn := fun _ => fun
  | [d1, d2] => { results := [.lit (.bool false)], args := [d1, d2] }
  | _ => none }
def DawgLeastWrongFalsely : Prop := dawgLeastRow.holds Try.pinned (OpenSpec.ofChange dawgLeastWrong)

/-- 'cedillalaw13.DawgKnown': WHATEVER THE INPUT: true; the input reads as it did. -/
def dawgKnownSpec : ChangeSpec := { name := "dawgKnown", fn := fun _ => fun
  | [] => { results := [.lit (.bool true)], args := [] }
  | _ => none }
def dawgKnownRow : OpenClaim := { program := "ytclaadiclgfbmaa", sum := "7c68360b3e7eb763b2f620a1349c3f346d5c8349ac9025969b35ad60bf382b15", func := "cedilla/cedillalaw13.DawgKnown", spec := "dawgKnown", unfollowed := true, recurses := true, apart := false }
def DawgKnownSaid : Prop := dawgKnownRow.holds Try.pinned (OpenSpec.ofChange dawgKnownSpec)

/-- ITS FALSE NEIGHBOUR: 'it returns false'. Refute it at one input. -/
def dawgKnownWrong : ChangeSpec := { name := "dawgKnown", fn := fun _ => fun
  | [] => { results := [.lit (.bool false)], args := [] }
  | _ => none }
def DawgKnownWrongFalsely : Prop := dawgKnownRow.holds Try.pinned (OpenSpec.ofChange dawgKnownWrong)

/-- 'cedillalaw14.FstTells': WHATEVER THE INPUT: true; the input reads as it did. -/
def fstTellsSpec : ChangeSpec := { name := "fstTells", fn := fun _ => fun
  | [d1, d2, d3] => { results := [.lit (.bool true)], args := [d1, d2, d3] }
  | _ => none }
def fstTellsRow : OpenClaim := { program := "ytclaadiclgfbmaa", sum := "7c68360b3e7eb763b2f620a1349c3f346d5c8349ac9025969b35ad60bf382b15", func := "cedilla/cedillalaw14.FstTells", spec := "fstTells", inPlace := ["math/bits.Add64"], unfollowed := true, recurses := true, apart := false }
def FstTellsSaid : Prop := fstTellsRow.holds Try.pinned (OpenSpec.ofChange fstTellsSpec)

/-- ITS FALSE NEIGHBOUR: 'it returns false'. Refute it at one input. -/
def fstTellsWrong : ChangeSpec := { name := "fstTells", fn := fun _ => fun
  | [d1, d2, d3] => { results := [.lit (.bool false)], args := [d1, d2, d3] }
  | _ => none }
def FstTellsWrongFalsely : Prop := fstTellsRow.holds Try.pinned (OpenSpec.ofChange fstTellsWrong)

/-- 'cedillalaw14.FstAll': WHATEVER THE INPUT: true; the input reads as it did. -/
def fstAllSpec : ChangeSpec := { name := "fstAll", fn := fun _ => fun
  | [d1, d2, d3] => { results := [.lit (.bool true)], args := [d1, d2, d3] }
  | _ => none }
def fstAllRow : OpenClaim := { program := "ytclaadiclgfbmaa", sum := "7c68360b3e7eb763b2f620a1349c3f346d5c8349ac9025969b35ad60bf382b15", func := "cedilla/cedillalaw14.FstAll", spec := "fstAll", inPlace := ["math/bits.Add64"], unfollowed := true, recurses := true, apart := false }
def FstAllSaid : Prop := fstAllRow.holds Try.pinned (OpenSpec.ofChange fstAllSpec)

/-- ITS FALSE NEIGHBOUR: 'it returns false'. Refute it at one input. -/
def fstAllWrong : ChangeSpec := { name := "fstAll", fn := fun _ => fun
  | [d1, d2, d3] => { results := [.lit (.bool false)], args := [d1, d2, d3] }
  | _ => none }
def FstAllWrongFalsely : Prop := fstAllRow.holds Try.pinned (OpenSpec.ofChange fstAllWrong)

/-- 'cedillalaw14.FstWalks': WHATEVER THE INPUT: true; the input reads as it did. -/
def fstWalksSpec : ChangeSpec := { name := "fstWalks", fn := fun _ => fun
  | [d1, d2] => { results := [.lit (.bool true)], args := [d1, d2] }
  | _ => none }
def fstWalksRow : OpenClaim := { program := "ytclaadiclgfbmaa", sum := "7c68360b3e7eb763b2f620a1349c3f346d5c8349ac9025969b35ad60bf382b15", func := "cedilla/cedillalaw14.FstWalks", spec := "fstWalks", inPlace := ["math/bits.Add64"], unfollowed := true, recurses := true, apart := false }
def FstWalksSaid : Prop := fstWalksRow.holds Try.pinned (OpenSpec.ofChange fstWalksSpec)

/-- ITS FALSE NEIGHBOUR: 'it returns false'. Refute it at one input. -/
def fstWalksWrong : ChangeSpec := { name := "fstWalks", fn := fun _ => fun
  | [d1, d2] => { results := [.lit (.bool false)], args := [d1, d2] }
  | _ => none }
def FstWalksWrongFalsely : Prop := fstWalksRow.holds Try.pinned (OpenSpec.ofChange fstWalksWrong)

/-- 'cedillalaw14.FstParts': WHATEVER THE INPUT: true; the input reads as it did. -/
def fstPartsSpec : ChangeSpec := { name := "fstParts", fn := fun _ => fun
  | [d1, d2] => { results := [.lit (.bool true)], args := [d1, d2] }
  | _ => none }
def fstPartsRow : OpenClaim := { program := "ytclaadiclgfbmaa", sum := "7c68360b3e7eb763b2f620a1349c3f346d5c8349ac9025969b35ad60bf382b15", func := "cedilla/cedillalaw14.FstParts", spec := "fstParts", inPlace := ["math/bits.Add64"], unfollowed := true, recurses := true, apart := false }
def FstPartsSaid : Prop := fstPartsRow.holds Try.pinned (OpenSpec.ofChange fstPartsSpec)

/-- ITS FALSE NEIGHBOUR: 'it returns false'. Refute it at one input. -/
def fstPartsWrong : ChangeSpec := { name := "fstParts", fn := fun _ => fun
  | [d1, d2] => { results := [.lit (.bool false)], args := [d1, d2] }
  | _ => none }
def FstPartsWrongFalsely : Prop := fstPartsRow.holds Try.pinned (OpenSpec.ofChange fstPartsWrong)

/-- 'cedillalaw14.FstKnown': WHATEVER THE INPUT: true; the input reads as it did. -/
def fstKnownSpec : ChangeSpec := { name := "fstKnown", fn := fun _ => fun
  | [] => { results := [.lit (.bool true)], args := [] }
  | _ => none }
def fstKnownRow : OpenClaim := { program := "ytclaadiclgfbmaa", sum := "7c68360b3e7eb763b2f620a1349c3f346d5c8349ac9025969b35ad60bf382b15", func := "cedilla/cedillalaw14.FstKnown", spec := "fstKnown", inPlace := ["math/bits.Add64"], unfollowed := true, recurses := true, apart := false }
def FstKnownSaid : Prop := fstKnownRow.holds Try.pinned (OpenSpec.ofChange fstKnownSpec)

/-- ITS FALSE NEIGHBOUR: 'it returns false'. Refute it at one input. -/
def fstKnownWrong : ChangeSpec := { name := "fstKnown", fn := fun _ => fun
  | [] => { results := [.lit (.bool false)], args := [] }
  | _ => none }
def FstKnownWrongFalsely : Prop := fstKnownRow.holds Try.pinned (OpenSpec.ofChange fstKnownWrong)

/- THE SECOND FORM. 'bulk': how many values and letters a reading holds, each counted each time it is reached (what is shared counts as often as it is met; a slice's spare places count too). A statement '..UptoSaid' is the law's where the arguments, and the package variables that the reading takes, are together of bulk at most 1048576: NARROWER than '..Said'. Prove '..Said' where nothing that the law and all that it calls make is longer than what came in: it says more and counts as full. Else prove '..UptoSaid'. A law counts once. -/
mutual
def uptoBulk {H : Type} : DataW H → Nat
  | .lit (.string bytes) => bytes.length + 1
  | .lit _ => 1
  | .nil => 1
  | .ptr d => uptoBulk d + 1
  | .slice elems spare => uptoBulkAll elems + uptoBulkAll spare + 1
  | .agg parts => uptoBulkAll parts + 1
  | .iface _ d => uptoBulk d + 1
  | .map entries => uptoBulkEntries entries + 1
  | .held _ => 1
def uptoBulkAll {H : Type} : List (DataW H) → Nat
  | [] => 0
  | d :: r => uptoBulk d + uptoBulkAll r
def uptoBulkEntries {H : Type} : List (Lit × DataW H) → Nat
  | [] => 0
  | x :: r => uptoBulkEntry x + uptoBulkEntries r
def uptoBulkEntry {H : Type} : Lit × DataW H → Nat
  | (.string bytes, d) => bytes.length + uptoBulk d + 1
  | (_, d) => uptoBulk d + 1
 end
def uptoSmall : (H : Type) → List (DataW H) → Bool := fun _ ds => decide (uptoBulkAll ds ≤ 1048576)
def OpenSpec.upto (s : _root_.Go.ChangeSpec) : _root_.Go.OpenSpec := { _root_.Go.OpenSpec.ofChange s with cond := some uptoSmall }

/-- 'cedillalaw12.TrieTells', WHERE WHAT IT READS IS OF BULK AT MOST 1048576: true; the input reads as it did. -/
def trieTellsUptoRow : OpenClaim := { program := "ytclaadiclgfbmaa", sum := "7c68360b3e7eb763b2f620a1349c3f346d5c8349ac9025969b35ad60bf382b15", func := "cedilla/cedillalaw12.TrieTells", spec := "trieTells", inPlace := ["maps.clone"], unfollowed := true, recurses := true, apart := false, narrowed := true }
def TrieTellsUptoSaid : Prop := trieTellsUptoRow.holds Try.pinned (OpenSpec.upto trieTellsSpec)

/-- 'cedillalaw12.TrieOrder', WHERE WHAT IT READS IS OF BULK AT MOST 1048576: true; the input reads as it did. -/
def trieOrderUptoRow : OpenClaim := { program := "ytclaadiclgfbmaa", sum := "7c68360b3e7eb763b2f620a1349c3f346d5c8349ac9025969b35ad60bf382b15", func := "cedilla/cedillalaw12.TrieOrder", spec := "trieOrder", inPlace := ["maps.clone"], unfollowed := true, recurses := true, apart := false, narrowed := true }
def TrieOrderUptoSaid : Prop := trieOrderUptoRow.holds Try.pinned (OpenSpec.upto trieOrderSpec)

/-- 'cedillalaw12.TrieUnder', WHERE WHAT IT READS IS OF BULK AT MOST 1048576: true; the input reads as it did. -/
def trieUnderUptoRow : OpenClaim := { program := "ytclaadiclgfbmaa", sum := "7c68360b3e7eb763b2f620a1349c3f346d5c8349ac9025969b35ad60bf382b15", func := "cedilla/cedillalaw12.TrieUnder", spec := "trieUnder", inPlace := ["maps.clone"], unfollowed := true, recurses := true, apart := false, narrowed := true }
def TrieUnderUptoSaid : Prop := trieUnderUptoRow.holds Try.pinned (OpenSpec.upto trieUnderSpec)

/-- 'cedillalaw13.DawgBuilds', WHERE WHAT IT READS IS OF BULK AT MOST 1048576: true; the input reads as it did. -/
def dawgBuildsUptoRow : OpenClaim := { program := "ytclaadiclgfbmaa", sum := "7c68360b3e7eb763b2f620a1349c3f346d5c8349ac9025969b35ad60bf382b15", func := "cedilla/cedillalaw13.DawgBuilds", spec := "dawgBuilds", unfollowed := true, recurses := true, apart := false, narrowed := true }
def DawgBuildsUptoSaid : Prop := dawgBuildsUptoRow.holds Try.pinned (OpenSpec.upto dawgBuildsSpec)

/-- 'cedillalaw13.DawgLeast', WHERE WHAT IT READS IS OF BULK AT MOST 1048576: true; the input reads as it did. -/
def dawgLeastUptoRow : OpenClaim := { program := "ytclaadiclgfbmaa", sum := "7c68360b3e7eb763b2f620a1349c3f346d5c8349ac9025969b35ad60bf382b15", func := "cedilla/cedillalaw13.DawgLeast", spec := "dawgLeast", unfollowed := true, recurses := true, apart := false, narrowed := true }
def DawgLeastUptoSaid : Prop := dawgLeastUptoRow.holds Try.pinned (OpenSpec.upto dawgLeastSpec)

/-- 'cedillalaw13.DawgKnown', WHERE WHAT IT READS IS OF BULK AT MOST 1048576: true; the input reads as it did. -/
def dawgKnownUptoRow : OpenClaim := { program := "ytclaadiclgfbmaa", sum := "7c68360b3e7eb763b2f620a1349c3f346d5c8349ac9025969b35ad60bf382b15", func := "cedilla/cedillalaw13.DawgKnown", spec := "dawgKnown", unfollowed := true, recurses := true, apart := false, narrowed := true }
def DawgKnownUptoSaid : Prop := dawgKnownUptoRow.holds Try.pinned (OpenSpec.upto dawgKnownSpec)

/-- 'cedillalaw14.FstTells', WHERE WHAT IT READS IS OF BULK AT MOST 1048576: true; the input reads as it did. -/
def fstTellsUptoRow : OpenClaim := { program := "ytclaadiclgfbmaa", sum := "7c68360b3e7eb763b2f620a1349c3f346d5c8349ac9025969b35ad60bf382b15", func := "cedilla/cedillalaw14.FstTells", spec := "fstTells", inPlace := ["math/bits.Add64"], unfollowed := true, recurses := true, apart := false, narrowed := true }
def FstTellsUptoSaid : Prop := fstTellsUptoRow.holds Try.pinned (OpenSpec.upto fstTellsSpec)

/-- 'cedillalaw14.FstAll', WHERE WHAT IT READS IS OF BULK AT MOST 1048576: true; the input reads as it did. -/
def fstAllUptoRow : OpenClaim := { program := "ytclaadiclgfbmaa", sum := "7c68360b3e7eb763b2f620a1349c3f346d5c8349ac9025969b35ad60bf382b15", func := "cedilla/cedillalaw14.FstAll", spec := "fstAll", inPlace := ["math/bits.Add64"], unfollowed := true, recurses := true, apart := false, narrowed := true }
def FstAllUptoSaid : Prop := fstAllUptoRow.holds Try.pinned (OpenSpec.upto fstAllSpec)

/-- 'cedillalaw14.FstWalks', WHERE WHAT IT READS IS OF BULK AT MOST 1048576: true; the input reads as it did. -/
def fstWalksUptoRow : OpenClaim := { program := "ytclaadiclgfbmaa", sum := "7c68360b3e7eb763b2f620a1349c3f346d5c8349ac9025969b35ad60bf382b15", func := "cedilla/cedillalaw14.FstWalks", spec := "fstWalks", inPlace := ["math/bits.Add64"], unfollowed := true, recurses := true, apart := false, narrowed := true }
def FstWalksUptoSaid : Prop := fstWalksUptoRow.holds Try.pinned (OpenSpec.upto fstWalksSpec)

/-- 'cedillalaw14.FstParts', WHERE WHAT IT READS IS OF BULK AT MOST 1048576: true; the input reads as it did. -/
def fstPartsUptoRow : OpenClaim := { program := "ytclaadiclgfbmaa", sum := "7c68360b3e7eb763b2f620a1349c3f346d5c8349ac9025969b35ad60bf382b15", func := "cedilla/cedillalaw14.FstParts", spec := "fstParts", inPlace := ["math/bits.Add64"], unfollowed := true, recurses := true, apart := false, narrowed := true }
def FstPartsUptoSaid : Prop := fstPartsUptoRow.holds Try.pinned (OpenSpec.upto fstPartsSpec)

/-- 'cedillalaw14.FstKnown', WHERE WHAT IT READS IS OF BULK AT MOST 1048576: true; the input reads as it did. -/
def fstKnownUptoRow : OpenClaim := { program := "ytclaadiclgfbmaa", sum := "7c68360b3e7eb763b2f620a1349c3f346d5c8349ac9025969b35ad60bf382b15", func := "cedilla/cedillalaw14.FstKnown", spec := "fstKnown", inPlace := ["math/bits.Add64"], unfollowed := true, recurses := true, apart := false, narrowed := true }
def FstKnownUptoSaid : Prop := fstKnownUptoRow.holds Try.pinned (OpenSpec.upto fstKnownSpec)

end Rows
end Go.Proofs.Ytclaadiclgfbmaa

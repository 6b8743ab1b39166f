/-
  No cell of these rows narrows 'for every input' (looked for: loops, veiled, ifaces, maps, wideKeys, modest, calm, conditions, laid).
  DERIVED. THE GIVEN ROWS OF THIS SEAT. 6 by the template 'for every input the law returns true; each argument reads behind the call as it read before'; 0 by the template 'total and deterministic' (their statements: YtmfchlbafpkgaaaTotals.lean).
  GIVEN WITH THE SEED: the statements are not yours to turn. If you find one false, say at which input.
  Laid BY PROGRAM, IN A SANDBOX (cutbox-rows.mjs): the forced cells as the released guide's own fill.sh prints them over the translation a2803fd25230c3d8… (all of the seat's roots in one cut). By AI agents, Wed Nov 11 2026. No macro, syntax, notation, axiom, sorry.
-/
import Derived.Test.YtmfchlbafpkgaaaChecked
import GoSem.Claim
import GoSem.ClaimJoined
import GoSem.ClaimMapViews
import Derived.JoinedTies
import Derived.KernelRfl
namespace Go.Proofs.Ytmfchlbafpkgaaa
/- THE CELL 'sum', in the pinned program and in every row, IS THE sha256 OF THE DUMP (.gsa) THAT YtmfchlbafpkgaaaProg.lean LOADS. Nothing in Lean hashes anything: it is a label: what it is worth is what the hold of that sum in a sandbox is worth. -/
noncomputable def Try.pinned : Pinned := { name := "ytmfchlbafpkgaaa", sum := "a2803fd25230c3d8653dfb75f2caaf185a108f91b142ffbbf653d72bee39719a", checked := Try.checked }
namespace Rows
def none {H : Type} : Left H := { results := [], args := [] }

/-- 'cedillalaw12.TrieTells': WHATEVER THE INPUT: true; the input reads as it did. -/
def trieTellsSpec : ChangeSpec := { name := "trieTells", fn := fun _ => fun
  | [d1, d2, d3] => { results := [.lit (.bool true)], args := [d1, d2, d3] }
  | _ => none }
def trieTellsRow : OpenClaim := { program := "ytmfchlbafpkgaaa", sum := "a2803fd25230c3d8653dfb75f2caaf185a108f91b142ffbbf653d72bee39719a", func := "cedilla/cedillalaw12.TrieTells", spec := "trieTells", inPlace := ["maps.clone"], unfollowed := true, recurses := true, apart := false }
def TrieTellsSaid : Prop := trieTellsRow.holds Try.pinned (OpenSpec.ofChange trieTellsSpec)

/-- ITS FALSE NEIGHBOUR: 'it returns false'. Refute it at one input. -/
def trieTellsWrong : ChangeSpec := { name := "trieTells", fn := fun _ => fun
  | [d1, d2, d3] => { results := [.lit (.bool false)], args := [d1, d2, d3] }
  | _ => none }
def TrieTellsWrongFalsely : Prop := trieTellsRow.holds Try.pinned (OpenSpec.ofChange trieTellsWrong)

/-- 'cedillalaw12.TrieOrder': WHATEVER THE INPUT: true; the input reads as it did. -/
def trieOrderSpec : ChangeSpec := { name := "trieOrder", fn := fun _ => fun
  | [d1, d2] => { results := [.lit (.bool true)], args := [d1, d2] }
  | _ => none }
def trieOrderRow : OpenClaim := { program := "ytmfchlbafpkgaaa", sum := "a2803fd25230c3d8653dfb75f2caaf185a108f91b142ffbbf653d72bee39719a", func := "cedilla/cedillalaw12.TrieOrder", spec := "trieOrder", inPlace := ["maps.clone"], unfollowed := true, recurses := true, apart := false }
def TrieOrderSaid : Prop := trieOrderRow.holds Try.pinned (OpenSpec.ofChange trieOrderSpec)

/-- ITS FALSE NEIGHBOUR: 'it returns false'. Refute it at one input. -/
def trieOrderWrong : ChangeSpec := { name := "trieOrder", fn := fun _ => fun
  | [d1, d2] => { results := [.lit (.bool false)], args := [d1, d2] }
  | _ => none }
def TrieOrderWrongFalsely : Prop := trieOrderRow.holds Try.pinned (OpenSpec.ofChange trieOrderWrong)

/-- 'cedillalaw12.TrieUnder': WHATEVER THE INPUT: true; the input reads as it did. -/
def trieUnderSpec : ChangeSpec := { name := "trieUnder", fn := fun _ => fun
  | [d1, d2] => { results := [.lit (.bool true)], args := [d1, d2] }
  | _ => none }
def trieUnderRow : OpenClaim := { program := "ytmfchlbafpkgaaa", sum := "a2803fd25230c3d8653dfb75f2caaf185a108f91b142ffbbf653d72bee39719a", func := "cedilla/cedillalaw12.TrieUnder", spec := "trieUnder", inPlace := ["maps.clone"], unfollowed := true, recurses := true, apart := false }
def TrieUnderSaid : Prop := trieUnderRow.holds Try.pinned (OpenSpec.ofChange trieUnderSpec)

/-- ITS FALSE NEIGHBOUR: 'it returns false'. Refute it at one input. -/
def trieUnderWrong : ChangeSpec := { name := "trieUnder", fn := fun _ => fun
  | [d1, d2] => { results := [.lit (.bool false)], args := [d1, d2] }
  | _ => none }
def TrieUnderWrongFalsely : Prop := trieUnderRow.holds Try.pinned (OpenSpec.ofChange trieUnderWrong)

/-- 'cedillalaw13.DawgBuilds': WHATEVER THE INPUT: true; the input reads as it did. -/
def dawgBuildsSpec : ChangeSpec := { name := "dawgBuilds", fn := fun _ => fun
  | [d1, d2, d3] => { results := [.lit (.bool true)], args := [d1, d2, d3] }
  | _ => none }
def dawgBuildsRow : OpenClaim := { program := "ytmfchlbafpkgaaa", sum := "a2803fd25230c3d8653dfb75f2caaf185a108f91b142ffbbf653d72bee39719a", func := "cedilla/cedillalaw13.DawgBuilds", spec := "dawgBuilds", unfollowed := true, recurses := true, apart := false }
def DawgBuildsSaid : Prop := dawgBuildsRow.holds Try.pinned (OpenSpec.ofChange dawgBuildsSpec)

/-- ITS FALSE NEIGHBOUR: 'it returns false'. Refute it at one input. -/
def dawgBuildsWrong : ChangeSpec := { name := "dawgBuilds", fn := fun _ => fun
  | [d1, d2, d3] => { results := [.lit (.bool false)], args := [d1, d2, d3] }
  | _ => none }
def DawgBuildsWrongFalsely : Prop := dawgBuildsRow.holds Try.pinned (OpenSpec.ofChange dawgBuildsWrong)

/-- 'cedillalaw13.DawgLeast': WHATEVER THE INPUT: true; the input reads as it did. -/
def dawgLeastSpec : ChangeSpec := { name := "dawgLeast", fn := fun _ => fun
  | [d1, d2] => { results := [.lit (.bool true)], args := [d1, d2] }
  | _ => none }
def dawgLeastRow : OpenClaim := { program := "ytmfchlbafpkgaaa", sum := "a2803fd25230c3d8653dfb75f2caaf185a108f91b142ffbbf653d72bee39719a", func := "cedilla/cedillalaw13.DawgLeast", spec := "dawgLeast", unfollowed := true, recurses := true, apart := false }
def DawgLeastSaid : Prop := dawgLeastRow.holds Try.pinned (OpenSpec.ofChange dawgLeastSpec)

/-- ITS FALSE NEIGHBOUR: 'it returns false'. Refute it at one input. -/
def dawgLeastWrong : ChangeSpec := { name := "dawgLeast", fn := fun _ => fun
  | [d1, d2] => { results := [.lit (.bool false)], args := [d1, d2] }
  | _ => none }
def DawgLeastWrongFalsely : Prop := dawgLeastRow.holds Try.pinned (OpenSpec.ofChange dawgLeastWrong)

/-- 'cedillalaw13.DawgKnown': WHATEVER THE INPUT: true; the input reads as it did. -/
def dawgKnownSpec : ChangeSpec := { name := "dawgKnown", fn := fun _ => fun
  | [] => { results := [.lit (.bool true)], args := [] }
  | _ => none }
def dawgKnownRow : OpenClaim := { program := "ytmfchlbafpkgaaa", sum := "a2803fd25230c3d8653dfb75f2caaf185a108f91b142ffbbf653d72bee39719a", func := "cedilla/cedillalaw13.DawgKnown", spec := "dawgKnown", unfollowed := true, recurses := true, apart := false }
def DawgKnownSaid : Prop := dawgKnownRow.holds Try.pinned (OpenSpec.ofChange dawgKnownSpec)

/-- ITS FALSE NEIGHBOUR: 'it returns false'. Refute it at one input. -/
def dawgKnownWrong : ChangeSpec := { name := "dawgKnown", fn := fun _ => fun
  | [] => { results := [.lit (.bool false)], args := [] }
  | _ => none }
def DawgKnownWrongFalsely : Prop := dawgKnownRow.holds Try.pinned (OpenSpec.ofChange dawgKnownWrong)

/- THE SECOND FORM. 'bulk': how many values and letters a reading holds, each counted each time it is reached (what is shared counts as often as it is met; a slice's spare places count too). A statement '..UptoSaid' is the law's where the arguments, and the package variables that the reading takes, are together of bulk at most 1048576: NARROWER than '..Said'. Prove '..Said' where nothing that the law and all that it calls make is longer than what came in: it says more and counts as full. Else prove '..UptoSaid'. A law counts once. -/
mutual
def uptoBulk {H : Type} : DataW H → Nat
  | .lit (.string bytes) => bytes.length + 1
  | .lit _ => 1
  | .nil => 1
  | .ptr d => uptoBulk d + 1
  | .slice elems spare => uptoBulkAll elems + uptoBulkAll spare + 1
  | .agg parts => uptoBulkAll parts + 1
  | .iface _ d => uptoBulk d + 1
  | .map entries => uptoBulkEntries entries + 1
  | .held _ => 1
def uptoBulkAll {H : Type} : List (DataW H) → Nat
  | [] => 0
  | d :: r => uptoBulk d + uptoBulkAll r
def uptoBulkEntries {H : Type} : List (Lit × DataW H) → Nat
  | [] => 0
  | x :: r => uptoBulkEntry x + uptoBulkEntries r
def uptoBulkEntry {H : Type} : Lit × DataW H → Nat
  | (.string bytes, d) => bytes.length + uptoBulk d + 1
  | (_, d) => uptoBulk d + 1
 end
def uptoSmall : (H : Type) → List (DataW H) → Bool := fun _ ds => decide (uptoBulkAll ds ≤ 1048576)
def OpenSpec.upto (s : _root_.Go.ChangeSpec) : _root_.Go.OpenSpec := { _root_.Go.OpenSpec.ofChange s with cond := some uptoSmall }

/-- 'cedillalaw12.TrieTells', WHERE WHAT IT READS IS OF BULK AT MOST 1048576: true; the input reads as it did. -/
def trieTellsUptoRow : OpenClaim := { program := "ytmfchlbafpkgaaa", sum := "a2803fd25230c3d8653dfb75f2caaf185a108f91b142ffbbf653d72bee39719a", func := "cedilla/cedillalaw12.TrieTells", spec := "trieTells", inPlace := ["maps.clone"], unfollowed := true, recurses := true, apart := false, narrowed := true }
def TrieTellsUptoSaid : Prop := trieTellsUptoRow.holds Try.pinned (OpenSpec.upto trieTellsSpec)

/-- 'cedillalaw12.TrieOrder', WHERE WHAT IT READS IS OF BULK AT MOST 1048576: true; the input reads as it did. -/
def trieOrderUptoRow : OpenClaim := { program := "ytmfchlbafpkgaaa", sum := "a2803fd25230c3d8653dfb75f2caaf185a108f91b142ffbbf653d72bee39719a", func := "cedilla/cedillalaw12.TrieOrder", spec := "trieOrder", inPlace := ["maps.clone"], unfollowed := true, recurses := true, apart := false, narrowed := true }
def TrieOrderUptoSaid : Prop := trieOrderUptoRow.holds Try.pinned (OpenSpec.upto trieOrderSpec)

/-- 'cedillalaw12.TrieUnder', WHERE WHAT IT READS IS OF BULK AT MOST 1048576: true; the input reads as it did. -/
def trieUnderUptoRow : OpenClaim := { program := "ytmfchlbafpkgaaa", sum := "a2803fd25230c3d8653dfb75f2caaf185a108f91b142ffbbf653d72bee39719a", func := "cedilla/cedillalaw12.TrieUnder", spec := "trieUnder", inPlace := ["maps.clone"], unfollowed := true, recurses := true, apart := false, narrowed := true }
def TrieUnderUptoSaid : Prop := trieUnderUptoRow.holds Try.pinned (OpenSpec.upto trieUnderSpec)

/-- 'cedillalaw13.DawgBuilds', WHERE WHAT IT READS IS OF BULK AT MOST 1048576: true; the input reads as it did. -/
def dawgBuildsUptoRow : OpenClaim := { program := "ytmfchlbafpkgaaa", sum := "a2803fd25230c3d8653dfb75f2caaf185a108f91b142ffbbf653d72bee39719a", func := "cedilla/cedillalaw13.DawgBuilds", spec := "dawgBuilds", unfollowed := true, recurses := true, apart := false, narrowed := true }
def DawgBuildsUptoSaid : Prop := dawgBuildsUptoRow.holds Try.pinned (OpenSpec.upto dawgBuildsSpec)

/-- 'cedillalaw13.DawgLeast', WHERE WHAT IT READS IS OF BULK AT MOST 1048576: true; the input reads as it did. -/
def dawgLeastUptoRow : OpenClaim := { program := "ytmfchlbafpkgaaa", sum := "a2803fd25230c3d8653dfb75f2caaf185a108f91b142ffbbf653d72bee39719a", func := "cedilla/cedillalaw13.DawgLeast", spec := "dawgLeast", unfollowed := true, recurses := true, apart := false, narrowed := true }
def DawgLeastUptoSaid : Prop := dawgLeastUptoRow.holds Try.pinned (OpenSpec.upto dawgLeastSpec)

/-- 'cedillalaw13.DawgKnown', WHERE WHAT IT READS IS OF BULK AT MOST 1048576: true; the input reads as it did. -/
def dawgKnownUptoRow : OpenClaim := { program := "ytmfchlbafpkgaaa", sum := "a2803fd25230c3d8653dfb75f2caaf185a108f91b142ffbbf653d72bee39719a", func := "cedilla/cedillalaw13.DawgKnown", spec := "dawgKnown", unfollowed := true, recurses := true, apart := false, narrowed := true }
def DawgKnownUptoSaid : Prop := dawgKnownUptoRow.holds Try.pinned (OpenSpec.upto dawgKnownSpec)

end Rows
end Go.Proofs.Ytmfchlbafpkgaaa

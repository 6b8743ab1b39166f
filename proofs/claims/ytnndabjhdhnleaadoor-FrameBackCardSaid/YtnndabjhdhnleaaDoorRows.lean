/-
  NARROWER THAN 'FOR EVERY INPUT', by the rows' own cells (each row's printed sentence says how): FrameReads: laid · FrameBack: laid · FrameLaid: laid · FrameKnown: laid · FrameMoves: laid.
  DERIVED. THE GIVEN ROWS OF THIS SEAT. 5 by the template 'for every input the law returns true; each argument reads behind the call as it read before'; 0 by the template 'total and deterministic' (their statements: YtnndabjhdhnleaaDoorTotals.lean).
  GIVEN WITH THE SEED: the statements are not yours to turn. If you find one false, say at which input.
  Laid BY PROGRAM, IN A SANDBOX (cutbox-rows.mjs): the forced cells as the released guide's own fill.sh prints them over the translation fa14c0d9c28157d2… (all of the seat's roots in one cut). By AI agents, Wed Nov 11 2026. No macro, syntax, notation, axiom, sorry.
-/
import Derived.Test.YtnndabjhdhnleaaDoorChecked
import GoSem.Claim
import GoSem.ClaimJoined
import GoSem.ClaimMapViews
import Derived.JoinedTies
import Derived.KernelRfl
namespace Go.Proofs.YtnndabjhdhnleaaDoor
/- THE CELL 'sum', in the pinned program and in every row, IS THE sha256 OF THE DUMP (.gsa) THAT YtnndabjhdhnleaaDoorProg.lean LOADS. Nothing in Lean hashes anything: it is a label: what it is worth is what the hold of that sum in a sandbox is worth. -/
noncomputable def Tryd.pinned : Pinned := { name := "ytnndabjhdhnleaadoor", sum := "fa14c0d9c28157d28ba7d95f0ef862066b7394bead6dcc28d7724a1c40b8ca40", checked := Tryd.checked }
namespace Rows
def none {H : Type} : Left H := { results := [], args := [] }

/- WHAT THE LISTED PACKAGE-LEVEL VARIABLES READ AS WHEN THE CALL BEGINS. Each datum BY PROGRAM (the guide's laid-datum.mjs) off the statement by which the dump's own 'gosem.cut.vars' lays the variable. In a bare row this is a premise. The card (YtnndabjhdhnleaaDoorCards.lean) ties it to the program's text. -/
def laid_cedilla_crc_fours {H : Type} : DataW H := .agg [.lit (.int .u32 0), .lit (.int .u32 498536548), .lit (.int .u32 997073096), .lit (.int .u32 651767980), .lit (.int .u32 1994146192), .lit (.int .u32 1802195444), .lit (.int .u32 1303535960), .lit (.int .u32 1342533948), .lit (.int .u32 3988292384), .lit (.int .u32 4027552580), .lit (.int .u32 3604390888), .lit (.int .u32 3412177804), .lit (.int .u32 2607071920), .lit (.int .u32 2262029012), .lit (.int .u32 2685067896), .lit (.int .u32 3183342108)]

/-- 'cedillalaw03.FrameReads': WHATEVER THE INPUT: true; the input reads as it did. -/
def frameReadsSpec : ChangeSpec := { name := "frameReads", fn := fun _ => fun
  | [d1, d2, d3] => { results := [.lit (.bool true)], args := [d1, d2, d3] }
  | _ => none }
def frameReadsRow : OpenClaim := { program := "ytnndabjhdhnleaadoor", sum := "fa14c0d9c28157d28ba7d95f0ef862066b7394bead6dcc28d7724a1c40b8ca40", func := "cedilla/cedillalaw03.FrameReads", spec := "frameReads", inPlace := ["internal/abi.NoEscape"], unfollowed := true, recurses := true, named := ["cedilla/crc.fours"], apart := false, laid := [("cedilla/crc.fours", laid_cedilla_crc_fours)] }
def FrameReadsSaid : Prop := frameReadsRow.holds Tryd.pinned (OpenSpec.ofChange frameReadsSpec)

/-- ITS FALSE NEIGHBOUR: 'it returns false'. Refute it at one input. -/
def frameReadsWrong : ChangeSpec := { name := "frameReads", fn := fun _ => fun
  | [d1, d2, d3] => { results := [.lit (.bool false)], args := [d1, d2, d3] }
  | _ => none }
def FrameReadsWrongFalsely : Prop := frameReadsRow.holds Tryd.pinned (OpenSpec.ofChange frameReadsWrong)

/-- 'cedillalaw03.FrameBack': WHATEVER THE INPUT: true; the input reads as it did. -/
def frameBackSpec : ChangeSpec := { name := "frameBack", fn := fun _ => fun
  | [d1, d2] => { results := [.lit (.bool true)], args := [d1, d2] }
  | _ => none }
def frameBackRow : OpenClaim := { program := "ytnndabjhdhnleaadoor", sum := "fa14c0d9c28157d28ba7d95f0ef862066b7394bead6dcc28d7724a1c40b8ca40", func := "cedilla/cedillalaw03.FrameBack", spec := "frameBack", inPlace := ["internal/abi.NoEscape"], unfollowed := true, recurses := true, named := ["cedilla/crc.fours"], apart := false, laid := [("cedilla/crc.fours", laid_cedilla_crc_fours)] }
def FrameBackSaid : Prop := frameBackRow.holds Tryd.pinned (OpenSpec.ofChange frameBackSpec)

/-- ITS FALSE NEIGHBOUR: 'it returns false'. Refute it at one input. -/
def frameBackWrong : ChangeSpec := { name := "frameBack", fn := fun _ => fun
  | [d1, d2] => { results := [.lit (.bool false)], args := [d1, d2] }
  | _ => none }
def FrameBackWrongFalsely : Prop := frameBackRow.holds Tryd.pinned (OpenSpec.ofChange frameBackWrong)

/-- 'cedillalaw03.FrameLaid': WHATEVER THE INPUT: true; the input reads as it did. -/
def frameLaidSpec : ChangeSpec := { name := "frameLaid", fn := fun _ => fun
  | [d1, d2, d3] => { results := [.lit (.bool true)], args := [d1, d2, d3] }
  | _ => none }
def frameLaidRow : OpenClaim := { program := "ytnndabjhdhnleaadoor", sum := "fa14c0d9c28157d28ba7d95f0ef862066b7394bead6dcc28d7724a1c40b8ca40", func := "cedilla/cedillalaw03.FrameLaid", spec := "frameLaid", inPlace := ["internal/abi.NoEscape"], unfollowed := true, recurses := true, named := ["cedilla/crc.fours"], apart := false, laid := [("cedilla/crc.fours", laid_cedilla_crc_fours)] }
def FrameLaidSaid : Prop := frameLaidRow.holds Tryd.pinned (OpenSpec.ofChange frameLaidSpec)

/-- ITS FALSE NEIGHBOUR: 'it returns false'. Refute it at one input. -/
def frameLaidWrong : ChangeSpec := { name := "frameLaid", fn := fun _ => fun
  | [d1, d2, d3] => { results := [.lit (.bool false)], args := [d1, d2, d3] }
  | _ => none }
def FrameLaidWrongFalsely : Prop := frameLaidRow.holds Tryd.pinned (OpenSpec.ofChange frameLaidWrong)

/-- 'cedillalaw03.FrameKnown': WHATEVER THE INPUT: true; the input reads as it did. -/
def frameKnownSpec : ChangeSpec := { name := "frameKnown", fn := fun _ => fun
  | [] => { results := [.lit (.bool true)], args := [] }
  | _ => none }
def frameKnownRow : OpenClaim := { program := "ytnndabjhdhnleaadoor", sum := "fa14c0d9c28157d28ba7d95f0ef862066b7394bead6dcc28d7724a1c40b8ca40", func := "cedilla/cedillalaw03.FrameKnown", spec := "frameKnown", inPlace := ["internal/abi.NoEscape", "internal/bytealg.MakeNoZero"], unfollowed := true, recurses := true, named := ["cedilla/crc.fours"], apart := false, laid := [("cedilla/crc.fours", laid_cedilla_crc_fours)] }
def FrameKnownSaid : Prop := frameKnownRow.holds Tryd.pinned (OpenSpec.ofChange frameKnownSpec)

/-- ITS FALSE NEIGHBOUR: 'it returns false'. Refute it at one input. -/
def frameKnownWrong : ChangeSpec := { name := "frameKnown", fn := fun _ => fun
  | [] => { results := [.lit (.bool false)], args := [] }
  | _ => none }
def FrameKnownWrongFalsely : Prop := frameKnownRow.holds Tryd.pinned (OpenSpec.ofChange frameKnownWrong)

/-- 'cedillalaw03.FrameMoves': WHATEVER THE INPUT: true; the input reads as it did. -/
def frameMovesSpec : ChangeSpec := { name := "frameMoves", fn := fun _ => fun
  | [d1, d2, d3] => { results := [.lit (.bool true)], args := [d1, d2, d3] }
  | _ => none }
def frameMovesRow : OpenClaim := { program := "ytnndabjhdhnleaadoor", sum := "fa14c0d9c28157d28ba7d95f0ef862066b7394bead6dcc28d7724a1c40b8ca40", func := "cedilla/cedillalaw03.FrameMoves", spec := "frameMoves", inPlace := ["internal/abi.NoEscape"], unfollowed := true, recurses := true, named := ["cedilla/crc.fours"], apart := false, laid := [("cedilla/crc.fours", laid_cedilla_crc_fours)] }
def FrameMovesSaid : Prop := frameMovesRow.holds Tryd.pinned (OpenSpec.ofChange frameMovesSpec)

/-- ITS FALSE NEIGHBOUR: 'it returns false'. Refute it at one input. -/
def frameMovesWrong : ChangeSpec := { name := "frameMoves", fn := fun _ => fun
  | [d1, d2, d3] => { results := [.lit (.bool false)], args := [d1, d2, d3] }
  | _ => none }
def FrameMovesWrongFalsely : Prop := frameMovesRow.holds Tryd.pinned (OpenSpec.ofChange frameMovesWrong)

/- THE SECOND FORM. 'bulk': how many values and letters a reading holds, each counted each time it is reached (what is shared counts as often as it is met; a slice's spare places count too). A statement '..UptoSaid' is the law's where the arguments, and the package variables that the reading takes, are together of bulk at most 1048576: NARROWER than '..Said'. Prove '..Said' where nothing that the law and all that it calls make is longer than what came in: it says more and counts as full. Else prove '..UptoSaid'. A law counts once. -/
mutual
def uptoBulk {H : Type} : DataW H → Nat
  | .lit (.string bytes) => bytes.length + 1
  | .lit _ => 1
  | .nil => 1
  | .ptr d => uptoBulk d + 1
  | .slice elems spare => uptoBulkAll elems + uptoBulkAll spare + 1
  | .agg parts => uptoBulkAll parts + 1
  | .iface _ d => uptoBulk d + 1
  | .map entries => uptoBulkEntries entries + 1
  | .held _ => 1
def uptoBulkAll {H : Type} : List (DataW H) → Nat
  | [] => 0
  | d :: r => uptoBulk d + uptoBulkAll r
def uptoBulkEntries {H : Type} : List (Lit × DataW H) → Nat
  | [] => 0
  | x :: r => uptoBulkEntry x + uptoBulkEntries r
def uptoBulkEntry {H : Type} : Lit × DataW H → Nat
  | (.string bytes, d) => bytes.length + uptoBulk d + 1
  | (_, d) => uptoBulk d + 1
 end
def uptoSmall : (H : Type) → List (DataW H) → Bool := fun _ ds => decide (uptoBulkAll ds ≤ 1048576)
def OpenSpec.upto (s : _root_.Go.ChangeSpec) : _root_.Go.OpenSpec := { _root_.Go.OpenSpec.ofChange s with cond := some uptoSmall }

/-- 'cedillalaw03.FrameReads', WHERE WHAT IT READS IS OF BULK AT MOST 1048576: true; the input reads as it did. -/
def frameReadsUptoRow : OpenClaim := { program := "ytnndabjhdhnleaadoor", sum := "fa14c0d9c28157d28ba7d95f0ef862066b7394bead6dcc28d7724a1c40b8ca40", func := "cedilla/cedillalaw03.FrameReads", spec := "frameReads", inPlace := ["internal/abi.NoEscape"], unfollowed := true, recurses := true, named := ["cedilla/crc.fours"], apart := false, laid := [("cedilla/crc.fours", laid_cedilla_crc_fours)], narrowed := true }
def FrameReadsUptoSaid : Prop := frameReadsUptoRow.holds Tryd.pinned (OpenSpec.upto frameReadsSpec)

/-- 'cedillalaw03.FrameBack', WHERE WHAT IT READS IS OF BULK AT MOST 1048576: true; the input reads as it did. -/
def frameBackUptoRow : OpenClaim := { program := "ytnndabjhdhnleaadoor", sum := "fa14c0d9c28157d28ba7d95f0ef862066b7394bead6dcc28d7724a1c40b8ca40", func := "cedilla/cedillalaw03.FrameBack", spec := "frameBack", inPlace := ["internal/abi.NoEscape"], unfollowed := true, recurses := true, named := ["cedilla/crc.fours"], apart := false, laid := [("cedilla/crc.fours", laid_cedilla_crc_fours)], narrowed := true }
def FrameBackUptoSaid : Prop := frameBackUptoRow.holds Tryd.pinned (OpenSpec.upto frameBackSpec)

/-- 'cedillalaw03.FrameLaid', WHERE WHAT IT READS IS OF BULK AT MOST 1048576: true; the input reads as it did. -/
def frameLaidUptoRow : OpenClaim := { program := "ytnndabjhdhnleaadoor", sum := "fa14c0d9c28157d28ba7d95f0ef862066b7394bead6dcc28d7724a1c40b8ca40", func := "cedilla/cedillalaw03.FrameLaid", spec := "frameLaid", inPlace := ["internal/abi.NoEscape"], unfollowed := true, recurses := true, named := ["cedilla/crc.fours"], apart := false, laid := [("cedilla/crc.fours", laid_cedilla_crc_fours)], narrowed := true }
def FrameLaidUptoSaid : Prop := frameLaidUptoRow.holds Tryd.pinned (OpenSpec.upto frameLaidSpec)

/-- 'cedillalaw03.FrameKnown', WHERE WHAT IT READS IS OF BULK AT MOST 1048576: true; the input reads as it did. -/
def frameKnownUptoRow : OpenClaim := { program := "ytnndabjhdhnleaadoor", sum := "fa14c0d9c28157d28ba7d95f0ef862066b7394bead6dcc28d7724a1c40b8ca40", func := "cedilla/cedillalaw03.FrameKnown", spec := "frameKnown", inPlace := ["internal/abi.NoEscape", "internal/bytealg.MakeNoZero"], unfollowed := true, recurses := true, named := ["cedilla/crc.fours"], apart := false, laid := [("cedilla/crc.fours", laid_cedilla_crc_fours)], narrowed := true }
def FrameKnownUptoSaid : Prop := frameKnownUptoRow.holds Tryd.pinned (OpenSpec.upto frameKnownSpec)

/-- 'cedillalaw03.FrameMoves', WHERE WHAT IT READS IS OF BULK AT MOST 1048576: true; the input reads as it did. -/
def frameMovesUptoRow : OpenClaim := { program := "ytnndabjhdhnleaadoor", sum := "fa14c0d9c28157d28ba7d95f0ef862066b7394bead6dcc28d7724a1c40b8ca40", func := "cedilla/cedillalaw03.FrameMoves", spec := "frameMoves", inPlace := ["internal/abi.NoEscape"], unfollowed := true, recurses := true, named := ["cedilla/crc.fours"], apart := false, laid := [("cedilla/crc.fours", laid_cedilla_crc_fours)], narrowed := true }
def FrameMovesUptoSaid : Prop := frameMovesUptoRow.holds Tryd.pinned (OpenSpec.upto frameMovesSpec)

end Rows
end Go.Proofs.YtnndabjhdhnleaaDoor

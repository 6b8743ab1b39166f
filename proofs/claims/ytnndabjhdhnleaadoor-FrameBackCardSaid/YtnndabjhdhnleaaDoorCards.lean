/-
  DERIVED. GIVEN WITH THE SEED: THE CARDS: each row of YtnndabjhdhnleaaDoorRows.lean that lists a variable, with what it lists TIED to the program's text (the seventh form; the later family's looks); each row that meets fmt, with fmt's text TOLD by the authors' own Lean function (tested against real Go, not proved from fmt's source: count such statements apart). THE CARD IS WHAT COUNTS. Prove the row's statement (the work); the ties are given (YtnndabjhdhnleaaDoorTie.lean); close each card by the builder's one call (the guide's Derived/Test/ToyasCard.lean, 'card_holds'). Laid BY PROGRAM, IN A SANDBOX (cutbox-door.mjs). By AI agents, Wed Nov 11 2026. No macro, syntax, notation, axiom, sorry.
-/
import Derived.Test.YtnndabjhdhnleaaDoorRows
import GoSem.ClaimSeven
namespace Go.Proofs.YtnndabjhdhnleaaDoor
namespace Rows

/-- THE TIED CARD OF 'cedillalaw03.FrameReads'. -/
def frameReadsCard : Claim7 := { stood := { row := frameReadsRow, standIns := [], harness := (true, "1b09a222daf149489393fa44bc634488b85a7df682f995c62c745aa32864d071"), looks := false }, kinds := [], alts := [], laidByText := true, laidKinds := [.data], laidTests := true, laidLooks := .later }
def FrameReadsCardSaid : Prop := Claim7.holds Tryd.pinned (.plain (OpenSpec.ofChange frameReadsSpec)) frameReadsCard

/-- THE TIED CARD OF 'cedillalaw03.FrameBack'. -/
def frameBackCard : Claim7 := { stood := { row := frameBackRow, standIns := [], harness := (true, "1b09a222daf149489393fa44bc634488b85a7df682f995c62c745aa32864d071"), looks := false }, kinds := [], alts := [], laidByText := true, laidKinds := [.data], laidTests := true, laidLooks := .later }
def FrameBackCardSaid : Prop := Claim7.holds Tryd.pinned (.plain (OpenSpec.ofChange frameBackSpec)) frameBackCard

/-- THE TIED CARD OF 'cedillalaw03.FrameLaid'. -/
def frameLaidCard : Claim7 := { stood := { row := frameLaidRow, standIns := [], harness := (true, "1b09a222daf149489393fa44bc634488b85a7df682f995c62c745aa32864d071"), looks := false }, kinds := [], alts := [], laidByText := true, laidKinds := [.data], laidTests := true, laidLooks := .later }
def FrameLaidCardSaid : Prop := Claim7.holds Tryd.pinned (.plain (OpenSpec.ofChange frameLaidSpec)) frameLaidCard

/-- THE TIED CARD OF 'cedillalaw03.FrameKnown'. -/
def frameKnownCard : Claim7 := { stood := { row := frameKnownRow, standIns := [], harness := (true, "1b09a222daf149489393fa44bc634488b85a7df682f995c62c745aa32864d071"), looks := false }, kinds := [], alts := [], laidByText := true, laidKinds := [.data], laidTests := true, laidLooks := .later }
def FrameKnownCardSaid : Prop := Claim7.holds Tryd.pinned (.plain (OpenSpec.ofChange frameKnownSpec)) frameKnownCard

/-- THE TIED CARD OF 'cedillalaw03.FrameMoves'. -/
def frameMovesCard : Claim7 := { stood := { row := frameMovesRow, standIns := [], harness := (true, "1b09a222daf149489393fa44bc634488b85a7df682f995c62c745aa32864d071"), looks := false }, kinds := [], alts := [], laidByText := true, laidKinds := [.data], laidTests := true, laidLooks := .later }
def FrameMovesCardSaid : Prop := Claim7.holds Tryd.pinned (.plain (OpenSpec.ofChange frameMovesSpec)) frameMovesCard

/-- THE SECOND FORM's CARD OF 'cedillalaw03.FrameReads'. -/
def frameReadsUptoCard : Claim7 := { stood := { row := frameReadsUptoRow, standIns := [], harness := (true, "1b09a222daf149489393fa44bc634488b85a7df682f995c62c745aa32864d071"), looks := false }, kinds := [], alts := [], laidByText := true, laidKinds := [.data], laidTests := true, laidLooks := .later }
def FrameReadsUptoCardSaid : Prop := Claim7.holds Tryd.pinned (.plain (OpenSpec.upto frameReadsSpec)) frameReadsUptoCard

/-- THE SECOND FORM's CARD OF 'cedillalaw03.FrameBack'. -/
def frameBackUptoCard : Claim7 := { stood := { row := frameBackUptoRow, standIns := [], harness := (true, "1b09a222daf149489393fa44bc634488b85a7df682f995c62c745aa32864d071"), looks := false }, kinds := [], alts := [], laidByText := true, laidKinds := [.data], laidTests := true, laidLooks := .later }
def FrameBackUptoCardSaid : Prop := Claim7.holds Tryd.pinned (.plain (OpenSpec.upto frameBackSpec)) frameBackUptoCard

/-- THE SECOND FORM's CARD OF 'cedillalaw03.FrameLaid'. -/
def frameLaidUptoCard : Claim7 := { stood := { row := frameLaidUptoRow, standIns := [], harness := (true, "1b09a222daf149489393fa44bc634488b85a7df682f995c62c745aa32864d071"), looks := false }, kinds := [], alts := [], laidByText := true, laidKinds := [.data], laidTests := true, laidLooks := .later }
def FrameLaidUptoCardSaid : Prop := Claim7.holds Tryd.pinned (.plain (OpenSpec.upto frameLaidSpec)) frameLaidUptoCard

/-- THE SECOND FORM's CARD OF 'cedillalaw03.FrameKnown'. -/
def frameKnownUptoCard : Claim7 := { stood := { row := frameKnownUptoRow, standIns := [], harness := (true, "1b09a222daf149489393fa44bc634488b85a7df682f995c62c745aa32864d071"), looks := false }, kinds := [], alts := [], laidByText := true, laidKinds := [.data], laidTests := true, laidLooks := .later }
def FrameKnownUptoCardSaid : Prop := Claim7.holds Tryd.pinned (.plain (OpenSpec.upto frameKnownSpec)) frameKnownUptoCard

/-- THE SECOND FORM's CARD OF 'cedillalaw03.FrameMoves'. -/
def frameMovesUptoCard : Claim7 := { stood := { row := frameMovesUptoRow, standIns := [], harness := (true, "1b09a222daf149489393fa44bc634488b85a7df682f995c62c745aa32864d071"), looks := false }, kinds := [], alts := [], laidByText := true, laidKinds := [.data], laidTests := true, laidLooks := .later }
def FrameMovesUptoCardSaid : Prop := Claim7.holds Tryd.pinned (.plain (OpenSpec.upto frameMovesSpec)) frameMovesUptoCard
end Rows
end Go.Proofs.YtnndabjhdhnleaaDoor

/-
  DERIVED. GIVEN WITH THE SEED: THE CARDS: each row of YtjiilmiikejnhaaDoorRows.lean that lists a variable, with what it lists TIED to the program's text (the seventh form; the later family's looks); each row that meets fmt, with fmt's text TOLD by the authors' own Lean function (tested against real Go, not proved from fmt's source: count such statements apart). THE CARD IS WHAT COUNTS. Prove the row's statement (the work); the ties are given (YtjiilmiikejnhaaDoorTie.lean); close each card by the builder's one call (the guide's Derived/Test/ToyasCard.lean, 'card_holds'). Laid BY PROGRAM, IN A SANDBOX (cutbox-door.mjs). By AI agents, Wed Nov 11 2026. No macro, syntax, notation, axiom, sorry.
-/
import Derived.Test.YtjiilmiikejnhaaDoorRows
import GoSem.ClaimSeven
namespace Go.Proofs.YtjiilmiikejnhaaDoor
namespace Rows

/-- THE TIED CARD OF 'cedillalaw15.PackLays'. -/
def packLaysCard : Claim7 := { stood := { row := packLaysRow, standIns := [], harness := (true, "63e17419503251efb8e4795881534c6bcfc43df275e19d4c20919941e3436aa5"), looks := true }, kinds := [], alts := [], laidByText := true, laidKinds := [.handle, .data], laidTests := true, laidLooks := .later }
def PackLaysCardSaid : Prop := Claim7.holds Tryd.pinned (.plain (OpenSpec.ofChange packLaysSpec)) packLaysCard

/-- THE TIED CARD OF 'cedillalaw15.PackReads'. -/
def packReadsCard : Claim7 := { stood := { row := packReadsRow, standIns := [], harness := (true, "63e17419503251efb8e4795881534c6bcfc43df275e19d4c20919941e3436aa5"), looks := true }, kinds := [], alts := [], laidByText := true, laidKinds := [.handle, .data], laidTests := true, laidLooks := .later }
def PackReadsCardSaid : Prop := Claim7.holds Tryd.pinned (.plain (OpenSpec.ofChange packReadsSpec)) packReadsCard

/-- THE TIED CARD OF 'cedillalaw15.PackBack'. -/
def packBackCard : Claim7 := { stood := { row := packBackRow, standIns := [], harness := (true, "63e17419503251efb8e4795881534c6bcfc43df275e19d4c20919941e3436aa5"), looks := true }, kinds := [], alts := [], laidByText := true, laidKinds := [.handle, .data], laidTests := true, laidLooks := .later }
def PackBackCardSaid : Prop := Claim7.holds Tryd.pinned (.plain (OpenSpec.ofChange packBackSpec)) packBackCard

/-- THE TIED CARD OF 'cedillalaw15.PackBursts'. -/
def packBurstsCard : Claim7 := { stood := { row := packBurstsRow, standIns := [], harness := (true, "63e17419503251efb8e4795881534c6bcfc43df275e19d4c20919941e3436aa5"), looks := true }, kinds := [], alts := [], laidByText := true, laidKinds := [.handle, .data], laidTests := true, laidLooks := .later }
def PackBurstsCardSaid : Prop := Claim7.holds Tryd.pinned (.plain (OpenSpec.ofChange packBurstsSpec)) packBurstsCard

/-- THE TIED CARD OF 'cedillalaw15.PackKnown'. -/
def packKnownCard : Claim7 := { stood := { row := packKnownRow, standIns := [], harness := (true, "63e17419503251efb8e4795881534c6bcfc43df275e19d4c20919941e3436aa5"), looks := true }, kinds := [], alts := [], laidByText := true, laidKinds := [.handle, .data], laidTests := true, laidLooks := .later }
def PackKnownCardSaid : Prop := Claim7.holds Tryd.pinned (.plain (OpenSpec.ofChange packKnownSpec)) packKnownCard

/-- THE SECOND FORM's CARD OF 'cedillalaw15.PackLays'. -/
def packLaysUptoCard : Claim7 := { stood := { row := packLaysUptoRow, standIns := [], harness := (true, "63e17419503251efb8e4795881534c6bcfc43df275e19d4c20919941e3436aa5"), looks := true }, kinds := [], alts := [], laidByText := true, laidKinds := [.handle, .data], laidTests := true, laidLooks := .later }
def PackLaysUptoCardSaid : Prop := Claim7.holds Tryd.pinned (.plain (OpenSpec.upto packLaysSpec)) packLaysUptoCard

/-- THE SECOND FORM's CARD OF 'cedillalaw15.PackReads'. -/
def packReadsUptoCard : Claim7 := { stood := { row := packReadsUptoRow, standIns := [], harness := (true, "63e17419503251efb8e4795881534c6bcfc43df275e19d4c20919941e3436aa5"), looks := true }, kinds := [], alts := [], laidByText := true, laidKinds := [.handle, .data], laidTests := true, laidLooks := .later }
def PackReadsUptoCardSaid : Prop := Claim7.holds Tryd.pinned (.plain (OpenSpec.upto packReadsSpec)) packReadsUptoCard

/-- THE SECOND FORM's CARD OF 'cedillalaw15.PackBack'. -/
def packBackUptoCard : Claim7 := { stood := { row := packBackUptoRow, standIns := [], harness := (true, "63e17419503251efb8e4795881534c6bcfc43df275e19d4c20919941e3436aa5"), looks := true }, kinds := [], alts := [], laidByText := true, laidKinds := [.handle, .data], laidTests := true, laidLooks := .later }
def PackBackUptoCardSaid : Prop := Claim7.holds Tryd.pinned (.plain (OpenSpec.upto packBackSpec)) packBackUptoCard

/-- THE SECOND FORM's CARD OF 'cedillalaw15.PackBursts'. -/
def packBurstsUptoCard : Claim7 := { stood := { row := packBurstsUptoRow, standIns := [], harness := (true, "63e17419503251efb8e4795881534c6bcfc43df275e19d4c20919941e3436aa5"), looks := true }, kinds := [], alts := [], laidByText := true, laidKinds := [.handle, .data], laidTests := true, laidLooks := .later }
def PackBurstsUptoCardSaid : Prop := Claim7.holds Tryd.pinned (.plain (OpenSpec.upto packBurstsSpec)) packBurstsUptoCard

/-- THE SECOND FORM's CARD OF 'cedillalaw15.PackKnown'. -/
def packKnownUptoCard : Claim7 := { stood := { row := packKnownUptoRow, standIns := [], harness := (true, "63e17419503251efb8e4795881534c6bcfc43df275e19d4c20919941e3436aa5"), looks := true }, kinds := [], alts := [], laidByText := true, laidKinds := [.handle, .data], laidTests := true, laidLooks := .later }
def PackKnownUptoCardSaid : Prop := Claim7.holds Tryd.pinned (.plain (OpenSpec.upto packKnownSpec)) packKnownUptoCard
end Rows
end Go.Proofs.YtjiilmiikejnhaaDoor

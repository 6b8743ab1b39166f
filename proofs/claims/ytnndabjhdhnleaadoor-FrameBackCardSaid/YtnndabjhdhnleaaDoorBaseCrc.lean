/-
  What all five proofs share: the table's reading, the witness's start, the wrapper of a law whose arguments are plain values.
-/
import Derived.Test.YtnndabjhdhnleaaDoorCards
import Derived.Test.YtnndabjhdhnleaaDoorTie
import Derived.Test.YtnndabjhdhnleaaDoorCrcSum
import Derived.ProofKit
import Derived.LaidMore
import Derived.OpenShut
import Derived.Stop.Joined
import Derived.Lib.LaidTab
import Derived.SevenTiedAt
namespace Go.Proofs.YtnndabjhdhnleaaDoor
open Go.ChangeShapes Go.WideShapes Go.ChangeAt Go.RowKit

theorem own : ownKnob Tryd.prog.godebug = none := by kernel_rfl
theorem gFours : Tryd.prog.globalNamed "cedilla/crc.fours" = some 1 := by kernel_rfl
theorem tFours : (Tryd.prog.globals[1]?).map (·.type) = some 103 := by kernel_rfl
theorem cells26 : Tryd.prog.cellsOf 80 = 1 := by kernel_rfl
theorem cells44 : Tryd.prog.cellsOf 103 = 16 := by kernel_rfl
theorem laidPlain : (([("cedilla/crc.fours", Rows.laid_cedilla_crc_fours)] : List (String × DataW Unit)).all fun x => x.2.handleName?.isNone) = true := by kernel_rfl

/-- The door's own heap meets the condition. -/
theorem door_met (os : Os) (args : Array Value) : laidMetH Tryd.prog [("cedilla/crc.fours", Rows.laid_cedilla_crc_fours)] ((World.doorLaid Tryd.prog 400 os).forCall (fun _ _ => 0) ⟨#[], args, []⟩).memory :=
  laidMetH_of_parts3 (fuel := 8) (laidMet_of_run' 8 (by kernel_rfl) (by kernel_rfl)) (by kernel_rfl) (by kernel_rfl)

def tableInts : List Int := [0, 498536548, 997073096, 651767980, 1994146192, 1802195444, 1303535960, 1342533948, 3988292384, 4027552580, 3604390888, 3412177804, 2607071920, 2262029012, 2685067896, 3183342108]
theorem tableInts_eq (i : Nat) (h : i < 16) : tableInts.getD i 0 = ((Plain.table.getD i 0 : Nat) : Int) := by
  have : ∀ j : Fin 16, tableInts.getD j.1 0 = ((Plain.table.getD j.1 0 : Nat) : Int) := by decide
  exact this ⟨i, h⟩

/-- From the condition to what the walks ask. -/
theorem fours_of_laid {W : World} (h : laidMetH Tryd.prog [("cedilla/crc.fours", Rows.laid_cedilla_crc_fours)] W) : Fours W := by
  rw [MakeChecks.laidMetH_plain _ _ _ laidPlain] at h
  have hT : Lib.TabIs Tryd.prog W "cedilla/crc.fours" .u32 tableInts := Lib.tabIs_of_head (rest := []) gFours tFours Tryd.underlying103 Tryd.underlying80 cells26 cells44 h
  have hc : ∀ i, i < 16 → W.cell? ⟨1, i, none⟩ = some (.int .u32 ((Plain.table.getD i 0 : Nat) : Int)) := fun i hi => by
    rw [← tableInts_eq i hi]
    exact hT.cell gFours i hi
  refine ⟨?_, hc⟩
  rcases Nat.lt_or_ge 1 W.heap.size with h0 | h0
  · exact h0
  · have := hc 0 (by omega)
    simp [World.cell?, Array.getElem?_eq_none h0] at this

end Go.Proofs.YtnndabjhdhnleaaDoor

/-
  What the proofs share: the two variables' reading, the witness's start.
-/
import Derived.Test.YtjiilmiikejnhaaDoorCards
import Derived.Test.YtjiilmiikejnhaaDoorTie
import Derived.Test.YtjiilmiikejnhaaDoorP22
import Derived.LaidHandle
import Derived.ProofKit
import Derived.LaidMore
import Derived.OpenShut
import Derived.Stop.Joined
import Derived.Lib.LaidTab
import Derived.SevenTiedAt
set_option linter.unusedVariables false
set_option linter.unusedSimpArgs false
namespace Go.Proofs.YtjiilmiikejnhaaDoor
open Go.ChangeShapes Go.WideShapes Go.ChangeAt Go.RowKit

theorem ownDoor : ownKnob Tryd.prog.godebug = none := by kernel_rfl
theorem gFours : Tryd.prog.globalNamed "cedilla/crc.fours" = some 1 := by kernel_rfl
theorem tFours : (Tryd.prog.globals[1]?).map (·.type) = some 175 := by kernel_rfl
theorem cells26 : Tryd.prog.cellsOf 48 = 1 := by kernel_rfl
theorem cells44 : Tryd.prog.cellsOf 175 = 16 := by kernel_rfl

/-- The door's own heap meets the condition. -/
theorem door_met (os : Os) (args : Array Value) : laidMetH Tryd.prog [("errors.errorType", Rows.laid_errors_errorType), ("cedilla/crc.fours", Rows.laid_cedilla_crc_fours)] ((World.doorLaid Tryd.prog 400 os).forCall (fun _ _ => 0) ⟨#[], args, []⟩).memory :=
  laidMetH_of_parts3 (fuel := 8) (show laidMet Tryd.prog [("cedilla/crc.fours", Rows.laid_cedilla_crc_fours)] _ from laidMet_of_run' 8 (by kernel_rfl) (by kernel_rfl)) (by kernel_rfl) (by kernel_rfl)

def tableInts : List Int := [0, 498536548, 997073096, 651767980, 1994146192, 1802195444, 1303535960, 1342533948, 3988292384, 4027552580, 3604390888, 3412177804, 2607071920, 2262029012, 2685067896, 3183342108]
theorem tableInts_eq (i : Nat) (h : i < 16) : tableInts.getD i 0 = ((Plain.table.getD i 0 : Nat) : Int) := by
  have : ∀ j : Fin 16, tableInts.getD j.1 0 = ((Plain.table.getD j.1 0 : Nat) : Int) := by decide
  exact this ⟨i, h⟩

theorem gType : Tryd.prog.globalNamed "errors.errorType" = some 0 := by kernel_rfl
theorem rType : (Tryd.prog.cutTypes.find? (·.1 == "internal/reflectlite.rtype")).map (·.2) = some 157 := by kernel_rfl
theorem typesN : Tryd.prog.types.size = 203 := by kernel_rfl
theorem oneRow : ((List.range 203).filter fun t => Tryd.prog.rowNamed t [101, 114, 114, 111, 114]) = [52] := by kernel_rfl

/-- From the condition to what the walks ask. -/
theorem both_of_laid {W : World} (h0 : laidMetH Tryd.prog [("errors.errorType", Rows.laid_errors_errorType), ("cedilla/crc.fours", Rows.laid_cedilla_crc_fours)] W) : Fours W ∧ ErrT W := by
  have hb : laidMet Tryd.prog [("cedilla/crc.fours", Rows.laid_cedilla_crc_fours)] W ∧ handlesMet Tryd.prog [("errors.errorType", Rows.laid_errors_errorType)] W := h0
  obtain ⟨h, hh⟩ := hb
  constructor
  · have hT : Lib.TabIs Tryd.prog W "cedilla/crc.fours" .u32 tableInts := Lib.tabIs_of_head (rest := []) gFours tFours Tryd.underlying175 Tryd.underlying48 cells26 cells44 h
    have hc : ∀ i, i < 16 → W.cell? ⟨1, i, none⟩ = some (.int .u32 ((Plain.table.getD i 0 : Nat) : Int)) := fun i hi => by
      rw [← tableInts_eq i hi]
      exact hT.cell gFours i hi
    refine ⟨?_, hc⟩
    rcases Nat.lt_or_ge 1 W.heap.size with h0 | h0
    · exact h0
    · have := hc 0 (by omega)
      simp [World.cell?, Array.getElem?_eq_none h0] at this
  · obtain ⟨name, u, ty, e1, e2, e3, e4, e5⟩ := hh _ (List.mem_singleton.2 rfl)
    have en : name = [101, 114, 114, 111, 114] := (Option.some.inj e1).symm
    subst en
    obtain rfl := Option.some.inj (rType.symm.trans e2)
    have hm : ty ∈ (List.range 203).filter fun t => Tryd.prog.rowNamed t [101, 114, 114, 111, 114] := List.mem_filter.2 ⟨List.mem_range.2 (by rw [← typesN]; exact e3), e4⟩
    rw [oneRow] at hm
    obtain rfl := List.mem_singleton.1 hm
    have hd : typeHandle Tryd.prog 52 = .pointer (some ⟨2, 52, none⟩) := by kernel_rfl
    rw [hd] at e5
    have := World.var?_cell gType e5 0
    unfold ErrT
    simpa using this

end Go.Proofs.YtjiilmiikejnhaaDoor

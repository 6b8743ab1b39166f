/-
  A slice of numbers of 32 bits that came in, as a list of numbers.
-/
import Derived.Test.YtioilknfjccfeaaDoorNMade
import Derived.ProofKit
import Derived.OpenShut
namespace Go.Proofs.YtioilknfjccfeaaDoor
open Go.ChangeShapes Go.WideShapes Go.ChangeAt Go.RowKit
open Go.ChangeMaps (open_string shut_string)

theorem cells24 : Tryd.prog.cellsOf 24 = 1 := by kernel_rfl
theorem laidOut : laidOutB Tryd.prog = true := by kernel_rfl

/-- A slice of numbers that came in. -/
theorem u32s_of_trod {H : Type} {enc : TypeId × Value → H} {W : World} {fuel : Nat} {a0 : Option Addr} {len cap : Nat} {x : DataW H × List MemPlace} (h : DataW.trod enc Tryd.prog W 0 (fun _ => true) true fuel 41 (Value.slice a0 len cap).cells.toList = some x) :
    ∃ l : List Nat, U32s W (.slice a0 len cap) l := by
  rcases open_ints Tryd.underlying41 Tryd.underlying24 cells24 h with ⟨hcs, _⟩ | ⟨a, len', cap', zs, hcs, _, hl, hm, hz, _, hcell, hwz⟩
  · simp [Value.cells] at hcs
    obtain ⟨rfl, rfl, rfl⟩ := hcs
    exact ⟨[], none, 0, rfl, fun i hi => by simp at hi⟩
  · simp [Value.cells] at hcs
    obtain ⟨rfl, rfl, rfl⟩ := hcs
    simp only [if_true] at hz
    have hnum : ∀ i, i < zs.length → zs.getD i 0 = (((zs.getD i 0).toNat : Nat) : Int) ∧ (zs.getD i 0).toNat < 4294967296 := fun i hi => by
      have := bounds_u32 (hwz (zs.getD i 0) (by simp [List.getD, hi]))
      omega
    have hlen : ((zs.take len).map Int.toNat).length = len := by simp; omega
    refine ⟨(zs.take len).map Int.toNat, some a, cap, by rw [hlen], ?_⟩
    intro i hi
    rw [hlen] at hi
    obtain ⟨b, off, spot⟩ := a
    have hi' : i < zs.length := by omega
    have hspot : spot = none := by simpa [Addr.add] using World.cell?_spot (hcell 0 (by omega))
    subst hspot
    have e : ((zs.take len).map Int.toNat).getD i 0 = (zs.getD i 0).toNat := by simp [List.getD, hi', hi]
    rw [e]
    refine ⟨(hnum i hi').2, b, off, rfl, ?_⟩
    have hc := hcell i hi'
    rw [(hnum i hi').1] at hc
    rw [← hc]
    congr 1
    unfold Addr.add
    split
    · rename_i h0; simp
    · rfl
end Go.Proofs.YtioilknfjccfeaaDoor

/-
  A slice of numbers that came in, as a list of numbers.
-/
import Derived.Test.YtnndabjhdhnleaaVPut
import Derived.ProofKit
import Derived.OpenShut
namespace Go.Proofs.Ytnndabjhdhnleaa
open Go.ChangeShapes Go.WideShapes Go.ChangeAt Go.RowKit
open Go.ChangeMaps (open_string shut_string)

theorem cells25 : Try.prog.cellsOf 25 = 1 := by kernel_rfl

theorem laidOut : laidOutB Try.prog = true := by kernel_rfl

/-- A slice of numbers that came in. -/
theorem nums_of_trod {H : Type} {enc : TypeId × Value → H} {W : World} {fuel : Nat} {a0 : Option Addr} {len cap : Nat} {x : DataW H × List MemPlace} (h : DataW.trod enc Try.prog W 0 (fun _ => true) true fuel 22 (Value.slice a0 len cap).cells.toList = some x) :
    ∃ l : List Nat, l.length = len ∧ len ≤ cap ∧ cap ≤ 9223372036854775807 ∧ (∀ n ∈ l, n < 18446744073709551616) ∧ Nums W (.slice a0 len cap) l := by
  rcases open_ints Try.underlying22 Try.underlying25 cells25 h with ⟨hcs, _⟩ | ⟨a, len', cap', zs, hcs, _, hl, hm, hz, _, hcell, hwz⟩
  · simp [Value.cells] at hcs
    obtain ⟨rfl, rfl, rfl⟩ := hcs
    exact ⟨[], rfl, by omega, by omega, by simp, none, 0, rfl, fun i hi => by simp at hi⟩
  · simp [Value.cells] at hcs
    obtain ⟨rfl, rfl, rfl⟩ := hcs
    simp only [if_true] at hz
    have hnum : ∀ i, i < zs.length → zs.getD i 0 = (((zs.getD i 0).toNat : Nat) : Int) ∧ (zs.getD i 0).toNat < 18446744073709551616 := fun i hi => by
      have := bounds_u64 (hwz (zs.getD i 0) (by simp [List.getD, hi]))
      omega
    have hlen : ((zs.take len).map Int.toNat).length = len := by simp; omega
    refine ⟨(zs.take len).map Int.toNat, hlen, hl, by unfold maxLen at hm; exact hm, ?_, some a, cap, by rw [hlen], ?_⟩
    · intro n hn
      obtain ⟨i, hi, rfl⟩ := List.getElem_of_mem hn
      rw [hlen] at hi
      have := (hnum i (by omega)).2
      simpa [List.getD, show i < zs.length by omega] using this
    · intro i hi
      rw [hlen] at hi
      obtain ⟨b, off, spot⟩ := a
      have hi' : i < zs.length := by omega
      have hspot : spot = none := by simpa [Addr.add] using World.cell?_spot (hcell 0 (by omega))
      subst hspot
      refine ⟨b, off, rfl, ?_⟩
      have hc := hcell i hi'
      rw [(hnum i hi').1] at hc
      have e : ((zs.take len).map Int.toNat).getD i 0 = (zs.getD i 0).toNat := by simp [List.getD, hi', hi]
      rw [e, ← hc]
      congr 1
      unfold Addr.add
      split
      · rename_i h0; simp
      · rfl

theorem Nums.take {W : World} {ad : Option Addr} {n c m : Nat} {l : List Nat} (h : Nums W (.slice ad n c) l) (hl : l.length = n) (hm : m ≤ n) : Nums W (.slice ad m c) (l.take m) := by
  obtain ⟨ad', c', hv, hx⟩ := h
  rw [hl] at hv
  cases hv
  refine ⟨ad, c, by rw [List.length_take, Nat.min_eq_left (by omega)], fun i hi => ?_⟩
  rw [List.length_take] at hi
  obtain ⟨b, o, ha, hc⟩ := hx i (by omega)
  refine ⟨b, o, ha, ?_⟩
  rw [hc]
  simp [List.getD, show i < m by omega]

end Go.Proofs.Ytnndabjhdhnleaa

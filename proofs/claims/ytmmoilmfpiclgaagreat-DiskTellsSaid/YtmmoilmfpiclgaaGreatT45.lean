/-
  What came in: rows of small numbers, opened.
-/
import Derived.Test.YtmmoilmfpiclgaaGreatT28
import Derived.ProofKit
import Derived.OpenShut
set_option linter.unusedVariables false
set_option linter.unusedSimpArgs false
namespace Go.Proofs.YtmmoilmfpiclgaaGreat
open Go.ChangeShapes Go.WideShapes Go.ChangeAt Go.RowKit

/-- What stands behind a slice that came in. -/
theorem slice_of_ok {P : Program} {w : World} {base : Nat} {t e : TypeId} {v : Value} (ht : P.underlying t = some (.slice e)) (h : Value.okWide P w .any base t v) :
    ∃ a len cap, v = .slice a len cap ∧ len ≤ cap ∧ cap ≤ 9223372036854775807 ∧ ∀ b o, a = some ⟨b, o, none⟩ → b < w.heap.size := by
  obtain ⟨a, len, cap, rfl⟩ := okWide_slice ht h
  simp only [Value.okWide, ht, Cell.okWide] at h
  cases a with
  | none =>
    cases len <;> cases cap <;> simp [Cell.ok, ht] at h
    exact ⟨_, _, _, rfl, Nat.le_refl _, Nat.zero_le _, fun b o e => by cases e⟩
  | some a =>
    simp only [Cell.ok, ht] at h
    obtain ⟨h1, h2, _, _, row, cells, h3, _⟩ := h
    refine ⟨_, _, _, rfl, h1, ?_, fun b o e => ?_⟩
    · have : IntKind.i64.max = 9223372036854775807 := by decide
      omega
    · cases e
      unfold World.shape? at h3
      cases hb : w.heap[b]? with
      | none => rw [hb] at h3; cases h3
      | some x => exact (Array.getElem?_eq_some_iff.1 hb).1

theorem cells_u16 : Tryz.prog.cellsOf 57 = 1 := by kernel_rfl
/-- A slice of numbers of 16 bits that came in. -/
theorem u16s_of_trod {H : Type} {enc : TypeId × Value → H} {W : World} {fuel : Nat} {a0 : Option Addr} {len cap : Nat} {x : DataW H × List MemPlace} (h : DataW.trod enc Tryz.prog W 0 (fun _ => true) true fuel 33 (Value.slice a0 len cap).cells.toList = some x) :
    ∃ l : List Nat, Row16 W (.slice a0 len cap) l := by
  rcases open_ints Tryz.underlying33 Tryz.underlying57 cells_u16 h with ⟨hcs, _⟩ | ⟨a, len', cap', zs, hcs, _, hl, hm, hz, _, hcell, hwz⟩
  · simp [Value.cells] at hcs
    obtain ⟨rfl, rfl, rfl⟩ := hcs
    exact ⟨[], none, 0, rfl, fun i hi => by simp at hi⟩
  · simp [Value.cells] at hcs
    obtain ⟨rfl, rfl, rfl⟩ := hcs
    simp only [if_true] at hz
    have hnum : ∀ i, i < zs.length → zs.getD i 0 = (((zs.getD i 0).toNat : Nat) : Int) ∧ (zs.getD i 0).toNat ≤ 65535 := fun i hi => by
      have := bounds_u16 (hwz (zs.getD i 0) (by simp [List.getD, hi]))
      omega
    have hlen : ((zs.take len).map Int.toNat).length = len := by simp; omega
    refine ⟨(zs.take len).map Int.toNat, some a, cap, by rw [hlen], ?_⟩
    intro i hi
    rw [hlen] at hi
    obtain ⟨b, off, spot⟩ := a
    have hi' : i < zs.length := by omega
    have hspot : spot = none := by simpa [Addr.add] using World.cell?_spot (hcell 0 (by omega))
    subst hspot
    have e : ((zs.take len).map Int.toNat).getD i 0 = (zs.getD i 0).toNat := by simp [List.getD, hi', hi]
    rw [e]
    refine ⟨b, off, rfl, ?_, (hnum i hi').2⟩
    have hc := hcell i hi'
    rw [(hnum i hi').1] at hc
    rw [← hc]
    congr 1
    unfold Addr.add
    split
    · rename_i h0; simp
    · rfl
end Go.Proofs.YtmmoilmfpiclgaaGreat

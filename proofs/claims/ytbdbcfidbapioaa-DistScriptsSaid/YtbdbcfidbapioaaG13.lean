/-
  What came in, opened: three texts, a slice of texts.
-/
import Derived.Test.YtbdbcfidbapioaaG05
import Derived.ProofKit
import Derived.OpenShut
import Derived.Lib.SmallJoins
set_option linter.unusedVariables false
set_option linter.unusedSimpArgs false
namespace Go.Proofs.Ytbdbcfidbapioaa
open Go.ChangeShapes Go.WideShapes Go.ChangeAt Go.RowKit
open Go.ChangeMaps (open_string shut_string)

theorem laidOut : laidOutB Try.prog = true := by kernel_rfl

theorem okWide_three {W : World} {r : Reach} {b0 : Nat} {v : Value} (h : Value.okWide Try.prog W r b0 34 v) : ∃ cs, v = .agg cs ∧ cs.size = 3 := by
  simp only [Value.okWide, Try.underlying34] at h
  obtain ⟨cs, h1, h2, _⟩ := h
  exact ⟨cs, h1, h2.trans (by kernel_rfl)⟩

set_option maxRecDepth 100000 in
/-- Three texts. -/
theorem open_triple {H : Type} {enc : TypeId × Value → H} {W : World} {r : Reach} {b0 : Nat} {v : Value} {d : DataW H} {p : List MemPlace} (hv : Value.okWide Try.prog W r b0 34 v) (h : DataW.Trod enc Try.prog W 0 (fun _ => true) true 34 v d p) :
    ∃ s0 s1 s2 : ByteArray, v = .agg #[.string s0, .string s1, .string s2] ∧ s0.size ≤ 9223372036854775807 ∧ s1.size ≤ 9223372036854775807 ∧ s2.size ≤ 9223372036854775807 ∧ p = [] := by
  obtain ⟨cs, rfl, hsz⟩ := okWide_three hv
  obtain ⟨c0, c1, c2, rfl⟩ := Joins.array3 hsz
  obtain ⟨fuel, hf⟩ := h
  obtain ⟨xs, m, _, hx, _, hl, hi⟩ := DataW.trod_array Try.underlying34 hf
  have hc : Try.prog.cellsOf 9 = 1 := by kernel_rfl
  match xs, hl with
  | [y0, y1, y2], _ =>
    have e0 := hi 0 (by decide)
    have e1 := hi 1 (by decide)
    have e2 := hi 2 (by decide)
    rw [hc] at e0 e1 e2
    obtain ⟨s0, q0, rfl, z0⟩ := DataW.trod_string Try.underlying9 e0
    obtain ⟨s1, q1, rfl, z1⟩ := DataW.trod_string Try.underlying9 e1
    obtain ⟨s2, q2, rfl, z2⟩ := DataW.trod_string Try.underlying9 e2
    simp [Value.cells] at q0 q1 q2
    simp at hx
    unfold maxLen at z0 z1 z2
    exact ⟨s0, s1, s2, by rw [q0, q1, q2], z0, z1, z2, hx.2⟩

def Row16 (W : World) (v : Value) (l : List Nat) : Prop := ∃ ad c, v = .slice ad l.length c ∧ ∀ i, i < l.length → ∃ b o, ad = some ⟨b, o, none⟩ ∧ W.cell? ⟨b, o + i, none⟩ = some (.int .u16 ((l.getD i 0 : Nat) : Int)) ∧ l.getD i 0 ≤ 65535

/-- What stands behind a slice that came in. -/
theorem slice_of_ok {P : Program} {w : World} {base : Nat} {t e : TypeId} {v : Value} (ht : P.underlying t = some (.slice e)) (h : Value.okWide P w .any base t v) :
    ∃ a len cap, v = .slice a len cap ∧ len ≤ cap ∧ cap ≤ 9223372036854775807 ∧ ∀ b o, a = some ⟨b, o, none⟩ → b < w.heap.size := by
  obtain ⟨a, len, cap, rfl⟩ := okWide_slice ht h
  simp only [Value.okWide, ht, Cell.okWide] at h
  cases a with
  | none =>
    cases len <;> cases cap <;> simp [Cell.ok, ht] at h
    exact ⟨_, _, _, rfl, Nat.le_refl _, Nat.zero_le _, fun b o e => by cases e⟩
  | some a =>
    simp only [Cell.ok, ht] at h
    obtain ⟨h1, h2, _, _, row, cells, h3, _⟩ := h
    refine ⟨_, _, _, rfl, h1, ?_, fun b o e => ?_⟩
    · have : IntKind.i64.max = 9223372036854775807 := by decide
      omega
    · cases e
      unfold World.shape? at h3
      cases hb : w.heap[b]? with
      | none => rw [hb] at h3; cases h3
      | some x => exact (Array.getElem?_eq_some_iff.1 hb).1

theorem cells_u16 : Try.prog.cellsOf 39 = 1 := by kernel_rfl
/-- A slice of numbers of 16 bits that came in. -/
theorem u16s_of_trod {H : Type} {enc : TypeId × Value → H} {W : World} {fuel : Nat} {a0 : Option Addr} {len cap : Nat} {x : DataW H × List MemPlace} (h : DataW.trod enc Try.prog W 0 (fun _ => true) true fuel 37 (Value.slice a0 len cap).cells.toList = some x) :
    ∃ l : List Nat, Row16 W (.slice a0 len cap) l := by
  rcases open_ints Try.underlying37 Try.underlying39 cells_u16 h with ⟨hcs, _⟩ | ⟨a, len', cap', zs, hcs, _, hl, hm, hz, _, hcell, hwz⟩
  · simp [Value.cells] at hcs
    obtain ⟨rfl, rfl, rfl⟩ := hcs
    exact ⟨[], none, 0, rfl, fun i hi => by simp at hi⟩
  · simp [Value.cells] at hcs
    obtain ⟨rfl, rfl, rfl⟩ := hcs
    simp only [if_true] at hz
    have hnum : ∀ i, i < zs.length → zs.getD i 0 = (((zs.getD i 0).toNat : Nat) : Int) ∧ (zs.getD i 0).toNat ≤ 65535 := fun i hi => by
      have := bounds_u16 (hwz (zs.getD i 0) (by simp [List.getD, hi]))
      omega
    have hlen : ((zs.take len).map Int.toNat).length = len := by simp; omega
    refine ⟨(zs.take len).map Int.toNat, some a, cap, by rw [hlen], ?_⟩
    intro i hi
    rw [hlen] at hi
    obtain ⟨b, off, spot⟩ := a
    have hi' : i < zs.length := by omega
    have hspot : spot = none := by simpa [Addr.add] using World.cell?_spot (hcell 0 (by omega))
    subst hspot
    have e : ((zs.take len).map Int.toNat).getD i 0 = (zs.getD i 0).toNat := by simp [List.getD, hi', hi]
    rw [e]
    refine ⟨b, off, rfl, ?_, (hnum i hi').2⟩
    have hc := hcell i hi'
    rw [(hnum i hi').1] at hc
    rw [← hc]
    congr 1
    unfold Addr.add
    split
    · rename_i h0; simp
    · rfl
end Go.Proofs.Ytbdbcfidbapioaa

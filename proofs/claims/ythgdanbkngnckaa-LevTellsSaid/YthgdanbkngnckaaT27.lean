/-
  What came in, opened: what is asked.
-/
import Derived.Test.YthgdanbkngnckaaT24
import Derived.ProofKit
import Derived.OpenShut
import Derived.Lib.SmallJoins
set_option linter.unusedVariables false
set_option linter.unusedSimpArgs false
namespace Go.Proofs.Ythgdanbkngnckaa
open Go.ChangeShapes Go.WideShapes Go.ChangeAt Go.RowKit
open Go.ChangeMaps (open_string shut_string)

theorem laidOut : laidOutB Try.prog = true := by kernel_rfl

set_option maxRecDepth 100000 in
theorem open_lask {H : Type} {enc : TypeId × Value → H} {W : World} {r : Reach} {b0 : Nat} {v : Value} {d : DataW H} {p : List MemPlace} (hv : Value.okWide Try.prog W r b0 24 v) (h : DataW.Trod enc Try.prog W 0 (fun _ => true) true 24 v d p) :
    ∃ (q t : ByteArray) (k : Int), v = askA q t k ∧ (-128 ≤ k ∧ k ≤ 127) ∧ p = [] := by
  obtain ⟨v0, v1, v2, y0, y1, y2, n, rfl, _, rfl, h0, h1, h2⟩ := Joins.open_agg3 Try.underlying24 (by kernel_rfl) (by kernel_rfl) hv h
  obtain ⟨s, q0, rfl, z0⟩ := DataW.trod_string Try.underlying9 h0
  obtain ⟨t, q1, rfl, z1⟩ := DataW.trod_string Try.underlying9 h1
  obtain ⟨k, q2, rfl, w2⟩ := DataW.trod_int Try.underlying22 h2
  simp at q0 q1 q2
  have b2 := bounds_i8 w2
  refine ⟨s, t, k, ?_, by omega, rfl⟩
  rw [q0, q1, q2]
  rfl
end Go.Proofs.Ythgdanbkngnckaa

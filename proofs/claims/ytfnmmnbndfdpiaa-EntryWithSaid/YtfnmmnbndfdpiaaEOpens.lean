/-
  What came in, opened: an entry.
-/
import Derived.Test.YtfnmmnbndfdpiaaEEnts
import Derived.ProofKit
import Derived.OpenShut
import Derived.Lib.SmallJoins
namespace Go.Proofs.Ytfnmmnbndfdpiaa
open Go.ChangeShapes Go.WideShapes Go.ChangeAt Go.RowKit

theorem laidOut : laidOutB Try.prog = true := by kernel_rfl

set_option maxRecDepth 100000 in
/-- An entry. -/
theorem open_ent {H : Type} {enc : TypeId × Value → H} {W : World} {r : Reach} {b0 : Nat} {v : Value} {d : DataW H} {p : List MemPlace} (hv : Value.okWide Try.prog W r b0 24 v) (h : DataW.Trod enc Try.prog W 0 (fun _ => true) true 24 v d p) :
    ∃ (x : ByteArray) (n : Nat) (g : Bool), v = .agg #[.string x, .int .u32 (n : Int), .bool g] ∧ n < 4294967296 ∧ x.size ≤ maxLen ∧ p = [] := by
  obtain ⟨v0, v1, v2, y0, y1, y2, n, rfl, _, rfl, h0, h1, h2⟩ := Joins.open_agg3 Try.underlying24 (by kernel_rfl) (by kernel_rfl) hv h
  obtain ⟨x, q0, rfl, z0⟩ := DataW.trod_string Try.underlying9 h0
  obtain ⟨m, q1, rfl, w1⟩ := DataW.trod_int Try.underlying22 h1
  obtain ⟨g, q2, rfl⟩ := DataW.trod_bool Try.underlying4 h2
  simp at q0 q1 q2
  have b1 := bounds_u32 w1
  refine ⟨x, m.toNat, g, ?_, by omega, z0, rfl⟩
  rw [q0, q1, q2, show ((m.toNat : Nat) : Int) = m by omega]
end Go.Proofs.Ytfnmmnbndfdpiaa

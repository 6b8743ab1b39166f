/-
  The law's own small function: is this what bytes are read as?
-/
import Derived.Test.YtfnmmnbndfdpiaaEGet
import Derived.Test.YtfnmmnbndfdpiaaESame
namespace Go.Proofs.Ytfnmmnbndfdpiaa
open Go.RowKit Go.Sort

set_option maxHeartbeats 1000000 in
set_option maxRecDepth 100000 in
theorem getLaw_any (s : ByteArray) (z : Ent) (c : Nat) (w : World) (hs : s.size ≤ 1000000) (h : getT s.data.toList = (z, c)) :
    Calls Try.prog 29 #[.string s, .agg (enc z).toArray, .int .i64 (c : Int)] w fun e w' => e = .returned (.bool true) ∧ RowKit.Below w.heap.size w w' := by
  have q12 := fun w0 => eget_any s w0 hs
  rw [h] at q12
  unfold gotE enc at q12
  simp only at q12
  unfold enc
  clear h
  go_enter Try.func29, Try.ntmps29
  go_wp2_with (go_at_call 12; (with_reducible refine (q12 _).mono ?_); rintro e w2 ⟨rfl, hb2⟩; obtain ⟨k0, k1, k2⟩ := box_kept hb2; have hz : w.heap.size < w2.heap.size := by have := hb2.size; simp at this; omega)
  go_ret
  exact ⟨rfl, below_alloc' (Below.next (below_alloc w _) hb2)⟩
end Go.Proofs.Ytfnmmnbndfdpiaa

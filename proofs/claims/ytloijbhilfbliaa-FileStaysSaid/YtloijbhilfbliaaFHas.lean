/-
  strings.HasPrefix, where it is one.
-/
import Derived.Test.YtloijbhilfbliaaFSolo
namespace Go.Proofs.Ytloijbhilfbliaa
open Go.RowKit Go.Shelf

set_option maxHeartbeats 1000000 in
set_option maxRecDepth 100000 in
theorem has40 (s p : ByteArray) (w : World) (hle : p.size ≤ s.size) (he : s.extract 0 p.size = p) : Calls Try.prog 40 #[.string s, .string p] w fun e w' => e = .returned (.bool true) ∧ w = w' := by
  have h1 : ¬ (s.size : Int) < (p.size : Int) := by omega
  have h2 : (p.size : Int) ≤ (s.size : Int) := by omega
  have s1 := str_self p
  go_enter Try.func40, Try.ntmps40
  go_wp2
  go_ret
  exact ⟨rfl, rfl⟩

set_option maxHeartbeats 1000000 in
set_option maxRecDepth 100000 in
theorem has_true (s p : List UInt8) (w : World) (h : p <+: s) : Calls Try.prog 21 #[.string (strO s), .string (strO p)] w fun e w' => e = .returned (.bool true) ∧ w = w' := by
  have hl := h.length_le
  have q := has40 (strO s) (strO p) w (by rw [strO_size, strO_size]; exact hl) (by rw [strO_take, strO_size]; obtain ⟨t, rfl⟩ := h; rw [List.take_left])
  go_enter Try.func21, Try.ntmps21
  go_wp2_with (go_at_call 40; (with_reducible refine q.mono ?_); rintro e w1 ⟨rfl, rfl⟩)
  go_ret
  exact ⟨rfl, rfl⟩
end Go.Proofs.Ytloijbhilfbliaa

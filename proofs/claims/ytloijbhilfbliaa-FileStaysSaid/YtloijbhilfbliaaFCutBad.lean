/-
  A cut that is answered with an error changes nothing.
-/
import Derived.Test.YtloijbhilfbliaaFRowT
namespace Go.Proofs.Ytloijbhilfbliaa
open Go.RowKit Go.Shelf

set_option maxHeartbeats 1000000 in
set_option maxRecDepth 100000 in
theorem cut_bad {w : World} {p : Nat} {D : List UInt8} {A : List Do} {M I : Nat → Prop} {n : Int} (h : FileAt w p D A M I) (hn : n < 0 ∨ ((reads D A).length : Int) < n) :
    Calls Try.prog 16 #[.pointer (some ⟨p, 0, none⟩), .int .i64 n] w fun e w' => e = .returned (.int .i64 17) ∧ Below w.heap.size w w' := by
  obtain ⟨R, hR⟩ : ∃ R, reads D A = R := ⟨_, rfl⟩
  have Q15 : Hid (∀ W, Below w.heap.size w W → ∀ k, Calls Try.prog 15 #[.pointer (some ⟨p, 0, none⟩)] (W.drewN k) fun e w' => e = .returned (.int .i64 (R.length : Nat)) ∧ w' = W.drewN k) := Lib.hid fun W hW k => by rw [← hR]; exact len_drew (h.below hW) k
  rw [hR] at hn
  clear h hR
  by_cases hneg : n < 0
  · have d1 : decide (n < 0) = true := decide_eq_true hneg
    go_enter Try.func16, Try.ntmps16
    go_wp2
    go_quiet (fail)
    go_wp2
    go_ret
    exact ⟨rfl, below_drewN' (below_alloc' (Below.refl _ w))⟩
  · have d1 : decide (n < 0) = false := decide_eq_false hneg
    obtain ⟨m, rfl⟩ : ∃ m : Nat, n = (m : Int) := ⟨n.toNat, by omega⟩
    have hgt : R.length < m := by omega
    have d2 : decide (R.length < m) = true := decide_eq_true hgt
    go_enter Try.func16, Try.ntmps16
    go_wp2
    go_quiet ((go_at_call 15; exact Calls.quiet_of_same (Q15.out _ (below_alloc' (Below.refl _ w)) _)))
    go_wp2
    go_ret
    exact ⟨rfl, below_drewN' (below_alloc' (Below.refl _ w))⟩
end Go.Proofs.Ytloijbhilfbliaa

/-
  The walks of the statements' few, and of the document's Same.
-/
import Derived.Test.YtnndabjhdhnleaaVPut
namespace Go.Proofs.Ytnndabjhdhnleaa
open Go.RowKit

theorem few_walk (ad : Option Addr) (n c m : Nat) (w : World) (h : n ≤ c) (_hc : c ≤ 9223372036854775807) (hm : min (n : Int) 40 = (m : Int)) :
    Calls Try.prog 4 #[.slice ad n c] w fun e w' => e = .returned (.slice ad m c) ∧ w = w' := by
  have hmc : (m : Int) ≤ c := by omega
  have hm0 : 0 ≤ (m : Int) := by omega
  go_enter Try.func4, Try.ntmps4
  go_wp2
  go_ret
  exact ⟨rfl, rfl⟩

set_option maxHeartbeats 1000000 in
theorem same_any (l : List Nat) (v1 v2 : Value) (w : World) (hlen : l.length ≤ 1000000000) (h1 : Nums w v1 l) (h2 : Nums w v2 l) :
    Calls Try.prog 20 #[v1, v2] w fun e w' => e = .returned (.bool true) ∧ Below w.heap.size w w' := by
  obtain ⟨a1, c1, rfl, k1⟩ := h1
  obtain ⟨a2, c2, rfl, k2⟩ := h2
  go_enter Try.func20, Try.ntmps20
  go_wp2
  go_loopw [5] (fun i wr => ∃ k : Nat, k ≤ l.length ∧ i = .int .i64 k ∧ Below w.heap.size w wr) (fun i _ => l.length - (intOf i).toNat)
  case atStart => exact ⟨0, Nat.zero_le _, rfl, Below.refl _ _⟩
  case round =>
    obtain ⟨k, hk, rfl, hb⟩ := hrel
    by_cases hlt : k < l.length
    · obtain ⟨b1, o1, rfl, e1⟩ := k1 k hlt
      obtain ⟨b2, o2, rfl, e2⟩ := k2 k hlt
      have f1 : wr.cell? ⟨b1, o1 + k, none⟩ = some (.int .u64 ((l.getD k 0 : Nat) : Int)) := by rw [hb.cell (p := ⟨b1, o1 + k, none⟩) (block_lt_of_cell e1)]; exact e1
      have f2 : wr.cell? ⟨b2, o2 + k, none⟩ = some (.int .u64 ((l.getD k 0 : Nat) : Int)) := by rw [hb.cell (p := ⟨b2, o2 + k, none⟩) (block_lt_of_cell e2)]; exact e2
      obtain ⟨x, hx⟩ : ∃ x, x = l.getD k 0 := ⟨_, rfl⟩
      rw [← hx] at f1 f2
      clear e1 e2 hx
      go_wp2
      go_quiet (fail)
      have hb2 : Below w.heap.size w (wr.drewN nq) := hb.trans ⟨rfl, rfl, rfl, Nat.le_refl _, fun _ _ => rfl⟩
      go_wp2
      exact ⟨⟨k + 1, by omega, by go_num, hb2⟩, by simp [intOf]; omega⟩
    · go_wp2
      go_ret
      exact ⟨rfl, hb⟩

end Go.Proofs.Ytnndabjhdhnleaa

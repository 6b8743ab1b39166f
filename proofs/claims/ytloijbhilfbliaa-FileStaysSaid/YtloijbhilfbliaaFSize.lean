/-
  The law's own size; the document's file at its making.
-/
import Derived.Test.YtloijbhilfbliaaFRefStay
namespace Go.Proofs.Ytloijbhilfbliaa
open Go.RowKit Go.Shelf

/-- A new file of the document. -/
theorem RefAt_new (w : World) (D : List UInt8) (hD : D.length ≤ 100000) : RefAt (w.alloc (.cells #[.string (strO D), .slice none 0 0] 28)) w.heap.size D [] (fun g => g = w.heap.size) :=
  ⟨⟨.slice none 0 0, heap_alloc_new w _, World.ownsRow_nil _ 0 72 3, rfl, fun g hg => by cases hg⟩, trivial, hD, fun g hg => by subst hg; simp⟩

/-- A size that the law draws. -/
def sizeT (n : Int) (m : Nat) : Int := if n.tmod 5 = 4 then n else (n.tmod (m + 3) + m + 3).tmod (m + 3)

theorem sizeT_in (n : Int) (m : Nat) (h1 : -32768 ≤ n) (h2 : n ≤ 32767) (h3 : m ≤ 1000000) : -32768 ≤ sizeT n m ∧ sizeT n m ≤ 2000000 := by
  unfold sizeT
  split
  · omega
  · have a1 := Int.tmod_lt_of_pos (n.tmod (m + 3) + m + 3) (b := (m : Int) + 3) (by omega)
    have a2 : -((m : Int) + 3) < n.tmod (m + 3) := by
      have := Int.lt_tmod_of_pos n (b := (m : Int) + 3) (by omega)
      omega
    have a3 : 0 ≤ (n.tmod (m + 3) + m + 3).tmod (m + 3) := Int.tmod_nonneg _ (by omega)
    omega

set_option maxHeartbeats 1000000 in
set_option maxRecDepth 100000 in
theorem size_any (n : Int) (m : Nat) (w : World) (h1 : -32768 ≤ n) (h2 : n ≤ 32767) (h3 : m ≤ 1000000) :
    Calls Try.prog 17 #[.int .i16 n, .int .i64 (m : Int)] w fun e w' => e = .returned (.int .i64 (sizeT n m)) ∧ w = w' := by
  have a1 := Int.tmod_lt_of_pos n (b := (m : Int) + 3) (by omega)
  have a2 : -((m : Int) + 3) < n.tmod (m + 3) := by
    have := Int.lt_tmod_of_pos n (b := (m : Int) + 3) (by omega)
    omega
  obtain ⟨x, hx⟩ : ∃ x, n.tmod ((m : Int) + 3) = x := ⟨_, rfl⟩
  have hsz : sizeT n m = if n.tmod 5 = 4 then n else (x + m + 3).tmod (m + 3) := by unfold sizeT; rw [hx]
  rw [hx] at a1 a2
  have i1 : wrap64 (x + m) = x + m := by unfold wrap64; omega
  have i2 : wrap64 (x + m + 3) = x + m + 3 := by unfold wrap64; omega
  rw [Int.tmod_eq_emod_of_nonneg (a := x + m + 3) (by omega)] at hsz
  have HSZ := Lib.hid hsz
  clear hsz
  go_enter Try.func17, Try.ntmps17
  go_wp2
  · go_ret
    refine ⟨?_, rfl⟩
    rw [HSZ.out, if_pos (by simp_all)]
    rfl
  · go_ret
    refine ⟨?_, rfl⟩
    rw [HSZ.out, if_neg (by simp_all)]
    rfl
end Go.Proofs.Ytloijbhilfbliaa

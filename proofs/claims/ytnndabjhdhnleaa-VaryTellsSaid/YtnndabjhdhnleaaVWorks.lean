/-
  The walks of the statements' had and works.
-/
import Derived.Test.YtnndabjhdhnleaaVPut
import Derived.Test.YtnndabjhdhnleaaVGet
namespace Go.Proofs.Ytnndabjhdhnleaa
open Go.RowKit

theorem had_true (s : ByteArray) (x y z : Int) (w : World) (hs : s.size ≤ maxLen) (h : gotten (Plain.get s.data.toList 0) = .tuple #[.int .u64 x, .int .i64 y, .int .i64 z]) :
    Calls Try.prog 21 #[.string s, .int .u64 x, .int .i64 y, .int .i64 z] w fun e w' => e = .returned (.bool true) ∧ w = w' := by
  have q14 : ∀ w0, Calls Try.prog 16 #[.string s, .int .i64 0] w0 fun e w' => e = .returned (.tuple #[.int .u64 x, .int .i64 y, .int .i64 z]) ∧ w0 = w' := fun w0 => h ▸ get_any s 0 w0 hs
  clear h
  go_enter Try.func21, Try.ntmps21
  go_wp2_with (go_at_call 16; go_must (refine (q14 _).mono ?_); rintro e w' ⟨rfl, rfl⟩)
  go_ret
  exact ⟨rfl, rfl⟩

/-- Put of one number that lies in a new row. -/
theorem put_one (n : Nat) (x : Int) (B : ByteArray) (hn : n < 18446744073709551616) (hx : (n : Int) = x) (hB : Plain.encs [n] = B.data.toList) (w : World) :
    Calls Try.prog 6 #[.slice (some ⟨w.heap.size, 0, none⟩) 1 1] (w.alloc (.cells #[.int .u64 x] 25)) fun e w' => e = .returned (.string B) ∧ Below w.heap.size w w' := by
  refine (put_walk [n] (some ⟨w.heap.size, 0, none⟩) 1 _ (by simpa using hn) (by simp) ?_).mono ?_
  · intro i hi
    obtain rfl : i = 0 := by simp at hi; omega
    exact ⟨_, _, rfl, by simp [go_sem, hx]⟩
  · rintro e w' ⟨rfl, hb⟩
    refine ⟨?_, ((Below.refl _ w).alloc (Nat.le_refl _) _).trans (hb.mono (by simp))⟩
    rw [hB]

theorem put_two (n m : Nat) (x y : Int) (B : ByteArray) (hn : n < 18446744073709551616) (hm : m < 18446744073709551616) (hx : (n : Int) = x) (hy : (m : Int) = y) (hB : Plain.encs [n, m] = B.data.toList) (w : World) :
    Calls Try.prog 6 #[.slice (some ⟨w.heap.size, 0, none⟩) 2 2] (w.alloc (.cells #[.int .u64 x, .int .u64 y] 25)) fun e w' => e = .returned (.string B) ∧ Below w.heap.size w w' := by
  refine (put_walk [n, m] (some ⟨w.heap.size, 0, none⟩) 2 _ (by simpa using ⟨hn, hm⟩) (by simp) ?_).mono ?_
  · intro i hi
    rcases (show i = 0 ∨ i = 1 by simp at hi; omega) with rfl | rfl
    · exact ⟨_, _, rfl, by simp [go_sem, hx]⟩
    · exact ⟨_, _, rfl, by simp [go_sem, hy]⟩
  · rintro e w' ⟨rfl, hb⟩
    refine ⟨?_, ((Below.refl _ w).alloc (Nat.le_refl _) _).trans (hb.mono (by simp))⟩
    rw [hB]

set_option maxHeartbeats 1000000 in
theorem works_any (w : World) : Calls Try.prog 10 #[] w fun e w' => e = .returned (.bool true) ∧ Below w.heap.size w w' := by
  have p1 := put_one 0 0 ⟨#[0]⟩ (by decide) rfl (by kernel_rfl)
  have p2 := put_one 247 247 ⟨#[247]⟩ (by decide) rfl (by kernel_rfl)
  have p3 := put_one 248 248 ⟨#[248, 248]⟩ (by decide) rfl (by kernel_rfl)
  have p4 := put_one 255 255 ⟨#[248, 255]⟩ (by decide) rfl (by kernel_rfl)
  have p5 := put_one 256 256 ⟨#[249, 0, 1]⟩ (by decide) rfl (by kernel_rfl)
  have p6 := put_one 18446744073709551615 18446744073709551615 ⟨#[255, 255, 255, 255, 255, 255, 255, 255, 255]⟩ (by decide) rfl (by kernel_rfl)
  have p7 := put_two 1 300 1 300 ⟨#[1, 249, 44, 1]⟩ (by decide) (by decide) rfl rfl (by kernel_rfl)
  have g1 := fun w0 => had_true ⟨#[248, 5]⟩ 0 0 5 w0 (by decide) (by kernel_rfl)
  have g2 := fun w0 => had_true ⟨#[249, 1, 0]⟩ 0 0 5 w0 (by decide) (by kernel_rfl)
  have g3 := fun w0 => had_true ⟨#[249, 1]⟩ 0 0 3 w0 (by decide) (by kernel_rfl)
  have g4 := fun w0 => had_true ⟨#[]⟩ 0 0 3 w0 (by decide) (by kernel_rfl)
  have hb := Below.refl w.heap.size w
  go_enter Try.func10, Try.ntmps10
  go_wp2_with (first
    | (go_at_call 6; (first | (with_reducible refine (p1 _).mono ?_) | (with_reducible refine (p2 _).mono ?_) | (with_reducible refine (p3 _).mono ?_) | (with_reducible refine (p4 _).mono ?_) | (with_reducible refine (p5 _).mono ?_) | (with_reducible refine (p6 _).mono ?_) | (with_reducible refine (p7 _).mono ?_)); rintro e w1 ⟨rfl, hb1⟩; replace hb := Below.next hb hb1; clear hb1)
    | (go_at_call 21; (first | (with_reducible refine (g1 _).mono ?_) | (with_reducible refine (g2 _).mono ?_) | (with_reducible refine (g3 _).mono ?_) | (with_reducible refine (g4 _).mono ?_)); rintro e w1 ⟨rfl, rfl⟩))
  go_ret
  exact ⟨rfl, hb⟩
end Go.Proofs.Ytnndabjhdhnleaa

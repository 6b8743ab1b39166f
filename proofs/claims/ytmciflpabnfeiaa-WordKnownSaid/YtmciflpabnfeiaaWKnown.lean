/-
  The walk of WordKnown.
-/
import Derived.Test.YtmciflpabnfeiaaWWorks
namespace Go.Proofs.Ytmciflpabnfeiaa
open Go.RowKit

set_option maxRecDepth 100000 in
set_option maxHeartbeats 8000000 in
theorem known_any (w : World) : Calls Try.prog 5 #[] w fun e w' => e = .returned (.bool true) ∧ Below w.heap.size w w' := by
  obtain ⟨R, hR⟩ : ∃ R : ByteArray, R = ⟨(List.replicate 255 255).toArray⟩ := ⟨_, rfl⟩
  obtain ⟨R2, hR2⟩ : ∃ R2 : ByteArray, R ++ ⟨#[255]⟩ = R2 := ⟨_, rfl⟩
  have hRs : R.size = 255 := by rw [hR, ← ba_length]; simp
  have q90 : ∀ w0, Calls Try.prog 22 #[.string ⟨#[255]⟩, .int .i64 255] w0 fun e w' => e = .returned (.string R) ∧ Below w0.heap.size w0 w' := fun w0 => by rw [hR]; exact rep_is 255 255 (by decide) w0
  have q91 : ∀ (W : World) (g : Nat), g = W.heap.size → Calls Try.prog 9 #[.slice (some ⟨g, 0, none⟩) 2 2] (W.alloc (.cells #[.string R, .string ⟨#[0]⟩] 9)) fun e w' => e = .returned (.int .i64 0) ∧ Below W.heap.size W w' := fun W g hg => by
    subst hg
    refine chk_lit [R, ⟨#[0]⟩] 0 ?_ ?_ (by simp) W
    · unfold checkT
      rw [hR]
      simp only [List.all_cons, List.all_nil, Bool.and_true, wordT_rep]
      rfl
    · intro s hs
      simp at hs
      rcases hs with rfl | rfl
      · omega
      · decide
  have q92 : ∀ (W : World) (g : Nat), g = W.heap.size → Calls Try.prog 9 #[.slice (some ⟨g, 0, none⟩) 1 1] (W.alloc (.cells #[.string R2] 9)) fun e w' => e = .returned (.int .i64 7) ∧ Below W.heap.size W w' := fun W g hg => by
    subst hg
    refine chk_rep 255 256 (by decide) 7 (by rfl) W R2 ?_
    rw [← hR2, hR]
    exact ba_ext (by rw [ba_append]; rfl)
  have hcat : R.size + 1 ≤ 9223372036854775807 := by omega
  clear hR hRs
  have q1 : ∀ (W : World) (g : Nat), g = W.heap.size → Calls Try.prog 9 #[.slice (some ⟨g, 0, none⟩) 1 1] (W.alloc (.cells #[.string ⟨#[]⟩] 9)) fun e w' => e = .returned (.int .i64 7) ∧ Below W.heap.size W w' := fun W g hg => by
    subst hg; exact chk_lit [⟨#[]⟩] 7 (by rfl) (by intro s hs; simp only [List.mem_cons, List.not_mem_nil, or_false] at hs; rcases hs with rfl <;> decide) (by decide) W
  have q2 := less_is ⟨#[]⟩ ⟨#[97]⟩ true (by rfl)
  have q3 := less_is ⟨#[97]⟩ ⟨#[]⟩ false (by rfl)
  have q4 := less_is ⟨#[]⟩ ⟨#[]⟩ false (by rfl)
  have q5 := less_is ⟨#[127]⟩ ⟨#[128]⟩ true (by rfl)
  have q6 := less_is ⟨#[97, 0]⟩ ⟨#[97, 1]⟩ true (by rfl)
  have q7 := less_is ⟨#[97]⟩ ⟨#[97, 0]⟩ true (by rfl)
  have q8 : ∀ (W : World) (g : Nat), g = W.heap.size → Calls Try.prog 12 #[.slice (some ⟨g, 0, none⟩) 1 1] (W.alloc (.cells #[.string ⟨#[97]⟩] 9)) fun e w' => e = .returned (.bool true) ∧ Below W.heap.size W w' := fun W g hg => by
    subst hg; exact rise_lit [⟨#[97]⟩] true (by rfl) (by decide) W
  have q9 : ∀ (W : World) (g : Nat), g = W.heap.size → Calls Try.prog 12 #[.slice (some ⟨g, 0, none⟩) 2 2] (W.alloc (.cells #[.string ⟨#[98]⟩, .string ⟨#[97]⟩] 9)) fun e w' => e = .returned (.bool false) ∧ Below W.heap.size W w' := fun W g hg => by
    subst hg; exact rise_lit [⟨#[98]⟩, ⟨#[97]⟩] false (by rfl) (by decide) W
  have q10 : ∀ (W : World) (g : Nat), g = W.heap.size → Calls Try.prog 12 #[.slice (some ⟨g, 0, none⟩) 3 3] (W.alloc (.cells #[.string ⟨#[97]⟩, .string ⟨#[98]⟩, .string ⟨#[98]⟩] 9)) fun e w' => e = .returned (.bool false) ∧ Below W.heap.size W w' := fun W g hg => by
    subst hg; exact rise_lit [⟨#[97]⟩, ⟨#[98]⟩, ⟨#[98]⟩] false (by rfl) (by decide) W
  have q11 : ∀ (W : World) (g : Nat), g = W.heap.size → Calls Try.prog 14 #[.slice (some ⟨g, 0, none⟩) 2 2] (W.alloc (.cells #[.string ⟨#[]⟩, .string ⟨#[97]⟩] 9)) fun e w' => e = .returned (.int .i64 0) ∧ Below W.heap.size W w' := fun W g hg => by
    subst hg; exact shared_lit [⟨#[]⟩, ⟨#[97]⟩] 0 (by rfl) (by intro s hs; simp only [List.mem_cons, List.not_mem_nil, or_false] at hs; rcases hs with rfl | rfl <;> decide) (by decide) W
  have q12 : ∀ (W : World) (g : Nat), g = W.heap.size → Calls Try.prog 14 #[.slice (some ⟨g, 0, none⟩) 2 2] (W.alloc (.cells #[.string ⟨#[97, 98]⟩, .string ⟨#[97, 98]⟩] 9)) fun e w' => e = .returned (.int .i64 2) ∧ Below W.heap.size W w' := fun W g hg => by
    subst hg; exact shared_lit [⟨#[97, 98]⟩, ⟨#[97, 98]⟩] 2 (by rfl) (by intro s hs; simp only [List.mem_cons, List.not_mem_nil, or_false] at hs; rcases hs with rfl | rfl <;> decide) (by decide) W
  have q13 : ∀ (W : World) (g : Nat), g = W.heap.size → Calls Try.prog 14 #[.slice (some ⟨g, 0, none⟩) 3 3] (W.alloc (.cells #[.string ⟨#[97, 98]⟩, .string ⟨#[97, 98, 99]⟩, .string ⟨#[]⟩] 9)) fun e w' => e = .returned (.int .i64 0) ∧ Below W.heap.size W w' := fun W g hg => by
    subst hg; exact shared_lit [⟨#[97, 98]⟩, ⟨#[97, 98, 99]⟩, ⟨#[]⟩] 0 (by rfl) (by intro s hs; simp only [List.mem_cons, List.not_mem_nil, or_false] at hs; rcases hs with rfl | rfl | rfl <;> decide) (by decide) W
  have q14 : ∀ (W : World), Calls Try.prog 23 #[.slice none 0 0, .string ⟨#[97]⟩, .int .i64 0, .bool false] W fun e w' => e = .returned (.bool true) ∧ W = w' := fun W => near_true [] _ ⟨#[97]⟩ W 0 false (by rfl) (strs_nil W) (by decide) (by rfl) (by rfl)
  have q15 : ∀ (W : World) (g : Nat), g = W.heap.size → Calls Try.prog 23 #[.slice (some ⟨g, 0, none⟩) 1 1, .string ⟨#[97]⟩, .int .i64 0, .bool false] (W.alloc (.cells #[.string ⟨#[98]⟩] 9)) fun e w' => e = .returned (.bool true) ∧ Below W.heap.size W w' := fun W g hg => by
    subst hg; exact near_lit [⟨#[98]⟩] ⟨#[97]⟩ 0 false (by rfl) (by rfl) (by rfl) (by decide) W
  have q16 : ∀ (W : World) (g : Nat), g = W.heap.size → Calls Try.prog 23 #[.slice (some ⟨g, 0, none⟩) 1 1, .string ⟨#[99]⟩, .int .i64 1, .bool false] (W.alloc (.cells #[.string ⟨#[98]⟩] 9)) fun e w' => e = .returned (.bool true) ∧ Below W.heap.size W w' := fun W g hg => by
    subst hg; exact near_lit [⟨#[98]⟩] ⟨#[99]⟩ 1 false (by rfl) (by rfl) (by rfl) (by decide) W
  have q17 : ∀ (W : World) (g : Nat), g = W.heap.size → Calls Try.prog 23 #[.slice (some ⟨g, 0, none⟩) 3 3, .string ⟨#[97, 98]⟩, .int .i64 1, .bool true] (W.alloc (.cells #[.string ⟨#[97]⟩, .string ⟨#[97, 98]⟩, .string ⟨#[98]⟩] 9)) fun e w' => e = .returned (.bool true) ∧ Below W.heap.size W w' := fun W g hg => by
    subst hg; exact near_lit [⟨#[97]⟩, ⟨#[97, 98]⟩, ⟨#[98]⟩] ⟨#[97, 98]⟩ 1 true (by rfl) (by rfl) (by rfl) (by decide) W
  have hb : Below w.heap.size w w := Below.refl _ _
  go_enter Try.func5, Try.ntmps5
  go_wp2_with (first
    | (go_at_call 9; first
      | ((with_reducible refine (q1 _ _ (by first | rfl | simp)).mono ?_); rintro e w1 ⟨rfl, hb1⟩; replace hb := Below.next hb hb1; clear hb1)
      | ((with_reducible refine (q91 _ _ (by first | rfl | simp)).mono ?_); rintro e w1 ⟨rfl, hb1⟩; replace hb := Below.next hb hb1; clear hb1)
      | ((with_reducible refine (q92 _ _ (by first | rfl | simp)).mono ?_); rintro e w1 ⟨rfl, hb1⟩; replace hb := Below.next hb hb1; clear hb1))
    | (go_at_call 18; first
      | ((with_reducible refine (q2 _).mono ?_); rintro e w1 ⟨rfl, rfl⟩)
      | ((with_reducible refine (q3 _).mono ?_); rintro e w1 ⟨rfl, rfl⟩)
      | ((with_reducible refine (q4 _).mono ?_); rintro e w1 ⟨rfl, rfl⟩)
      | ((with_reducible refine (q5 _).mono ?_); rintro e w1 ⟨rfl, rfl⟩)
      | ((with_reducible refine (q6 _).mono ?_); rintro e w1 ⟨rfl, rfl⟩)
      | ((with_reducible refine (q7 _).mono ?_); rintro e w1 ⟨rfl, rfl⟩))
    | (go_at_call 12; first
      | ((with_reducible refine (q8 _ _ (by first | rfl | simp)).mono ?_); rintro e w1 ⟨rfl, hb1⟩; replace hb := Below.next hb hb1; clear hb1)
      | ((with_reducible refine (q9 _ _ (by first | rfl | simp)).mono ?_); rintro e w1 ⟨rfl, hb1⟩; replace hb := Below.next hb hb1; clear hb1)
      | ((with_reducible refine (q10 _ _ (by first | rfl | simp)).mono ?_); rintro e w1 ⟨rfl, hb1⟩; replace hb := Below.next hb hb1; clear hb1))
    | (go_at_call 14; first
      | ((with_reducible refine (q11 _ _ (by first | rfl | simp)).mono ?_); rintro e w1 ⟨rfl, hb1⟩; replace hb := Below.next hb hb1; clear hb1)
      | ((with_reducible refine (q12 _ _ (by first | rfl | simp)).mono ?_); rintro e w1 ⟨rfl, hb1⟩; replace hb := Below.next hb hb1; clear hb1)
      | ((with_reducible refine (q13 _ _ (by first | rfl | simp)).mono ?_); rintro e w1 ⟨rfl, hb1⟩; replace hb := Below.next hb hb1; clear hb1))
    | (go_at_call 23; first
      | ((with_reducible refine (q14 _).mono ?_); rintro e w1 ⟨rfl, rfl⟩)
      | ((with_reducible refine (q15 _ _ (by first | rfl | simp)).mono ?_); rintro e w1 ⟨rfl, hb1⟩; replace hb := Below.next hb hb1; clear hb1)
      | ((with_reducible refine (q16 _ _ (by first | rfl | simp)).mono ?_); rintro e w1 ⟨rfl, hb1⟩; replace hb := Below.next hb hb1; clear hb1)
      | ((with_reducible refine (q17 _ _ (by first | rfl | simp)).mono ?_); rintro e w1 ⟨rfl, hb1⟩; replace hb := Below.next hb hb1; clear hb1))
    | (go_at_call 21; first
      | ((with_reducible refine (works_any _).mono ?_); rintro e w1 ⟨rfl, hb1⟩; replace hb := Below.next hb hb1; clear hb1))
    | (go_at_call 22; first
      | ((with_reducible refine (q90 _).mono ?_); rintro e w1 ⟨rfl, hb1⟩; replace hb := Below.next hb hb1; clear hb1)))
  go_ret
  exact ⟨rfl, hb⟩
end Go.Proofs.Ytmciflpabnfeiaa

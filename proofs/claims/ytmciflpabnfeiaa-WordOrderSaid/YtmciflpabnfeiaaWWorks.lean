/-
  The statements' works: the chapter's examples.
-/
import Derived.Test.YtmciflpabnfeiaaWLit
namespace Go.Proofs.Ytmciflpabnfeiaa
open Go.RowKit

theorem chk_rep (b : UInt8) (n : Nat) (hn : n ≤ 1000) (r : Nat) (hr : r = if 1 ≤ n ∧ n ≤ 255 then 0 else 7) (W : World) (R : ByteArray) (hR : R = ⟨(List.replicate n b).toArray⟩) :
    Calls Try.prog 9 #[.slice (some ⟨W.heap.size, 0, none⟩) 1 1] (W.alloc (.cells #[.string R] 9)) fun e w' => e = .returned (.int .i64 (r : Int)) ∧ Below W.heap.size W w' := by
  refine chk_lit [R] r ?_ ?_ (by simp) W
  · unfold checkT
    rw [hr, hR]
    simp only [List.all_cons, List.all_nil, Bool.and_true, wordT_rep, decide_eq_true_eq]
  · intro s hs
    simp at hs
    subst hs
    rw [hR]
    show (List.replicate n b).toArray.size ≤ _
    simp
    omega

set_option maxRecDepth 100000 in
set_option maxHeartbeats 8000000 in
theorem works_any (w : World) : Calls Try.prog 21 #[] w fun e w' => e = .returned (.bool true) ∧ Below w.heap.size w w' := by
  obtain ⟨R, hR⟩ : ∃ R : ByteArray, R = ⟨(List.replicate 256 120).toArray⟩ := ⟨_, rfl⟩
  have q90 : ∀ w0, Calls Try.prog 22 #[.string ⟨#[120]⟩, .int .i64 256] w0 fun e w' => e = .returned (.string R) ∧ Below w0.heap.size w0 w' := fun w0 => by rw [hR]; exact rep_is 120 256 (by decide) w0
  have q91 : ∀ (W : World) (g : Nat), g = W.heap.size → Calls Try.prog 9 #[.slice (some ⟨g, 0, none⟩) 1 1] (W.alloc (.cells #[.string R] 9)) fun e w' => e = .returned (.int .i64 7) ∧ Below W.heap.size W w' := fun W g hg => by
    subst hg; exact chk_rep 120 256 (by decide) 7 (by rfl) W R hR
  clear hR
  have q1 : ∀ (W : World) (g : Nat), g = W.heap.size → Calls Try.prog 9 #[.slice (some ⟨g, 0, none⟩) 2 2] (W.alloc (.cells #[.string ⟨#[97]⟩, .string ⟨#[97, 98]⟩] 9)) fun e w' => e = .returned (.int .i64 0) ∧ Below W.heap.size W w' := fun W g hg => by
    subst hg; exact chk_lit [⟨#[97]⟩, ⟨#[97, 98]⟩] 0 (by rfl) (by intro s hs; simp only [List.mem_cons, List.not_mem_nil, or_false] at hs; rcases hs with rfl | rfl <;> decide) (by decide) W
  have q2 : ∀ (W : World) (g : Nat), g = W.heap.size → Calls Try.prog 9 #[.slice (some ⟨g, 0, none⟩) 2 2] (W.alloc (.cells #[.string ⟨#[97]⟩, .string ⟨#[]⟩] 9)) fun e w' => e = .returned (.int .i64 7) ∧ Below W.heap.size W w' := fun W g hg => by
    subst hg; exact chk_lit [⟨#[97]⟩, ⟨#[]⟩] 7 (by rfl) (by intro s hs; simp only [List.mem_cons, List.not_mem_nil, or_false] at hs; rcases hs with rfl | rfl <;> decide) (by decide) W
  have q3 : ∀ (W : World), Calls Try.prog 9 #[.slice none 0 0] W fun e w' => e = .returned (.int .i64 0) ∧ W = w' := fun W => check_any [] _ W (strs_nil W) (by intro s hs; cases hs) (by decide)
  have q4 := less_is ⟨#[97, 98]⟩ ⟨#[97, 98, 99]⟩ true (by rfl)
  have q5 := less_is ⟨#[98]⟩ ⟨#[97, 98]⟩ false (by rfl)
  have q6 := less_is ⟨#[97]⟩ ⟨#[97]⟩ false (by rfl)
  have q7 : ∀ (W : World) (g : Nat), g = W.heap.size → Calls Try.prog 12 #[.slice (some ⟨g, 0, none⟩) 3 3] (W.alloc (.cells #[.string ⟨#[97]⟩, .string ⟨#[97, 98]⟩, .string ⟨#[98]⟩] 9)) fun e w' => e = .returned (.bool true) ∧ Below W.heap.size W w' := fun W g hg => by
    subst hg; exact rise_lit [⟨#[97]⟩, ⟨#[97, 98]⟩, ⟨#[98]⟩] true (by rfl) (by decide) W
  have q8 : ∀ (W : World) (g : Nat), g = W.heap.size → Calls Try.prog 12 #[.slice (some ⟨g, 0, none⟩) 2 2] (W.alloc (.cells #[.string ⟨#[97]⟩, .string ⟨#[97]⟩] 9)) fun e w' => e = .returned (.bool false) ∧ Below W.heap.size W w' := fun W g hg => by
    subst hg; exact rise_lit [⟨#[97]⟩, ⟨#[97]⟩] false (by rfl) (by decide) W
  have q9 : ∀ (W : World), Calls Try.prog 12 #[.slice none 0 0] W fun e w' => e = .returned (.bool true) ∧ Below W.heap.size W w' := fun W => rising_any [] _ W (strs_nil W) (by decide)
  have q10 : ∀ (W : World) (g : Nat), g = W.heap.size → Calls Try.prog 14 #[.slice (some ⟨g, 0, none⟩) 3 3] (W.alloc (.cells #[.string ⟨#[97, 98, 99]⟩, .string ⟨#[97, 98, 100]⟩, .string ⟨#[97, 98]⟩] 9)) fun e w' => e = .returned (.int .i64 2) ∧ Below W.heap.size W w' := fun W g hg => by
    subst hg; exact shared_lit [⟨#[97, 98, 99]⟩, ⟨#[97, 98, 100]⟩, ⟨#[97, 98]⟩] 2 (by rfl) (by intro s hs; simp only [List.mem_cons, List.not_mem_nil, or_false] at hs; rcases hs with rfl | rfl | rfl <;> decide) (by decide) W
  have q11 : ∀ (W : World) (g : Nat), g = W.heap.size → Calls Try.prog 14 #[.slice (some ⟨g, 0, none⟩) 1 1] (W.alloc (.cells #[.string ⟨#[120]⟩] 9)) fun e w' => e = .returned (.int .i64 1) ∧ Below W.heap.size W w' := fun W g hg => by
    subst hg; exact shared_lit [⟨#[120]⟩] 1 (by rfl) (by intro s hs; simp only [List.mem_cons, List.not_mem_nil, or_false] at hs; rcases hs with rfl <;> decide) (by decide) W
  have q12 : ∀ (W : World), Calls Try.prog 14 #[.slice none 0 0] W fun e w' => e = .returned (.int .i64 0) ∧ Below W.heap.size W w' := fun W => shared_any [] _ W (strs_nil W) (by intro s hs; cases hs) (by decide)
  have hr : risingT [⟨#[97]⟩, ⟨#[99]⟩, ⟨#[101]⟩] = true := by rfl
  have q92 : ∀ (W : World) v, Strs W v [⟨#[97]⟩, ⟨#[99]⟩, ⟨#[101]⟩] → Calls Try.prog 23 #[v, .string ⟨#[99]⟩, .int .i64 1, .bool true] W fun e w' => e = .returned (.bool true) ∧ W = w' := fun W v h => near_true _ v ⟨#[99]⟩ W 1 true hr h (by decide) (by rfl) (by rfl)
  have q93 : ∀ (W : World) v, Strs W v [⟨#[97]⟩, ⟨#[99]⟩, ⟨#[101]⟩] → Calls Try.prog 23 #[v, .string ⟨#[100]⟩, .int .i64 2, .bool false] W fun e w' => e = .returned (.bool true) ∧ W = w' := fun W v h => near_true _ v ⟨#[100]⟩ W 2 false hr h (by decide) (by rfl) (by rfl)
  have hl : ∀ W', Below (w.alloc (.cells #[.string ⟨#[97]⟩, .string ⟨#[99]⟩, .string ⟨#[101]⟩] 9)).heap.size (w.alloc (.cells #[.string ⟨#[97]⟩, .string ⟨#[99]⟩, .string ⟨#[101]⟩] 9)) W' → Strs W' (.slice (some ⟨w.heap.size, 0, none⟩) 3 3) [⟨#[97]⟩, ⟨#[99]⟩, ⟨#[101]⟩] := fun W' h => (strs_lit [⟨#[97]⟩, ⟨#[99]⟩, ⟨#[101]⟩] w).below h
  have HL := Lib.hid hl
  clear hl hr
  have hb : Below w.heap.size w (w.alloc (.cells #[.string ⟨#[97]⟩, .string ⟨#[99]⟩, .string ⟨#[101]⟩] 9)) := below_alloc' (Below.refl _ _)
  have hbl : Below (w.alloc (.cells #[.string ⟨#[97]⟩, .string ⟨#[99]⟩, .string ⟨#[101]⟩] 9)).heap.size (w.alloc (.cells #[.string ⟨#[97]⟩, .string ⟨#[99]⟩, .string ⟨#[101]⟩] 9)) (w.alloc (.cells #[.string ⟨#[97]⟩, .string ⟨#[99]⟩, .string ⟨#[101]⟩] 9)) := Below.refl _ _
  go_enter Try.func21, Try.ntmps21
  go_wp2_with (first
    | (go_at_call 9; first
      | ((with_reducible refine (q1 _ _ (by first | rfl | simp)).mono ?_); rintro e w1 ⟨rfl, hb1⟩; replace hb := Below.next hb hb1; replace hbl := Below.next hbl hb1; clear hb1)
      | ((with_reducible refine (q2 _ _ (by first | rfl | simp)).mono ?_); rintro e w1 ⟨rfl, hb1⟩; replace hb := Below.next hb hb1; replace hbl := Below.next hbl hb1; clear hb1)
      | ((with_reducible refine (q3 _).mono ?_); rintro e w1 ⟨rfl, rfl⟩)
      | ((with_reducible refine (q91 _ _ (by first | rfl | simp)).mono ?_); rintro e w1 ⟨rfl, hb1⟩; replace hb := Below.next hb hb1; replace hbl := Below.next hbl hb1; clear hb1))
    | (go_at_call 18; first
      | ((with_reducible refine (q4 _).mono ?_); rintro e w1 ⟨rfl, rfl⟩)
      | ((with_reducible refine (q5 _).mono ?_); rintro e w1 ⟨rfl, rfl⟩)
      | ((with_reducible refine (q6 _).mono ?_); rintro e w1 ⟨rfl, rfl⟩))
    | (go_at_call 12; first
      | ((with_reducible refine (q7 _ _ (by first | rfl | simp)).mono ?_); rintro e w1 ⟨rfl, hb1⟩; replace hb := Below.next hb hb1; replace hbl := Below.next hbl hb1; clear hb1)
      | ((with_reducible refine (q8 _ _ (by first | rfl | simp)).mono ?_); rintro e w1 ⟨rfl, hb1⟩; replace hb := Below.next hb hb1; replace hbl := Below.next hbl hb1; clear hb1)
      | ((with_reducible refine (q9 _).mono ?_); rintro e w1 ⟨rfl, hb1⟩; replace hb := Below.next hb hb1; replace hbl := Below.next hbl hb1; clear hb1))
    | (go_at_call 14; first
      | ((with_reducible refine (q10 _ _ (by first | rfl | simp)).mono ?_); rintro e w1 ⟨rfl, hb1⟩; replace hb := Below.next hb hb1; replace hbl := Below.next hbl hb1; clear hb1)
      | ((with_reducible refine (q11 _ _ (by first | rfl | simp)).mono ?_); rintro e w1 ⟨rfl, hb1⟩; replace hb := Below.next hb hb1; replace hbl := Below.next hbl hb1; clear hb1)
      | ((with_reducible refine (q12 _).mono ?_); rintro e w1 ⟨rfl, hb1⟩; replace hb := Below.next hb hb1; replace hbl := Below.next hbl hb1; clear hb1))
    | (go_at_call 22; first
      | ((with_reducible refine (q90 _).mono ?_); rintro e w1 ⟨rfl, hb1⟩; replace hb := Below.next hb hb1; replace hbl := Below.next hbl hb1; clear hb1))
    | (go_at_call 23; first
      | ((with_reducible refine (q92 _ _ (HL.out _ hbl)).mono ?_); rintro e w1 ⟨rfl, rfl⟩)
      | ((with_reducible refine (q93 _ _ (HL.out _ hbl)).mono ?_); rintro e w1 ⟨rfl, rfl⟩)))
  go_ret
  exact ⟨rfl, hb⟩
end Go.Proofs.Ytmciflpabnfeiaa

/-
  A file that is the call's own: each method told of it; the chapter's file.
-/
import Derived.Test.YtloijbhilfbliaaFAlike6
namespace Go.Proofs.Ytloijbhilfbliaa
open Go.RowKit Go.Shelf

/-- A file whose blocks are all newer than a world. -/
def NewF (w0 w : World) (p : Nat) (D : List UInt8) (A : List Do) : Prop :=
  ∃ M I : Nat → Prop, FileAt w p D A M I ∧ (∀ g, M g → w0.heap.size ≤ g) ∧ (∀ g, I g → w0.heap.size ≤ g) ∧ Below w0.heap.size w0 w

theorem NewF.next {w0 w w1 : World} {p : Nat} {D : List UInt8} {A : List Do} (h : NewF w0 w p D A) (hb : Below w.heap.size w w1) : NewF w0 w1 p D A := by
  obtain ⟨M, I, h1, h2, h3, h4⟩ := h
  exact ⟨M, I, h1.below hb, h2, h3, Below.next h4 hb⟩
theorem NewF.below {w0 w : World} {p : Nat} {D : List UInt8} {A : List Do} (h : NewF w0 w p D A) : Below w0.heap.size w0 w := h.choose_spec.choose_spec.2.2.2

/-- A method that leaves the file's blocks and new ones. -/
theorem NewF.went {w0 w : World} {p f : Nat} {D E : List UInt8} {A B : List Do} {args : Array Value} {r : Value} (h : NewF w0 w p D A)
    (hc : ∀ M I, FileAt w p D A M I → Calls Try.prog f args w (Went w p E B M I r)) : Calls Try.prog f args w fun e w' => e = .returned r ∧ NewF w0 w' p E B := by
  obtain ⟨M, I, h1, h2, h3, h4⟩ := h
  refine (hc M I h1).mono ?_
  rintro e w' ⟨rfl, M', I', k1, k2, k3, k4⟩
  have hz := h4.size
  refine ⟨rfl, M', I', k1, fun g hg => ?_, fun g hg => ?_, h4.trans (k4.to hz h2)⟩
  · rcases k2 g hg with h | h
    · exact h2 g h
    · omega
  · rcases k3 g hg with h | h
    · exact h3 g h
    · omega

/-- A method that only reads. -/
theorem NewF.read {w0 w : World} {p f : Nat} {D : List UInt8} {A : List Do} {args : Array Value} {R : Ending → World → Prop} (h : NewF w0 w p D A)
    (hc : ∀ M I, FileAt w p D A M I → Calls Try.prog f args w R) : Calls Try.prog f args w R := by
  obtain ⟨M, I, h1, _⟩ := h
  exact hc M I h1

theorem newF_any (s : ByteArray) (w0 w : World) (hb : Below w0.heap.size w0 w) (hs : s.size ≤ 100000) :
    Calls Try.prog 7 #[.string s] w fun e w' => ∃ p, e = .returned (.pointer (some ⟨p, 0, none⟩)) ∧ NewF w0 w' p s.data.toList [] := by
  refine (new_any s w hs).mono ?_
  rintro e w' ⟨p, M, rfl, h1, h2, h3⟩
  have hz := hb.size
  exact ⟨p, rfl, M, _, h1, fun g hg => by have := h2 g hg; omega, fun g hg => hg.elim, Below.next hb h3⟩

/-- A text written out as a row of one, of two. -/
theorem strs_lit1 (s : ByteArray) (w : World) : Strs (w.alloc (.cells #[.string s] 9)) (.slice (some ⟨w.heap.size, 0, none⟩) 1 1) [s] :=
  ⟨_, 1, rfl, fun i hi => ⟨_, 0, rfl, by
    obtain rfl : i = 0 := by simpa using hi
    rw [cell_of_row _ _ _ _ _ _ (heap_alloc_new w _)]; rfl⟩⟩
theorem strs_lit2 (s t : ByteArray) (w : World) : Strs (w.alloc (.cells #[.string s, .string t] 9)) (.slice (some ⟨w.heap.size, 0, none⟩) 2 2) [s, t] :=
  ⟨_, 2, rfl, fun i hi => ⟨_, 0, rfl, by
    have : i = 0 ∨ i = 1 := by simp only [List.length_cons, List.length_nil] at hi; omega
    rcases this with rfl | rfl <;> (rw [cell_of_row _ _ _ _ _ _ (heap_alloc_new w _)]; rfl)⟩⟩

def exD : List UInt8 := [97, 98]
def exA : List Do := [.app [99, 100], .cut 3, .app [120, 121, 122]]

theorem append1_any {w0 w : World} {p : Nat} {D : List UInt8} {A : List Do} (s : ByteArray) (h : NewF w0 w p D A) (hb : bulk D A + s.size ≤ 100000) (hl : A.length ≤ 1000) :
    Calls Try.prog 9 #[.pointer (some ⟨p, 0, none⟩), .slice (some ⟨w.heap.size, 0, none⟩) 1 1] (w.alloc (.cells #[.string s] 9)) fun e w' => e = .returned (.int .i64 0) ∧ NewF w0 w' p D (appT A s.data.toList) := by
  have hj : joined [s] = s.data.toList := by simp [joined]
  rw [← hj]
  exact (h.next (below_alloc' (Below.refl _ w))).went fun _ _ hf => append_any hf (strs_lit1 s w) (by simp) (by rw [hj, ba_length]; omega) hl
theorem append2_any {w0 w : World} {p : Nat} {D : List UInt8} {A : List Do} (s t : ByteArray) (h : NewF w0 w p D A) (hb : bulk D A + s.size + t.size ≤ 100000) (hl : A.length ≤ 1000) :
    Calls Try.prog 9 #[.pointer (some ⟨p, 0, none⟩), .slice (some ⟨w.heap.size, 0, none⟩) 2 2] (w.alloc (.cells #[.string s, .string t] 9)) fun e w' => e = .returned (.int .i64 0) ∧ NewF w0 w' p D (appT A (s.data.toList ++ t.data.toList)) := by
  have hj : joined [s, t] = s.data.toList ++ t.data.toList := by simp [joined]
  rw [← hj]
  exact (h.next (below_alloc' (Below.refl _ w))).went fun _ _ hf => append_any hf (strs_lit2 s t w) (by simp) (by rw [hj, List.length_append, ba_length, ba_length]; omega) hl
theorem cutF_any {w0 w : World} {p : Nat} {D : List UInt8} {A : List Do} (n : Int) (h : NewF w0 w p D A) (hl : A.length ≤ 1000) (h1 : -9223372036854775808 ≤ n) (h2 : n ≤ 9223372036854775807) :
    Calls Try.prog 16 #[.pointer (some ⟨p, 0, none⟩), .int .i64 n] w fun e w' => e = .returned (.int .i64 (cutE (reads D A) n)) ∧ NewF w0 w' p D (cutT (reads D A) A n) :=
  h.went fun _ _ hf => cut_any hf hl h1 h2

set_option maxHeartbeats 1000000 in
set_option maxRecDepth 100000 in
theorem example_any (w0 w : World) (hb : Below w0.heap.size w0 w) :
    Calls Try.prog 34 #[] w fun e w' => ∃ p, e = .returned (.pointer (some ⟨p, 0, none⟩)) ∧ NewF w0 w' p exD exA := by
  have Q7 := Lib.hid (newF_any ⟨#[97, 98]⟩ w0 w hb (by decide))
  have Q9 : Hid (∀ w1 p, NewF w0 w1 p exD [] → Calls Try.prog 9 #[.pointer (some ⟨p, 0, none⟩), .slice (some ⟨w1.heap.size, 0, none⟩) 1 1] (w1.alloc (.cells #[.string ⟨#[99, 100]⟩] 9)) fun e w' => e = .returned (.int .i64 0) ∧ NewF w0 w' p exD [.app [99, 100]]) := Lib.hid fun w1 p h => append1_any ⟨#[99, 100]⟩ h (by decide) (by decide)
  have Q16 : Hid (∀ w1 p, NewF w0 w1 p exD [.app [99, 100]] → Calls Try.prog 16 #[.pointer (some ⟨p, 0, none⟩), .int .i64 3] w1 fun e w' => e = .returned (.int .i64 0) ∧ NewF w0 w' p exD [.app [99, 100], .cut 3]) := Lib.hid fun w1 p h => cutF_any 3 h (by decide) (by decide) (by decide)
  have Q99 : Hid (∀ w1 p, NewF w0 w1 p exD [.app [99, 100], .cut 3] → Calls Try.prog 9 #[.pointer (some ⟨p, 0, none⟩), .slice (some ⟨w1.heap.size, 0, none⟩) 2 2] (w1.alloc (.cells #[.string ⟨#[120]⟩, .string ⟨#[121, 122]⟩] 9)) fun e w' => e = .returned (.int .i64 0) ∧ NewF w0 w' p exD exA) := Lib.hid fun w1 p h => append2_any ⟨#[120]⟩ ⟨#[121, 122]⟩ h (by decide) (by decide)
  clear hb
  go_enter Try.func34, Try.ntmps34
  go_wp2_with (first
    | (go_at_call 7; (with_reducible refine Q7.out.mono ?_); rintro e w1 ⟨p, rfl, h1⟩; have H1 := Lib.hid h1; clear h1)
    | (go_at_call 9; (with_reducible refine (Q9.out _ _ H1.out).mono ?_); rintro e w2 ⟨rfl, h2⟩; have H2 := Lib.hid h2; clear h2)
    | (go_at_call 16; (with_reducible refine (Q16.out _ _ H2.out).mono ?_); rintro e w3 ⟨rfl, h3⟩; have H3 := Lib.hid h3; clear h3)
    | (go_at_call 9; (with_reducible refine (Q99.out _ _ H3.out).mono ?_); rintro e w4 ⟨rfl, h4⟩; have H4 := Lib.hid h4; clear h4))
  go_ret
  exact ⟨p, rfl, H4.out⟩
end Go.Proofs.Ytloijbhilfbliaa

/-
  What stays of the chapter's file; the chapter's examples.
-/
import Derived.Test.YtloijbhilfbliaaFNewF
namespace Go.Proofs.Ytloijbhilfbliaa
open Go.RowKit Go.Shelf

theorem str_neq (S : ByteArray) : (S.toList != S.toList) = false := by simp

theorem stayF_any {w0 w : World} {p : Nat} {D : List UInt8} {A : List Do} (d q : Int) (h : NewF w0 w p D A) (hl : A.length ≤ 1000) (h1 : -9223372036854775808 ≤ d) (h2 : d ≤ 9223372036854775807) (h3 : -9223372036854775808 ≤ q) (h4 : q ≤ 9223372036854775807) :
    Calls Try.prog 20 #[.pointer (some ⟨p, 0, none⟩), .agg #[.int .i64 d, .int .i64 q]] w fun e w' => e = .returned (.int .i64 0) ∧ NewF w0 w' p (stays D A d q) [] :=
  h.went fun _ _ hf => stay_any hf hl h1 h2 h3 h4
theorem bytesF_any {w0 w : World} {p : Nat} {D : List UInt8} {A : List Do} (h : NewF w0 w p D A) :
    Calls Try.prog 14 #[.pointer (some ⟨p, 0, none⟩)] w fun e w' => e = .returned (.string (strO (reads D A))) ∧ w = w' := h.read fun _ _ hf => bytes_any hf
theorem durableF_any {w0 w : World} {p : Nat} {D : List UInt8} {A : List Do} (h : NewF w0 w p D A) :
    Calls Try.prog 18 #[.pointer (some ⟨p, 0, none⟩)] w fun e w' => e = .returned (.string (strO D)) ∧ w = w' := h.read fun _ _ hf => durable_any hf
theorem lenF_any {w0 w : World} {p : Nat} {D : List UInt8} {A : List Do} (h : NewF w0 w p D A) :
    Calls Try.prog 15 #[.pointer (some ⟨p, 0, none⟩)] w fun e w' => e = .returned (.int .i64 ((reads D A).length : Nat)) ∧ w = w' := h.read fun _ _ hf => len_any hf
theorem actsF_any {w0 w : World} {p : Nat} {D : List UInt8} {A : List Do} (h : NewF w0 w p D A) :
    Calls Try.prog 19 #[.pointer (some ⟨p, 0, none⟩)] w fun e w' => e = .returned (.int .i64 (A.length : Nat)) ∧ w = w' := h.read fun _ _ hf => acts_any hf
theorem readF_any {w0 w : World} {p : Nat} {D : List UInt8} {A : List Do} (a n : Int) (h : NewF w0 w p D A) (h1 : -9223372036854775808 ≤ n) (h2 : n ≤ 9223372036854775807) (h3 : a ≤ 9223372036854775807) :
    Calls Try.prog 22 #[.pointer (some ⟨p, 0, none⟩), .int .i64 a, .int .i64 n] w fun e w' => e = .returned (.tuple #[.string (strO (readT (reads D A) a n)), .int .i64 (readE (reads D A) a n)]) ∧ w = w' := h.read fun _ _ hf => readAt_any hf h1 h2 h3

set_option maxHeartbeats 1000000 in
set_option maxRecDepth 100000 in
theorem stays_any (w : World) (d q : Int) (h1 : -9223372036854775808 ≤ d) (h2 : d ≤ 9223372036854775807) (h3 : -9223372036854775808 ≤ q) (h4 : q ≤ 9223372036854775807) :
    Calls Try.prog 35 #[.int .i64 d, .int .i64 q] w fun e w' => e = .returned (.string (strO (stays exD exA d q))) ∧ Below w.heap.size w w' := by
  have Q34 := Lib.hid (example_any w w (Below.refl _ w))
  have Q20 : Hid (∀ w1 p, NewF w w1 p exD exA → Calls Try.prog 20 #[.pointer (some ⟨p, 0, none⟩), .agg #[.int .i64 d, .int .i64 q]] w1 fun e w' => e = .returned (.int .i64 0) ∧ NewF w w' p (stays exD exA d q) []) := Lib.hid fun w1 p h => stayF_any d q h (by decide) h1 h2 h3 h4
  obtain ⟨R, hR⟩ : ∃ R, stays exD exA d q = R := ⟨_, rfl⟩
  obtain ⟨S, hS⟩ : ∃ S, strO R = S := ⟨_, rfl⟩
  rw [hR] at Q20 ⊢
  rw [hS]
  have Q19 : Hid (∀ w1 p, NewF w w1 p R [] → Calls Try.prog 19 #[.pointer (some ⟨p, 0, none⟩)] w1 fun e w' => e = .returned (.int .i64 0) ∧ w1 = w') := Lib.hid fun w1 p h => actsF_any h
  have Q14 : Hid (∀ w1 p, NewF w w1 p R [] → Calls Try.prog 14 #[.pointer (some ⟨p, 0, none⟩)] w1 fun e w' => e = .returned (.string S) ∧ w1 = w') := Lib.hid fun w1 p h => by rw [← hS]; exact bytesF_any h
  have Q18 : Hid (∀ w1 p, NewF w w1 p R [] → Calls Try.prog 18 #[.pointer (some ⟨p, 0, none⟩)] w1 fun e w' => e = .returned (.string S) ∧ w1 = w') := Lib.hid fun w1 p h => by rw [← hS]; exact durableF_any h
  have s1 := str_neq S
  clear hR hS h1 h2 h3 h4
  go_enter Try.func35, Try.ntmps35
  go_wp2_with (first
    | (go_at_call 34; (with_reducible refine Q34.out.mono ?_); rintro e w1 ⟨p, rfl, h1⟩; have H1 := Lib.hid h1; clear h1)
    | (go_at_call 20; (with_reducible refine (Q20.out _ _ H1.out).mono ?_); rintro e w2 ⟨rfl, h2⟩; have H2 := Lib.hid h2; clear h2)
    | (go_at_call 19; (with_reducible refine (Q19.out _ _ H2.out).mono ?_); rintro e w3 ⟨rfl, rfl⟩)
    | (go_at_call 14; (with_reducible refine (Q14.out _ _ H2.out).mono ?_); rintro e w3 ⟨rfl, rfl⟩)
    | (go_at_call 18; (with_reducible refine (Q18.out _ _ H2.out).mono ?_); rintro e w3 ⟨rfl, rfl⟩))
  go_ret
  exact ⟨rfl, H2.out.below⟩

set_option maxHeartbeats 2000000 in
set_option maxRecDepth 100000 in
theorem works_any (w : World) : Calls Try.prog 13 #[] w fun e w' => e = .returned (.bool true) ∧ Below w.heap.size w w' := by
  have Q34 := Lib.hid (example_any w w (Below.refl _ w))
  have Q22a : Hid (∀ w1 p, NewF w w1 p exD exA → Calls Try.prog 22 #[.pointer (some ⟨p, 0, none⟩), .int .i64 4, .int .i64 9] w1 fun e w' => e = .returned (.tuple #[.string ⟨#[121, 122]⟩, .int .i64 0]) ∧ w1 = w') := Lib.hid fun w1 p h => readF_any 4 9 h (by decide) (by decide) (by decide)
  have Q22b : Hid (∀ w1 p, NewF w w1 p exD exA → Calls Try.prog 22 #[.pointer (some ⟨p, 0, none⟩), .int .i64 7, .int .i64 1] w1 fun e w' => e = .returned (.tuple #[.string ⟨#[]⟩, .int .i64 17]) ∧ w1 = w') := Lib.hid fun w1 p h => readF_any 7 1 h (by decide) (by decide) (by decide)
  have Q14 : Hid (∀ w1 p, NewF w w1 p exD exA → Calls Try.prog 14 #[.pointer (some ⟨p, 0, none⟩)] w1 fun e w' => e = .returned (.string ⟨#[97, 98, 99, 120, 121, 122]⟩) ∧ w1 = w') := Lib.hid fun w1 p h => bytesF_any h
  have Q15 : Hid (∀ w1 p, NewF w w1 p exD exA → Calls Try.prog 15 #[.pointer (some ⟨p, 0, none⟩)] w1 fun e w' => e = .returned (.int .i64 6) ∧ w1 = w') := Lib.hid fun w1 p h => lenF_any h
  have Q18 : Hid (∀ w1 p, NewF w w1 p exD exA → Calls Try.prog 18 #[.pointer (some ⟨p, 0, none⟩)] w1 fun e w' => e = .returned (.string ⟨#[97, 98]⟩) ∧ w1 = w') := Lib.hid fun w1 p h => durableF_any h
  have Q19 : Hid (∀ w1 p, NewF w w1 p exD exA → Calls Try.prog 19 #[.pointer (some ⟨p, 0, none⟩)] w1 fun e w' => e = .returned (.int .i64 3) ∧ w1 = w') := Lib.hid fun w1 p h => actsF_any h
  have s1 : Hid (∀ w1, Calls Try.prog 35 #[.int .i64 0, .int .i64 0] w1 fun e w' => e = .returned (.string ⟨#[97, 98]⟩) ∧ Below w1.heap.size w1 w') := Lib.hid fun w1 => stays_any w1 0 0 (by decide) (by decide) (by decide) (by decide)
  have s2 : Hid (∀ w1, Calls Try.prog 35 #[.int .i64 0, .int .i64 1] w1 fun e w' => e = .returned (.string ⟨#[97, 98, 99]⟩) ∧ Below w1.heap.size w1 w') := Lib.hid fun w1 => stays_any w1 0 1 (by decide) (by decide) (by decide) (by decide)
  have s3 : Hid (∀ w1, Calls Try.prog 35 #[.int .i64 1, .int .i64 0] w1 fun e w' => e = .returned (.string ⟨#[97, 98, 99, 100]⟩) ∧ Below w1.heap.size w1 w') := Lib.hid fun w1 => stays_any w1 1 0 (by decide) (by decide) (by decide) (by decide)
  have s4 : Hid (∀ w1, Calls Try.prog 35 #[.int .i64 2, .int .i64 2] w1 fun e w' => e = .returned (.string ⟨#[97, 98, 99, 120, 121]⟩) ∧ Below w1.heap.size w1 w') := Lib.hid fun w1 => stays_any w1 2 2 (by decide) (by decide) (by decide) (by decide)
  have s5 : Hid (∀ w1, Calls Try.prog 35 #[.int .i64 9, .int .i64 9] w1 fun e w' => e = .returned (.string ⟨#[97, 98, 99, 120, 121, 122]⟩) ∧ Below w1.heap.size w1 w') := Lib.hid fun w1 => stays_any w1 9 9 (by decide) (by decide) (by decide) (by decide)
  have s6 : Hid (∀ w1, Calls Try.prog 35 #[.int .i64 1, .int .i64 5] w1 fun e w' => e = .returned (.string ⟨#[97, 98, 99, 100]⟩) ∧ Below w1.heap.size w1 w') := Lib.hid fun w1 => stays_any w1 1 5 (by decide) (by decide) (by decide) (by decide)
  go_enter Try.func13, Try.ntmps13
  go_wp2_with (first
    | (go_at_call 34; (with_reducible refine Q34.out.mono ?_); rintro e w1 ⟨p, rfl, h1⟩; have HB := Lib.hid h1.below; have H1 := Lib.hid h1; clear h1)
    | (go_at_call 22; first | ((with_reducible refine (Q22a.out _ _ H1.out).mono ?_); rintro e w3 ⟨rfl, rfl⟩) | ((with_reducible refine (Q22b.out _ _ H1.out).mono ?_); rintro e w3 ⟨rfl, rfl⟩))
    | (go_at_call 14; (with_reducible refine (Q14.out _ _ H1.out).mono ?_); rintro e w3 ⟨rfl, rfl⟩)
    | (go_at_call 15; (with_reducible refine (Q15.out _ _ H1.out).mono ?_); rintro e w3 ⟨rfl, rfl⟩)
    | (go_at_call 18; (with_reducible refine (Q18.out _ _ H1.out).mono ?_); rintro e w3 ⟨rfl, rfl⟩)
    | (go_at_call 19; (with_reducible refine (Q19.out _ _ H1.out).mono ?_); rintro e w3 ⟨rfl, rfl⟩)
    | (go_at_call 35; (first | (with_reducible refine (s1.out _).mono ?_) | (with_reducible refine (s2.out _).mono ?_) | (with_reducible refine (s3.out _).mono ?_) | (with_reducible refine (s4.out _).mono ?_) | (with_reducible refine (s5.out _).mono ?_) | (with_reducible refine (s6.out _).mono ?_)); rintro e w3 ⟨rfl, hb⟩; have HC := Below.next HB.out hb; clear HB hb; have HB := Lib.hid HC; clear HC))
  go_ret
  exact ⟨rfl, HB.out⟩
end Go.Proofs.Ytloijbhilfbliaa

/-
  Calls of a file that is none; FileKnown: the walk.
-/
import Derived.Test.YtloijbhilfbliaaFWorks6
namespace Go.Proofs.Ytloijbhilfbliaa
open Go.RowKit Go.Shelf

set_option maxRecDepth 100000 in
theorem nil_append (w : World) (v : Value) : Calls Try.prog 9 #[.pointer none, v] w fun e w' => e = .returned (.int .i64 1) ∧ w = w' := by
  go_enter Try.func9, Try.ntmps9
  go_wp2
  go_ret
  exact ⟨rfl, rfl⟩

set_option maxRecDepth 100000 in
theorem nil_cut (w : World) : Calls Try.prog 16 #[.pointer none, .int .i64 0] w fun e w' => e = .returned (.int .i64 1) ∧ Below w.heap.size w w' := by
  go_enter Try.func16, Try.ntmps16
  go_wp2
  go_ret
  exact ⟨rfl, below_alloc' (Below.refl _ w)⟩

set_option maxRecDepth 100000 in
theorem nil_sync (w : World) : Calls Try.prog 10 #[.pointer none] w fun e w' => e = .returned (.int .i64 1) ∧ w = w' := by
  go_enter Try.func10, Try.ntmps10
  go_wp2
  go_ret
  exact ⟨rfl, rfl⟩

set_option maxRecDepth 100000 in
theorem nil_stay (w : World) : Calls Try.prog 20 #[.pointer none, .agg #[.int .i64 0, .int .i64 0]] w fun e w' => e = .returned (.int .i64 1) ∧ Below w.heap.size w w' := by
  go_enter Try.func20, Try.ntmps20
  go_wp2
  go_ret
  exact ⟨rfl, below_alloc' (Below.refl _ w)⟩

set_option maxRecDepth 100000 in
theorem nil_len (w : World) : Calls Try.prog 15 #[.pointer none] w fun e w' => e = .returned (.int .i64 0) ∧ w = w' := by
  go_enter Try.func15, Try.ntmps15
  go_wp2
  go_ret
  exact ⟨rfl, rfl⟩

set_option maxRecDepth 100000 in
theorem nil_bytes (w : World) : Calls Try.prog 14 #[.pointer none] w fun e w' => e = .returned (.string ⟨#[]⟩) ∧ w = w' := by
  go_enter Try.func14, Try.ntmps14
  go_wp2
  go_ret
  exact ⟨rfl, rfl⟩

set_option maxRecDepth 100000 in
theorem nil_durable (w : World) : Calls Try.prog 18 #[.pointer none] w fun e w' => e = .returned (.string ⟨#[]⟩) ∧ w = w' := by
  go_enter Try.func18, Try.ntmps18
  go_wp2
  go_ret
  exact ⟨rfl, rfl⟩

set_option maxRecDepth 100000 in
theorem nil_acts (w : World) : Calls Try.prog 19 #[.pointer none] w fun e w' => e = .returned (.int .i64 0) ∧ w = w' := by
  go_enter Try.func19, Try.ntmps19
  go_wp2
  go_ret
  exact ⟨rfl, rfl⟩

set_option maxRecDepth 100000 in
theorem nil_copy (w : World) : Calls Try.prog 8 #[.pointer none] w fun e w' => e = .returned (.pointer none) ∧ w = w' := by
  go_enter Try.func8, Try.ntmps8
  go_wp2
  go_ret
  exact ⟨rfl, rfl⟩

set_option maxRecDepth 100000 in
theorem nil_readAt (w : World) : Calls Try.prog 22 #[.pointer none, .int .i64 0, .int .i64 0] w fun e w' => e = .returned (.tuple #[.string ⟨#[]⟩, .int .i64 1]) ∧ w = w' := by
  go_enter Try.func22, Try.ntmps22
  go_wp2
  go_ret2
  exact ⟨rfl, rfl⟩

theorem syncF_any {w0 w : World} {p : Nat} {D : List UInt8} {A : List Do} (h : NewF w0 w p D A) :
    Calls Try.prog 10 #[.pointer (some ⟨p, 0, none⟩)] w fun e w' => e = .returned (.int .i64 0) ∧ NewF w0 w' p (reads D A) [] := h.went fun _ _ hf => sync_any hf
theorem append0_any {w0 w : World} {p : Nat} {D : List UInt8} {A : List Do} (h : NewF w0 w p D A) (hb : bulk D A ≤ 100000) (hl : A.length ≤ 1000) :
    Calls Try.prog 9 #[.pointer (some ⟨p, 0, none⟩), .slice none 0 0] w fun e w' => e = .returned (.int .i64 0) ∧ NewF w0 w' p D A := by
  have := h.went (f := 9) (args := #[.pointer (some ⟨p, 0, none⟩), .slice none 0 0]) (r := .int .i64 0) fun _ _ hf => append_any (l := []) hf ⟨none, 0, rfl, fun i hi => by cases hi⟩ (by simp) (by simpa [joined] using hb) hl
  exact this

def k1 : List Do := [.app [97, 98, 99]]
def k2 : List Do := [.app [97, 98, 99], .cut 0]

set_option maxHeartbeats 2000000 in
set_option maxRecDepth 100000 in
theorem fileKnown_walk (w : World) : Calls Try.prog 5 #[] w fun e w' => e = .returned (.bool true) ∧ Below w.heap.size w w' := by
  have Q13 := Lib.hid works_any
  have Q7a : Hid (∀ W, Below w.heap.size w W → Calls Try.prog 7 #[.string ⟨#[]⟩] W fun e w' => ∃ p, e = .returned (.pointer (some ⟨p, 0, none⟩)) ∧ NewF w w' p [] []) := Lib.hid fun W hW => newF_any ⟨#[]⟩ w W hW (by decide)
  have Q9a : Hid (∀ W p, NewF w W p [] [] → Calls Try.prog 9 #[.pointer (some ⟨p, 0, none⟩), .slice none 0 0] W fun e w' => e = .returned (.int .i64 0) ∧ NewF w w' p [] []) := Lib.hid fun W p h => append0_any h (by decide) (by decide)
  have Q9b : Hid (∀ W p, NewF w W p [] [] → Calls Try.prog 9 #[.pointer (some ⟨p, 0, none⟩), .slice (some ⟨W.heap.size, 0, none⟩) 2 2] (W.alloc (.cells #[.string ⟨#[]⟩, .string ⟨#[]⟩] 9)) fun e w' => e = .returned (.int .i64 0) ∧ NewF w w' p [] []) := Lib.hid fun W p h => append2_any ⟨#[]⟩ ⟨#[]⟩ h (by decide) (by decide)
  have Q19a : Hid (∀ W p, NewF w W p [] [] → Calls Try.prog 19 #[.pointer (some ⟨p, 0, none⟩)] W fun e w' => e = .returned (.int .i64 0) ∧ W = w') := Lib.hid fun W p h => actsF_any h
  have Q9c : Hid (∀ W p, NewF w W p [] [] → Calls Try.prog 9 #[.pointer (some ⟨p, 0, none⟩), .slice (some ⟨W.heap.size, 0, none⟩) 1 1] (W.alloc (.cells #[.string ⟨#[97, 98, 99]⟩] 9)) fun e w' => e = .returned (.int .i64 0) ∧ NewF w w' p [] k1) := Lib.hid fun W p h => append1_any ⟨#[97, 98, 99]⟩ h (by decide) (by decide)
  have Q16a : Hid (∀ W p, NewF w W p [] k1 → Calls Try.prog 16 #[.pointer (some ⟨p, 0, none⟩), .int .i64 3] W fun e w' => e = .returned (.int .i64 0) ∧ NewF w w' p [] k1) := Lib.hid fun W p h => cutF_any 3 h (by decide) (by decide) (by decide)
  have Q16b : Hid (∀ W p, NewF w W p [] k1 → Calls Try.prog 16 #[.pointer (some ⟨p, 0, none⟩), .int .i64 4] W fun e w' => e = .returned (.int .i64 17) ∧ NewF w w' p [] k1) := Lib.hid fun W p h => cutF_any 4 h (by decide) (by decide) (by decide)
  have Q16c : Hid (∀ W p, NewF w W p [] k1 → Calls Try.prog 16 #[.pointer (some ⟨p, 0, none⟩), .int .i64 (-1)] W fun e w' => e = .returned (.int .i64 17) ∧ NewF w w' p [] k1) := Lib.hid fun W p h => cutF_any (-1) h (by decide) (by decide) (by decide)
  have Q19b : Hid (∀ W p, NewF w W p [] k1 → Calls Try.prog 19 #[.pointer (some ⟨p, 0, none⟩)] W fun e w' => e = .returned (.int .i64 1) ∧ W = w') := Lib.hid fun W p h => actsF_any h
  have Q16d : Hid (∀ W p, NewF w W p [] k1 → Calls Try.prog 16 #[.pointer (some ⟨p, 0, none⟩), .int .i64 0] W fun e w' => e = .returned (.int .i64 0) ∧ NewF w w' p [] k2) := Lib.hid fun W p h => cutF_any 0 h (by decide) (by decide) (by decide)
  have Q10 : Hid (∀ W p, NewF w W p [] k2 → Calls Try.prog 10 #[.pointer (some ⟨p, 0, none⟩)] W fun e w' => e = .returned (.int .i64 0) ∧ NewF w w' p [] []) := Lib.hid fun W p h => syncF_any h
  have Q22a : Hid (∀ W p, NewF w W p [] [] → Calls Try.prog 22 #[.pointer (some ⟨p, 0, none⟩), .int .i64 0, .int .i64 5] W fun e w' => e = .returned (.tuple #[.string ⟨#[]⟩, .int .i64 0]) ∧ W = w') := Lib.hid fun W p h => readF_any 0 5 h (by decide) (by decide) (by decide)
  have Q22b : Hid (∀ W p, NewF w W p [] [] → Calls Try.prog 22 #[.pointer (some ⟨p, 0, none⟩), .int .i64 0, .int .i64 (-1)] W fun e w' => e = .returned (.tuple #[.string ⟨#[]⟩, .int .i64 17]) ∧ W = w') := Lib.hid fun W p h => readF_any 0 (-1) h (by decide) (by decide) (by decide)
  have Q22c : Hid (∀ W p, NewF w W p [] [] → Calls Try.prog 22 #[.pointer (some ⟨p, 0, none⟩), .int .i64 (-1), .int .i64 1] W fun e w' => e = .returned (.tuple #[.string ⟨#[]⟩, .int .i64 17]) ∧ W = w') := Lib.hid fun W p h => readF_any (-1) 1 h (by decide) (by decide) (by decide)
  have Q22n := Lib.hid nil_readAt
  have Q7b : Hid (∀ W, Calls Try.prog 7 #[.string ⟨#[113]⟩] W fun e w' => ∃ p, e = .returned (.pointer (some ⟨p, 0, none⟩)) ∧ NewF W w' p [113] []) := Lib.hid fun W => newF_any ⟨#[113]⟩ W W (Below.refl _ W) (by decide)
  have Q9d : Hid (∀ w0 W p, NewF w0 W p [113] [] → Calls Try.prog 9 #[.pointer (some ⟨p, 0, none⟩), .slice (some ⟨W.heap.size, 0, none⟩) 1 1] (W.alloc (.cells #[.string ⟨#[114, 115]⟩] 9)) fun e w' => e = .returned (.int .i64 0) ∧ NewF w0 w' p [113] [.app [114, 115]]) := Lib.hid fun w0 W p h => append1_any ⟨#[114, 115]⟩ h (by decide) (by decide)
  have Q20 : Hid (∀ w0 W p, NewF w0 W p [113] [.app [114, 115]] → Calls Try.prog 20 #[.pointer (some ⟨p, 0, none⟩), .agg #[.int .i64 (-4), .int .i64 (-9)]] W fun e w' => e = .returned (.int .i64 0) ∧ NewF w0 w' p [113] []) := Lib.hid fun w0 W p h => stayF_any (-4) (-9) h (by decide) (by decide) (by decide) (by decide) (by decide)
  have Q14a : Hid (∀ W p, NewF w W p [] [] → Calls Try.prog 14 #[.pointer (some ⟨p, 0, none⟩)] W fun e w' => e = .returned (.string ⟨#[]⟩) ∧ W = w') := Lib.hid fun W p h => bytesF_any h
  have Q14b : Hid (∀ w0 W p, NewF w0 W p [113] [] → Calls Try.prog 14 #[.pointer (some ⟨p, 0, none⟩)] W fun e w' => e = .returned (.string ⟨#[113]⟩) ∧ W = w') := Lib.hid fun w0 W p h => bytesF_any h
  go_enter Try.func5, Try.ntmps5
  go_wp2_with (first
    | (go_at_call 13; (with_reducible refine (Q13.out _).mono ?_); rintro e w1 ⟨rfl, h1⟩; have HB1 := Lib.hid h1; clear h1)
    | (go_at_call 7; (with_reducible refine (Q7a.out _ HB1.out).mono ?_); rintro e w2 ⟨p, rfl, h2⟩; have H2 := Lib.hid h2; clear h2 HB1 Q7a)
    | (go_at_call 9; (with_reducible refine (Q9a.out _ _ H2.out).mono ?_); rintro e w3 ⟨rfl, h3⟩; have H3 := Lib.hid h3; clear h3 H2 Q9a)
    | (go_at_call 9; (with_reducible refine (Q9b.out _ _ H3.out).mono ?_); rintro e w4 ⟨rfl, h4⟩; have H4 := Lib.hid h4; clear h4 H3 Q9b)
    | (go_at_call 19; (with_reducible refine (Q19a.out _ _ H4.out).mono ?_); rintro e w5 ⟨rfl, rfl⟩)
    | (go_at_call 9; (with_reducible refine (Q9c.out _ _ H4.out).mono ?_); rintro e w5 ⟨rfl, h5⟩; have H5 := Lib.hid h5; clear h5 H4 Q9c)
    | (go_at_call 16; (with_reducible refine (Q16a.out _ _ H5.out).mono ?_); rintro e w6 ⟨rfl, h6⟩; have H6 := Lib.hid h6; clear h6 H5 Q16a)
    | (go_at_call 16; (with_reducible refine (Q16b.out _ _ H6.out).mono ?_); rintro e w7 ⟨rfl, h7⟩; have H7 := Lib.hid h7; clear h7 H6 Q16b)
    | (go_at_call 16; (with_reducible refine (Q16c.out _ _ H7.out).mono ?_); rintro e w8 ⟨rfl, h8⟩; have H8 := Lib.hid h8; clear h8 H7 Q16c)
    | (go_at_call 19; (with_reducible refine (Q19b.out _ _ H8.out).mono ?_); rintro e w9 ⟨rfl, rfl⟩)
    | (go_at_call 16; (with_reducible refine (Q16d.out _ _ H8.out).mono ?_); rintro e w9 ⟨rfl, h9⟩; have H9 := Lib.hid h9; clear h9 H8 Q16d)
    | (go_at_call 10; (with_reducible refine (Q10.out _ _ H9.out).mono ?_); rintro e w10 ⟨rfl, h10⟩; have H10 := Lib.hid h10; clear h10 H9 Q10)
    | (go_at_call 22; (with_reducible refine (Q22a.out _ _ H10.out).mono ?_); rintro e w11 ⟨rfl, rfl⟩; clear Q22a)
    | (go_at_call 22; (with_reducible refine (Q22b.out _ _ H10.out).mono ?_); rintro e w11 ⟨rfl, rfl⟩; clear Q22b)
    | (go_at_call 22; (with_reducible refine (Q22c.out _ _ H10.out).mono ?_); rintro e w11 ⟨rfl, rfl⟩; clear Q22c)
    | (go_at_call 22; (with_reducible refine (Q22n.out _).mono ?_); rintro e w11 ⟨rfl, rfl⟩; clear Q22n)
    | (go_at_call 7; (with_reducible refine (Q7b.out _).mono ?_); rintro e w11 ⟨p', rfl, h11⟩; have H11 := Lib.hid h11; clear h11 Q7b)
    | (go_at_call 9; (with_reducible refine (Q9d.out _ _ _ H11.out).mono ?_); rintro e w12 ⟨rfl, h12⟩; have H12 := Lib.hid h12; clear h12 H11 Q9d)
    | (go_at_call 20; (with_reducible refine (Q20.out _ _ _ H12.out).mono ?_); rintro e w13 ⟨rfl, h13⟩; have HF := Lib.hid (H10.out.next h13.below); have H13 := Lib.hid h13; clear h13 H12 Q20)
    | (go_at_call 14; (with_reducible refine (Q14a.out _ _ HF.out).mono ?_); rintro e w14 ⟨rfl, rfl⟩; clear Q14a)
    | (go_at_call 19; (with_reducible refine (Q19a.out _ _ HF.out).mono ?_); rintro e w14 ⟨rfl, rfl⟩; clear Q19a)
    | (go_at_call 14; (with_reducible refine (Q14b.out _ _ _ H13.out).mono ?_); rintro e w14 ⟨rfl, rfl⟩; clear Q14b)
    | (go_at_call 9; (with_reducible refine (nil_append _ _).mono ?_); rintro e w14 ⟨rfl, rfl⟩)
    | (go_at_call 16; (with_reducible refine (nil_cut _).mono ?_); rintro e w15 ⟨rfl, hb⟩; have HC := Lib.hid (Below.next (below_alloc' HF.out.below) hb); clear hb)
    | (go_at_call 10; (with_reducible refine (nil_sync _).mono ?_); rintro e w14 ⟨rfl, rfl⟩)
    | (go_at_call 20; (with_reducible refine (nil_stay _).mono ?_); rintro e w16 ⟨rfl, hb⟩; have HD := Lib.hid (Below.next HC.out hb); clear hb)
    | (go_at_call 15; (with_reducible refine (nil_len _).mono ?_); rintro e w14 ⟨rfl, rfl⟩)
    | (go_at_call 14; (with_reducible refine (nil_bytes _).mono ?_); rintro e w14 ⟨rfl, rfl⟩)
    | (go_at_call 18; (with_reducible refine (nil_durable _).mono ?_); rintro e w14 ⟨rfl, rfl⟩)
    | (go_at_call 19; (with_reducible refine (nil_acts _).mono ?_); rintro e w14 ⟨rfl, rfl⟩)
    | (go_at_call 8; (with_reducible refine (nil_copy _).mono ?_); rintro e w14 ⟨rfl, rfl⟩))
  go_ret
  exact ⟨rfl, HD.out⟩
end Go.Proofs.Ytloijbhilfbliaa

/-
  The law's own comparison of both files, at files that are alike.
-/
import Derived.Test.YtloijbhilfbliaaFSize
import Derived.Lib.QuietBelow
import Derived.BigQuiet
namespace Go.Proofs.Ytloijbhilfbliaa
open Go.RowKit Go.Shelf

theorem str_self (S : ByteArray) : (S.toList == S.toList) = true := by simp
theorem str_selfd (S : ByteArray) : (S.data.toList == S.data.toList) = true := by simp

set_option maxHeartbeats 1000000 in
set_option maxRecDepth 100000 in
theorem alike_any {w : World} {p q : Nat} {D : List UInt8} {A : List Do} {M I J : Nat → Prop} (h : FileAt w p D A M I) (hr : RefAt w q D A J) :
    Calls Try.prog 12 #[.pointer (some ⟨p, 0, none⟩), .pointer (some ⟨q, 0, none⟩)] w fun e w' => e = .returned (.bool true) ∧ Below w.heap.size w w' := by
  obtain ⟨av, hq, ha, hj, hj2⟩ := id hr.it
  obtain ⟨ad, c, rfl, hc1, hc2, _⟩ := acts_cells ha
  have k0 : w.cell? ⟨q, 0, none⟩ = some (.string (strO D)) := by rw [cell_of_row w q 0 _ _ _ hq]; rfl
  have k1 : w.cell? ⟨q, 1, none⟩ = some (.slice ad A.length c) := by rw [cell_of_row w q 1 _ _ _ hq]; rfl
  have g0 := fun d os => cell_regrown k0 d os
  have g1 := fun d os => cell_regrown k1 d os
  have q14 := quiet_call (w := w) fun w1 hb => (bytes_any (h.below hb)).mono fun e w' (h' : e = .returned (.string (strO (reads D A))) ∧ w1 = w') => (⟨h'.1, h'.2 ▸ Below.refl _ _⟩ : e = .returned (.string (strO (reads D A))) ∧ Below w1.heap.size w1 w')
  have q28 := quiet_call (w := w) fun w1 hb => ref_bytes (hr.below hb)
  have q15 := quiet_call (w := w) fun w1 hb => (len_any (h.below hb)).mono fun e w' h' => (⟨h'.1, h'.2 ▸ Below.refl _ _⟩ : e = .returned (.int .i64 ((reads D A).length : Nat)) ∧ Below w1.heap.size w1 w')
  have q18 := quiet_call (w := w) fun w1 hb => (durable_any (h.below hb)).mono fun e w' (h' : e = .returned (.string (strO D)) ∧ w1 = w') => (⟨h'.1, h'.2 ▸ Below.refl _ _⟩ : e = .returned (.string (strO D)) ∧ Below w1.heap.size w1 w')
  have q19 := quiet_call (w := w) fun w1 hb => (acts_any (h.below hb)).mono fun e w' h' => (⟨h'.1, h'.2 ▸ Below.refl _ _⟩ : e = .returned (.int .i64 (A.length : Nat)) ∧ Below w1.heap.size w1 w')
  have hsz := strO_size (reads D A)
  obtain ⟨S, hS⟩ : ∃ S, strO (reads D A) = S := ⟨_, rfl⟩
  obtain ⟨T, hT⟩ : ∃ S, strO D = S := ⟨_, rfl⟩
  rw [hS] at q14 q28 hsz
  rw [hT] at g0 q18
  rw [← hsz] at q15
  clear hS hT k0 k1 hq ha h hr hj hj2 hsz
  have s1 := str_self S
  have s2 := str_self T
  go_enter Try.func12, Try.ntmps12
  go_wp2
  refine wp_region_quiet_below (by kernel_rfl) (by kernel_rfl) ?_
  repeat (go_big_quiet_step ((first
    | (go_at_call 14; with_reducible exact q14 _ _)
    | (go_at_call 28; with_reducible exact q28 _ _)
    | (go_at_call 15; with_reducible exact q15 _ _)
    | (go_at_call 18; with_reducible exact q18 _ _)
    | (go_at_call 19; with_reducible exact q19 _ _))))
  refine wpQuiet_nil ?_
  intro _ hw'
  obtain ⟨⟨dq, osq⟩, hw''⟩ := hw'
  subst hw''
  have hb2 := below_regrown w dq osq
  generalize Sort.grow (redrawn w dq) osq = w2 at hb2 ⊢
  go_wp2
  go_ret
  exact ⟨rfl, hb2⟩
end Go.Proofs.Ytloijbhilfbliaa

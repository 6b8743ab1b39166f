/-
  FolderKnown: calls of a folder that is none; a copy's names; two equal rows of one text.
-/
import Derived.Test.YtfjgefnklelnnaaOTwo
import Derived.Test.YtfjgefnklelnnaaOCopy
namespace Go.Proofs.Ytfjgefnklelnnaa
open Go.RowKit Go.Shelf

set_option maxRecDepth 100000 in
theorem nil_create (w : World) (s : ByteArray) : Calls Try.prog 11 #[.pointer none, .string s] w fun e w' => e = .returned (.tuple #[.int .i64 0, .int .i64 1]) ∧ Below w.heap.size w w' := by
  go_enter Try.func11, Try.ntmps11
  go_wp2
  go_ret2
  exact ⟨rfl, below_alloc' (Below.refl _ w)⟩

set_option maxRecDepth 100000 in
theorem nil_rename (w : World) (a b : ByteArray) : Calls Try.prog 13 #[.pointer none, .string a, .string b] w fun e w' => e = .returned (.int .i64 1) ∧ Below w.heap.size w w' := by
  go_enter Try.func13, Try.ntmps13
  go_wp2
  go_ret
  exact ⟨rfl, below_alloc' (below_alloc' (Below.refl _ w))⟩

set_option maxRecDepth 100000 in
theorem nil_remove (w : World) (a : ByteArray) : Calls Try.prog 15 #[.pointer none, .string a] w fun e w' => e = .returned (.int .i64 1) ∧ Below w.heap.size w w' := by
  go_enter Try.func15, Try.ntmps15
  go_wp2
  go_ret
  exact ⟨rfl, below_alloc' (Below.refl _ w)⟩

set_option maxRecDepth 100000 in
theorem nil_sync (w : World) : Calls Try.prog 17 #[.pointer none] w fun e w' => e = .returned (.tuple #[]) ∧ w = w' := by
  go_enter Try.func17, Try.ntmps17
  go_wp2
  exact bodyPost_ret (v := .tuple #[]) (by simp [results, Try.results17, go_sem]) rfl ⟨rfl, rfl⟩

set_option maxRecDepth 100000 in
theorem nil_survive (w : World) : Calls Try.prog 20 #[.pointer none, .int .i64 1] w fun e w' => e = .returned (.tuple #[]) ∧ w = w' := by
  go_enter Try.func20, Try.ntmps20
  go_wp2
  exact bodyPost_ret (v := .tuple #[]) (by simp [results, Try.results20, go_sem]) rfl ⟨rfl, rfl⟩

set_option maxRecDepth 100000 in
theorem nil_find (w : World) (s : ByteArray) : Calls Try.prog 29 #[.pointer none, .string s] w fun e w' => e = .returned (.tuple #[.int .i64 0, .bool false]) ∧ w = w' := by
  go_enter Try.func29, Try.ntmps29
  go_wp2
  go_ret2
  exact ⟨rfl, rfl⟩

set_option maxRecDepth 100000 in
theorem nil_names (w : World) : Calls Try.prog 28 #[.pointer none] w fun e w' => e = .returned (.slice none 0 0) ∧ w = w' := by
  go_enter Try.func28, Try.ntmps28
  go_wp2
  go_ret
  exact ⟨rfl, rfl⟩

set_option maxRecDepth 100000 in
theorem nil_pending (w : World) : Calls Try.prog 25 #[.pointer none] w fun e w' => e = .returned (.int .i64 0) ∧ w = w' := by
  go_enter Try.func25, Try.ntmps25
  go_wp2
  go_ret
  exact ⟨rfl, rfl⟩

set_option maxRecDepth 100000 in
theorem nil_copy (w : World) : Calls Try.prog 21 #[.pointer none] w fun e w' => e = .returned (.pointer none) ∧ w = w' := by
  go_enter Try.func21, Try.ntmps21
  go_wp2
  go_ret
  exact ⟨rfl, rfl⟩

/-- A folder stands there. -/
def Stands (w : World) (p : Nat) (S : FS) : Prop := ∃ av fs M I, FolderS w p S av fs M I
theorem sole_copy {w0 w : World} {p : Nat} {S : FS} (h : Sole w0 w p S) (hl : S.weight ≤ 90000) :
    Calls Try.prog 21 #[.pointer (some ⟨p, 0, none⟩)] w fun e w' => ∃ q, e = .returned (.pointer (some ⟨q, 0, none⟩)) ∧ Stands w' q S ∧ Below w.heap.size w w' :=
  h.read fun _ _ _ _ hf => (copy_any hf hl).mono fun e w' ⟨q, cv, Mc, Ic, he, h1, _, _, _, _, h6⟩ => ⟨q, he, ⟨_, _, _, _, h1⟩, h6⟩
/-- The names of a folder that has one alone. -/
theorem one_name {w : World} {p : Nat} {S : FS} (h : Stands w p S) (hl : S.weight ≤ 90000) (k : List UInt8) (n : Nat) (hS : S.there = [(k, n)]) :
    Calls Try.prog 28 #[.pointer (some ⟨p, 0, none⟩)] w fun e w' => ∃ g c, e = .returned (.slice (some ⟨g, 0, none⟩) 1 c) ∧ w'.cell? ⟨g, 0, none⟩ = some (.string (strO k)) ∧ Below w.heap.size w w' := by
  obtain ⟨av, fs, M, I, hf⟩ := h
  refine (names_any hf hl).mono ?_
  rw [hS]
  rintro e w' ⟨v, rfl, hr, hb⟩
  rcases hr.2 with ⟨_, h0⟩ | ⟨g, cap, cur, rfl, _, hh, hc1, _, _, ht⟩
  · cases h0
  · refine ⟨g, cap, rfl, ?_, hb⟩
    rw [cell_of_row w' g 0 cur 9 (0, 0) hh, ← Array.getElem?_toList]
    have hx : ((textsOf [(k, n)]).map Value.string)[0]? = some (.string (strO k)) := rfl
    rw [← ht, List.getElem?_take] at hx
    split at hx
    · exact hx
    · cases hx

set_option maxHeartbeats 2000000 in
set_option maxRecDepth 100000 in
/-- Two rows of one text, the same. -/
theorem same_one (w : World) (g h c d : Nat) (s : ByteArray) (h1 : w.cell? ⟨g, 0, none⟩ = some (.string s)) (h2 : w.cell? ⟨h, 0, none⟩ = some (.string s)) :
    Calls Try.prog 31 #[.slice (some ⟨g, 0, none⟩) 1 c, .slice (some ⟨h, 0, none⟩) 1 d] w fun e w' => e = .returned (.bool true) ∧ Below w.heap.size w w' := by
  have hss2 : (s.toList == s.toList) = true := by simp
  have HB := Lib.hid (Below.refl w.heap.size w)
  have HC : Hid (∀ W, Below w.heap.size w W → W.cell? ⟨g, 0, none⟩ = some (.string s) ∧ W.cell? ⟨h, 0, none⟩ = some (.string s)) := Lib.hid fun W hW => ⟨by rw [hW.cell (p := ⟨g, 0, none⟩) (block_lt_of_cell h1)]; exact h1, by rw [hW.cell (p := ⟨h, 0, none⟩) (block_lt_of_cell h2)]; exact h2⟩
  go_enter Try.func31, Try.ntmps31
  go_wp2_with fail
  go_loopw [5] (fun s3 wr => ∃ k : Nat, k ≤ 1 ∧ s3 = .int .i64 k ∧ Below w.heap.size w wr) (fun s3 _ => 1 - (intOf s3).toNat)
  case atStart => exact ⟨0, by omega, rfl, HB.out⟩
  case round =>
    obtain ⟨k, hk, rfl, hb⟩ := hrel
    obtain ⟨c1, c2⟩ := HC.out _ hb
    have HB := Lib.hid hb
    clear hb
    by_cases hk0 : k = 0
    · have gc1 := fun d os => cell_regrown c1 d os
      have gc2 := fun d os => cell_regrown c2 d os
      have e1 : decide ((k : Int) < 1) = true := decide_eq_true (by omega)
      have e2 : (k : Int) < ((1 : Nat) : Int) := by omega
      go_upto_region 6 with fail
      refine wp_region_quiet_below (by kernel_rfl) (by kernel_rfl) ?_
      repeat (go_big_quiet_step (fail))
      refine wpQuiet_nil ?_
      intro _ hw'
      obtain ⟨⟨dq, osq⟩, hw''⟩ := hw'
      subst hw''
      have HB7 := Lib.hid (below_regrown wr dq osq)
      generalize Sort.grow (redrawn wr dq) osq = w7 at HB7 ⊢
      clear gc1 gc2 c1 c2
      go_wp2_with fail
      exact ⟨⟨k + 1, by omega, by go_num, Below.next HB.out HB7.out⟩, by simp [intOf]; omega⟩
    · have e1 : decide ((k : Int) < 1) = false := decide_eq_false (by omega)
      go_wp2_with fail
      go_ret
      exact ⟨rfl, HB.out⟩
end Go.Proofs.Ytfjgefnklelnnaa

/-
  FolderKnown: the walk.
-/
import Derived.Test.YtfjgefnklelnnaaOKnownM
namespace Go.Proofs.Ytfjgefnklelnnaa
open Go.RowKit Go.Shelf

def x64 : ByteArray := ⟨(Lib.repeatL [120] 64).toArray⟩
def x65 : ByteArray := ⟨(Lib.repeatL [120] 65).toArray⟩
def kn1 : FS := ⟨[], [.create ⟨#[97]⟩ 1], 1⟩
def kn2 : FS := ⟨[], [.create ⟨#[97]⟩ 1, .create ⟨#[98]⟩ 2], 2⟩
def kn3 : FS := ⟨[([97], 1), ([98], 2)], [], 2⟩
def kn4 : FS := ⟨[([97], 1), ([98], 2)], [.rename ⟨#[97]⟩ ⟨#[98]⟩ 1], 2⟩
def kn5 : FS := ⟨[([97], 1), ([98], 2)], [.rename ⟨#[97]⟩ ⟨#[98]⟩ 1, .rename ⟨#[98]⟩ ⟨#[98]⟩ 1], 2⟩
def kn6 : FS := ⟨[([97], 1), ([98], 2)], [.rename ⟨#[97]⟩ ⟨#[98]⟩ 1, .rename ⟨#[98]⟩ ⟨#[98]⟩ 1, .create x64 3], 3⟩
def kn7 : FS := ⟨[([97], 1), ([98], 2)], [], 3⟩
def kn8 : FS := ⟨[([97], 1), ([98], 2)], [.remove ⟨#[97]⟩], 3⟩
def kn9 : FS := ⟨[([98], 2)], [], 3⟩

theorem know_create {S T : FS} {s : ByteArray} {n e : Nat} (hc : S.create s = (T, n, e)) (hs : s.size ≤ 1000000) (hl : S.weight ≤ 90000) {w0 w : World} {p : Nat} (h : Sole w0 w p S) :
    Calls Try.prog 11 #[.pointer (some ⟨p, 0, none⟩), .string s] w fun x w' => x = .returned (.tuple #[.int .i64 (n : Nat), .int .i64 (e : Nat)]) ∧ Sole w0 w' p T := by
  have := sole_create h s hs hl
  rw [hc] at this
  exact this
theorem know_rename {S T : FS} {a b : ByteArray} {e : Nat} (hc : S.rename a b = (T, e)) (ha : a.size ≤ 1000000) (hb : b.size ≤ 1000000) (hl : S.weight ≤ 90000) {w0 w : World} {p : Nat} (h : Sole w0 w p S) :
    Calls Try.prog 13 #[.pointer (some ⟨p, 0, none⟩), .string a, .string b] w fun x w' => x = .returned (.int .i64 (e : Nat)) ∧ Sole w0 w' p T := by
  have := sole_rename h a b ha hb hl
  rw [hc] at this
  exact this
theorem know_remove {S T : FS} {a : ByteArray} {e : Nat} (hc : S.remove a = (T, e)) (ha : a.size ≤ 1000000) (hl : S.weight ≤ 90000) {w0 w : World} {p : Nat} (h : Sole w0 w p S) :
    Calls Try.prog 15 #[.pointer (some ⟨p, 0, none⟩), .string a] w fun x w' => x = .returned (.int .i64 (e : Nat)) ∧ Sole w0 w' p T := by
  have := sole_remove h a ha hl
  rw [hc] at this
  exact this
theorem know_names {S : FS} {s : ByteArray} (hc : decide (joinedN S.there = s.data.toList) = true) (hl : S.weight ≤ 90000) {w0 w : World} {p : Nat} (h : Sole w0 w p S) :
    Calls Try.prog 26 #[.pointer (some ⟨p, 0, none⟩), .string s] w fun x w' => x = .returned (.bool true) ∧ Sole w0 w' p S := by
  refine (sole_names h hl s).mono ?_
  rw [hc]
  rintro x w' ⟨rfl, hb⟩
  exact ⟨rfl, h.next hb⟩

theorem new_cell (W : World) (s : ByteArray) : (W.alloc (.cells #[.string s] 9)).cell? ⟨W.heap.size, 0, none⟩ = some (.string s) := by
  have h : (W.alloc (.cells #[.string s] 9)).heap[W.heap.size]? = some (.cells #[.string s] 9 (0, 0)) := (MapKept.heap_alloc W _).1
  rw [cell_of_row _ W.heap.size 0 _ 9 (0, 0) h]
  rfl

theorem kc1 : FS.new.create ⟨#[97]⟩ = (kn1, 1, 0) := by kernel_rfl
theorem kc2 : kn1.create ⟨#[98]⟩ = (kn2, 2, 0) := by kernel_rfl
theorem kc3 : kn2.sync = kn3 := by kernel_rfl
theorem kc4 : kn3.rename ⟨#[97]⟩ ⟨#[98]⟩ = (kn4, 0) := by kernel_rfl
theorem kc5 : kn4.rename ⟨#[98]⟩ ⟨#[98]⟩ = (kn5, 0) := by kernel_rfl
theorem kc6 : kn5.rename ⟨#[120]⟩ ⟨#[121]⟩ = (kn5, 9) := by kernel_rfl
theorem kc7 : kn5.remove ⟨#[120]⟩ = (kn5, 9) := by kernel_rfl
theorem kc8 : kn5.rename ⟨#[98]⟩ ⟨#[]⟩ = (kn5, 2) := by kernel_rfl
theorem kc9 : kn5.create ⟨#[98]⟩ = (kn5, 0, 8) := by kernel_rfl
theorem kc10 : kn5.create ⟨#[]⟩ = (kn5, 0, 2) := by kernel_rfl
theorem kc11 : kn5.create x65 = (kn5, 0, 2) := by kernel_rfl
theorem kc12 : kn5.create x64 = (kn6, 3, 0) := by kernel_rfl
theorem kc13 : kn6.survive (-3) = kn7 := by kernel_rfl
theorem kc14 : kn7.remove ⟨#[97]⟩ = (kn8, 0) := by kernel_rfl
theorem kc15 : kn8.survive 99 = kn9 := by kernel_rfl
theorem kj4 : decide (joinedN kn4.there = (⟨#[98]⟩ : ByteArray).data.toList) = true := by kernel_rfl
theorem kj7 : decide (joinedN kn7.there = (⟨#[97, 32, 98]⟩ : ByteArray).data.toList) = true := by kernel_rfl
theorem kj9 : decide (joinedN kn9.there = (⟨#[98]⟩ : ByteArray).data.toList) = true := by kernel_rfl
theorem kt9 : kn9.there = [([98], 2)] := by kernel_rfl
theorem kz64 : x64.size ≤ 1000000 := of_decide_eq_true (by kernel_rfl)
theorem kz65 : x65.size ≤ 1000000 := of_decide_eq_true (by kernel_rfl)
theorem kw (S : FS) (h : decide (S.weight ≤ 90000) = true) : S.weight ≤ 90000 := of_decide_eq_true h
set_option maxHeartbeats 20000000 in
set_option maxRecDepth 100000 in
theorem folderKnown_walk (w : World) : Calls Try.prog 6 #[] w fun e w' => e = .returned (.bool true) ∧ Below w.heap.size w w' := by
  have Q8' := Lib.hid (sole_new w w (Below.refl _ w))
  have Q1 : Hid (∀ W p, Sole w W p FS.new → Calls Try.prog 11 #[.pointer (some ⟨p, 0, none⟩), .string ⟨#[97]⟩] W fun e w' => e = .returned (.tuple #[.int .i64 1, .int .i64 0]) ∧ Sole w w' p kn1) := Lib.hid fun W p h => know_create kc1 (by decide) (by decide) h
  have Q2 : Hid (∀ W p, Sole w W p kn1 → Calls Try.prog 11 #[.pointer (some ⟨p, 0, none⟩), .string ⟨#[98]⟩] W fun e w' => e = .returned (.tuple #[.int .i64 2, .int .i64 0]) ∧ Sole w w' p kn2) := Lib.hid fun W p h => know_create kc2 (by decide) (by decide) h
  have Q3 : Hid (∀ W p, Sole w W p kn2 → Calls Try.prog 17 #[.pointer (some ⟨p, 0, none⟩)] W fun e w' => e = .returned (.tuple #[]) ∧ Sole w w' p kn3) := Lib.hid fun W p h => (by have := sole_sync h (by decide); rw [kc3] at this; exact this)
  have Q4 : Hid (∀ W p, Sole w W p kn3 → Calls Try.prog 13 #[.pointer (some ⟨p, 0, none⟩), .string ⟨#[97]⟩, .string ⟨#[98]⟩] W fun e w' => e = .returned (.int .i64 0) ∧ Sole w w' p kn4) := Lib.hid fun W p h => know_rename kc4 (by decide) (by decide) (by decide) h
  have Q5 : Hid (∀ W p, Sole w W p kn4 → Calls Try.prog 29 #[.pointer (some ⟨p, 0, none⟩), .string ⟨#[98]⟩] W fun e w' => e = .returned (.tuple #[.int .i64 1, .bool true]) ∧ W = w') := Lib.hid fun W p h => sole_find h ⟨#[98]⟩ (by decide)
  have Q6 : Hid (∀ W p, Sole w W p kn4 → Calls Try.prog 26 #[.pointer (some ⟨p, 0, none⟩), .string ⟨#[98]⟩] W fun e w' => e = .returned (.bool true) ∧ Sole w w' p kn4) := Lib.hid fun W p h => know_names kj4 (by decide) h
  have Q7 : Hid (∀ W p, Sole w W p kn4 → Calls Try.prog 13 #[.pointer (some ⟨p, 0, none⟩), .string ⟨#[98]⟩, .string ⟨#[98]⟩] W fun e w' => e = .returned (.int .i64 0) ∧ Sole w w' p kn5) := Lib.hid fun W p h => know_rename kc5 (by decide) (by decide) (by decide) h
  have Q8 : Hid (∀ W p, Sole w W p kn5 → Calls Try.prog 13 #[.pointer (some ⟨p, 0, none⟩), .string ⟨#[120]⟩, .string ⟨#[121]⟩] W fun e w' => e = .returned (.int .i64 9) ∧ Sole w w' p kn5) := Lib.hid fun W p h => know_rename kc6 (by decide) (by decide) (by decide) h
  have Q9 : Hid (∀ W p, Sole w W p kn5 → Calls Try.prog 15 #[.pointer (some ⟨p, 0, none⟩), .string ⟨#[120]⟩] W fun e w' => e = .returned (.int .i64 9) ∧ Sole w w' p kn5) := Lib.hid fun W p h => know_remove kc7 (by decide) (by decide) h
  have Q10 : Hid (∀ W p, Sole w W p kn5 → Calls Try.prog 13 #[.pointer (some ⟨p, 0, none⟩), .string ⟨#[98]⟩, .string ⟨#[]⟩] W fun e w' => e = .returned (.int .i64 2) ∧ Sole w w' p kn5) := Lib.hid fun W p h => know_rename kc8 (by decide) (by decide) (by decide) h
  have Q11 : Hid (∀ W p, Sole w W p kn5 → Calls Try.prog 11 #[.pointer (some ⟨p, 0, none⟩), .string ⟨#[98]⟩] W fun e w' => e = .returned (.tuple #[.int .i64 0, .int .i64 8]) ∧ Sole w w' p kn5) := Lib.hid fun W p h => know_create kc9 (by decide) (by decide) h
  have Q12 : Hid (∀ W p, Sole w W p kn5 → Calls Try.prog 11 #[.pointer (some ⟨p, 0, none⟩), .string ⟨#[]⟩] W fun e w' => e = .returned (.tuple #[.int .i64 0, .int .i64 2]) ∧ Sole w w' p kn5) := Lib.hid fun W p h => know_create kc10 (by decide) (by decide) h
  have Q13 : Hid (∀ W, Calls Try.prog 30 #[.string ⟨#[120]⟩, .int .i64 65] W fun e w' => e = .returned (.string x65) ∧ Below W.heap.size W w') := Lib.hid fun W => Try.strings_Repeat ⟨#[120]⟩ 65 W (by decide) (by decide)
  have Q14 : Hid (∀ W p, Sole w W p kn5 → Calls Try.prog 11 #[.pointer (some ⟨p, 0, none⟩), .string x65] W fun e w' => e = .returned (.tuple #[.int .i64 0, .int .i64 2]) ∧ Sole w w' p kn5) := Lib.hid fun W p h => know_create kc11 kz65 (by decide) h
  have Q15 : Hid (∀ W, Calls Try.prog 30 #[.string ⟨#[120]⟩, .int .i64 64] W fun e w' => e = .returned (.string x64) ∧ Below W.heap.size W w') := Lib.hid fun W => Try.strings_Repeat ⟨#[120]⟩ 64 W (by decide) (by decide)
  have Q16 : Hid (∀ W p, Sole w W p kn5 → Calls Try.prog 11 #[.pointer (some ⟨p, 0, none⟩), .string x64] W fun e w' => e = .returned (.tuple #[.int .i64 3, .int .i64 0]) ∧ Sole w w' p kn6) := Lib.hid fun W p h => know_create kc12 kz64 (by decide) h
  have Q17 : Hid (∀ W p, Sole w W p kn6 → Calls Try.prog 25 #[.pointer (some ⟨p, 0, none⟩)] W fun e w' => e = .returned (.int .i64 3) ∧ W = w') := Lib.hid fun W p h => sole_pending h
  have Q18 : Hid (∀ W p, Sole w W p kn6 → Calls Try.prog 20 #[.pointer (some ⟨p, 0, none⟩), .int .i64 (-3)] W fun e w' => e = .returned (.tuple #[]) ∧ Sole w w' p kn7) := Lib.hid fun W p h => (by have := sole_survive h (-3) (by decide) (by decide); rw [kc13] at this; exact this)
  have Q19 : Hid (∀ W p, Sole w W p kn7 → Calls Try.prog 26 #[.pointer (some ⟨p, 0, none⟩), .string ⟨#[97, 32, 98]⟩] W fun e w' => e = .returned (.bool true) ∧ Sole w w' p kn7) := Lib.hid fun W p h => know_names kj7 (by decide) h
  have Q20 : Hid (∀ W p, Sole w W p kn7 → Calls Try.prog 15 #[.pointer (some ⟨p, 0, none⟩), .string ⟨#[97]⟩] W fun e w' => e = .returned (.int .i64 0) ∧ Sole w w' p kn8) := Lib.hid fun W p h => know_remove kc14 (by decide) (by decide) h
  have Q21 : Hid (∀ W p, Sole w W p kn8 → Calls Try.prog 20 #[.pointer (some ⟨p, 0, none⟩), .int .i64 99] W fun e w' => e = .returned (.tuple #[]) ∧ Sole w w' p kn9) := Lib.hid fun W p h => (by have := sole_survive h 99 (by decide) (by decide); rw [kc15] at this; exact this)
  have Q26 := Lib.hid works_any
  have Q27 : Hid (∀ W p, Sole w W p kn9 → Calls Try.prog 26 #[.pointer (some ⟨p, 0, none⟩), .string ⟨#[98]⟩] W fun e w' => e = .returned (.bool true) ∧ Sole w w' p kn9) := Lib.hid fun W p h => know_names kj9 (by decide) h
  have Q33 : Hid (∀ W p, Sole w W p kn9 → Calls Try.prog 21 #[.pointer (some ⟨p, 0, none⟩)] W fun e w' => ∃ q, e = .returned (.pointer (some ⟨q, 0, none⟩)) ∧ Stands w' q kn9 ∧ Below W.heap.size W w') := Lib.hid fun W p h => sole_copy h (by decide)
  have Q34 : Hid (∀ W q, Stands W q kn9 → Calls Try.prog 28 #[.pointer (some ⟨q, 0, none⟩)] W fun e w' => ∃ g c, e = .returned (.slice (some ⟨g, 0, none⟩) 1 c) ∧ w'.cell? ⟨g, 0, none⟩ = some (.string (⟨#[98]⟩ : ByteArray)) ∧ Below W.heap.size W w') := Lib.hid fun W q h => one_name h (by decide) [98] 2 kt9
  have Q35 : Hid (∀ W g c, W.cell? ⟨g, 0, none⟩ = some (.string (⟨#[98]⟩ : ByteArray)) → Calls Try.prog 31 #[.slice (some ⟨g, 0, none⟩) 1 c, .slice (some ⟨W.heap.size, 0, none⟩) 1 1] (W.alloc (.cells #[.string ⟨#[98]⟩] 9)) fun e w' => e = .returned (.bool true) ∧ Below W.heap.size W w') := Lib.hid fun W g c h => by
    have hb := below_alloc' (o := .cells #[.string ⟨#[98]⟩] 9) (Below.refl W.heap.size W)
    refine (same_one _ g W.heap.size c 1 ⟨#[98]⟩ (by rw [hb.cell (p := ⟨g, 0, none⟩) (block_lt_of_cell h)]; exact h) (new_cell W ⟨#[98]⟩)).mono ?_
    rintro e w' ⟨rfl, h2⟩
    exact ⟨rfl, Below.next hb h2⟩
  go_enter Try.func6, Try.ntmps6
  go_wp2_with (first
    | (go_at_call 8; (with_reducible refine Q8'.out.mono ?_); rintro e w0 ⟨p, rfl, h0⟩; have H0 := Lib.hid h0; clear h0 Q8')
    | (go_at_call 11; (with_reducible refine (Q1.out _ _ H0.out).mono ?_); rintro e w1 ⟨rfl, h1⟩; have H1 := Lib.hid h1; clear h1 H0 Q1)
    | (go_at_call 11; (with_reducible refine (Q2.out _ _ H1.out).mono ?_); rintro e w2 ⟨rfl, h2⟩; have H2 := Lib.hid h2; clear h2 H1 Q2)
    | (go_at_call 17; (with_reducible refine (Q3.out _ _ H2.out).mono ?_); rintro e w3 ⟨rfl, h3⟩; have H3 := Lib.hid h3; clear h3 H2 Q3)
    | (go_at_call 13; (with_reducible refine (Q4.out _ _ H3.out).mono ?_); rintro e w4 ⟨rfl, h4⟩; have H4 := Lib.hid h4; clear h4 H3 Q4)
    | (go_at_call 29; (with_reducible refine (Q5.out _ _ H4.out).mono ?_); rintro e w5 ⟨rfl, rfl⟩)
    | (go_at_call 26; (with_reducible refine (Q6.out _ _ H4.out).mono ?_); rintro e w6 ⟨rfl, h6⟩; have H6 := Lib.hid h6; clear h6 H4 Q6)
    | (go_at_call 13; (with_reducible refine (Q7.out _ _ H6.out).mono ?_); rintro e w7 ⟨rfl, h7⟩; have H7 := Lib.hid h7; clear h7 H6 Q7)
    | (go_at_call 13; (with_reducible refine (Q8.out _ _ H7.out).mono ?_); rintro e w8 ⟨rfl, h8⟩; have H8 := Lib.hid h8; clear h8 H7 Q8)
    | (go_at_call 15; (with_reducible refine (Q9.out _ _ H8.out).mono ?_); rintro e w9 ⟨rfl, h9⟩; have H9 := Lib.hid h9; clear h9 H8 Q9)
    | (go_at_call 13; (with_reducible refine (Q10.out _ _ H9.out).mono ?_); rintro e w10 ⟨rfl, h10⟩; have H10 := Lib.hid h10; clear h10 H9 Q10)
    | (go_at_call 11; (with_reducible refine (Q11.out _ _ H10.out).mono ?_); rintro e w11 ⟨rfl, h11⟩; have H11 := Lib.hid h11; clear h11 H10 Q11)
    | (go_at_call 11; (with_reducible refine (Q12.out _ _ H11.out).mono ?_); rintro e w12 ⟨rfl, h12⟩; have H12 := Lib.hid h12; clear h12 H11 Q12)
    | (go_at_call 30; (with_reducible refine (Q13.out _).mono ?_); rintro e w13 ⟨rfl, h13⟩; have H13 := Lib.hid (H12.out.next h13); clear h13 H12)
    | (go_at_call 11; (with_reducible refine (Q14.out _ _ H13.out).mono ?_); rintro e w14 ⟨rfl, h14⟩; have H14 := Lib.hid h14; clear h14 H13 Q14)
    | (go_at_call 30; (with_reducible refine (Q15.out _).mono ?_); rintro e w15 ⟨rfl, h15⟩; have H15 := Lib.hid (H14.out.next h15); clear h15 H14)
    | (go_at_call 11; (with_reducible refine (Q16.out _ _ H15.out).mono ?_); rintro e w16 ⟨rfl, h16⟩; have H16 := Lib.hid h16; clear h16 H15 Q16)
    | (go_at_call 25; (with_reducible refine (Q17.out _ _ H16.out).mono ?_); rintro e w17 ⟨rfl, rfl⟩)
    | (go_at_call 20; (with_reducible refine (Q18.out _ _ H16.out).mono ?_); rintro e w18 ⟨rfl, h18⟩; have H18 := Lib.hid h18; clear h18 H16 Q18)
    | (go_at_call 26; (with_reducible refine (Q19.out _ _ H18.out).mono ?_); rintro e w19 ⟨rfl, h19⟩; have H19 := Lib.hid h19; clear h19 H18 Q19)
    | (go_at_call 15; (with_reducible refine (Q20.out _ _ H19.out).mono ?_); rintro e w20 ⟨rfl, h20⟩; have H20 := Lib.hid h20; clear h20 H19 Q20)
    | (go_at_call 20; (with_reducible refine (Q21.out _ _ H20.out).mono ?_); rintro e w21 ⟨rfl, h21⟩; have H21 := Lib.hid h21; clear h21 H20 Q21)
    | (go_at_call 11; (with_reducible refine (nil_create _ _).mono ?_); rintro e w22 ⟨rfl, h22⟩; have H22 := Lib.hid (H21.out.next h22); clear h22 H21)
    | (go_at_call 17; (with_reducible refine (nil_sync _).mono ?_); rintro e w23 ⟨rfl, rfl⟩)
    | (go_at_call 20; (with_reducible refine (nil_survive _).mono ?_); rintro e w24 ⟨rfl, rfl⟩)
    | (go_at_call 29; (with_reducible refine (nil_find _ _).mono ?_); rintro e w25 ⟨rfl, rfl⟩)
    | (go_at_call 23; (with_reducible refine (Q26.out _).mono ?_); rintro e w26 ⟨rfl, h26⟩; have H26 := Lib.hid (H22.out.next h26); clear h26 H22)
    | (go_at_call 26; (with_reducible refine (Q27.out _ _ H26.out).mono ?_); rintro e w27 ⟨rfl, h27⟩; have H27 := Lib.hid h27; clear h27 H26 Q27)
    | (go_at_call 13; (with_reducible refine (nil_rename _ _ _).mono ?_); rintro e w28 ⟨rfl, h28⟩; have H28 := Lib.hid (H27.out.next h28); clear h28 H27)
    | (go_at_call 15; (with_reducible refine (nil_remove _ _).mono ?_); rintro e w29 ⟨rfl, h29⟩; have H29 := Lib.hid (H28.out.next h29); clear h29 H28)
    | (go_at_call 28; (with_reducible refine (nil_names _).mono ?_); rintro e w30 ⟨rfl, rfl⟩)
    | (go_at_call 25; (with_reducible refine (nil_pending _).mono ?_); rintro e w31 ⟨rfl, rfl⟩)
    | (go_at_call 21; (with_reducible refine (nil_copy _).mono ?_); rintro e w32 ⟨rfl, rfl⟩)
    | (go_at_call 21; (with_reducible refine (Q33.out _ _ H29.out).mono ?_); rintro e w33 ⟨q, rfl, hs33, h33⟩; have H33 := Lib.hid (H29.out.next h33); have HS33 := Lib.hid hs33; clear h33 hs33 H29 Q33)
    | (go_at_call 28; (with_reducible refine (Q34.out _ _ HS33.out).mono ?_); rintro e w34 ⟨g, c, rfl, hc34, h34⟩; have H34 := Lib.hid (H33.out.next h34); have HC34 := Lib.hid hc34; clear h34 hc34 HS33 H33 Q34)
    | (go_at_call 31; (with_reducible refine (Q35.out _ _ _ HC34.out).mono ?_); rintro e w35 ⟨rfl, h35⟩; have H35 := Lib.hid (H34.out.next h35); clear h35 H34))
  go_ret
  exact ⟨rfl, H35.out.below⟩
end Go.Proofs.Ytfjgefnklelnnaa

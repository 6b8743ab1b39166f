/-
  The chapter's examples; an act of the statements.
-/
import Derived.Test.YtfjgefnklelnnaaOLaw
namespace Go.Proofs.Ytfjgefnklelnnaa
open Go.RowKit Go.Shelf

def exA : ByteArray := ⟨#[97]⟩
def exB : ByteArray := ⟨#[98]⟩
def exC : ByteArray := ⟨#[99]⟩
def ex1 : FS := ⟨[], [.create ⟨#[97]⟩ 1], 1⟩
def ex2 : FS := ⟨[], [.create ⟨#[97]⟩ 1, .create ⟨#[98]⟩ 2], 2⟩
def ex3 : FS := ⟨[], [.create ⟨#[97]⟩ 1, .create ⟨#[98]⟩ 2, .rename ⟨#[97]⟩ ⟨#[99]⟩ 1], 2⟩
def ex4 : FS := ⟨[([97], 1), ([98], 2)], [], 2⟩
def ex5 : FS := ⟨[([97], 1), ([98], 2)], [.create ⟨#[99]⟩ 3], 3⟩
def ex6 : FS := ⟨[([97], 1), ([98], 2), ([99], 3)], [], 3⟩
def ex7 : FS := ⟨[([97], 1), ([98], 2), ([99], 3)], [.remove ⟨#[98]⟩], 3⟩

set_option maxHeartbeats 4000000 in
set_option maxRecDepth 100000 in
theorem works_any (w : World) : Calls Try.prog 23 #[] w fun e w' => e = .returned (.bool true) ∧ Below w.heap.size w w' := by
  have Q8 := Lib.hid (sole_new w w (Below.refl _ w))
  have Q11a : Hid (∀ W p, Sole w W p FS.new → Calls Try.prog 11 #[.pointer (some ⟨p, 0, none⟩), .string ⟨#[97]⟩] W fun e w' => e = .returned (.tuple #[.int .i64 1, .int .i64 0]) ∧ Sole w w' p ex1) := Lib.hid fun W p h => sole_create h ⟨#[97]⟩ (by decide) (by decide)
  have Q11b : Hid (∀ W p, Sole w W p ex1 → Calls Try.prog 11 #[.pointer (some ⟨p, 0, none⟩), .string ⟨#[98]⟩] W fun e w' => e = .returned (.tuple #[.int .i64 2, .int .i64 0]) ∧ Sole w w' p ex2) := Lib.hid fun W p h => sole_create h ⟨#[98]⟩ (by decide) (by decide)
  have Q13 : Hid (∀ W p, Sole w W p ex2 → Calls Try.prog 13 #[.pointer (some ⟨p, 0, none⟩), .string ⟨#[97]⟩, .string ⟨#[99]⟩] W fun e w' => e = .returned (.int .i64 0) ∧ Sole w w' p ex3) := Lib.hid fun W p h => sole_rename h ⟨#[97]⟩ ⟨#[99]⟩ (by decide) (by decide) (by decide)
  have Q26a : Hid (∀ W p, Sole w W p ex3 → Calls Try.prog 26 #[.pointer (some ⟨p, 0, none⟩), .string ⟨#[98, 32, 99]⟩] W fun e w' => e = .returned (.bool true) ∧ Below W.heap.size W w') := Lib.hid fun W p h => by
    have := sole_names h (by decide) ⟨#[98, 32, 99]⟩
    rw [show decide (joinedN ex3.there = (⟨#[98, 32, 99]⟩ : ByteArray).data.toList) = true by kernel_rfl] at this
    exact this
  have Q20a : Hid (∀ W p, Sole w W p ex3 → Calls Try.prog 20 #[.pointer (some ⟨p, 0, none⟩), .int .i64 2] W fun e w' => e = .returned (.tuple #[]) ∧ Sole w w' p ex4) := Lib.hid fun W p h => sole_survive h 2 (by decide) (by decide)
  have Q26b : Hid (∀ W p, Sole w W p ex4 → Calls Try.prog 26 #[.pointer (some ⟨p, 0, none⟩), .string ⟨#[97, 32, 98]⟩] W fun e w' => e = .returned (.bool true) ∧ Below W.heap.size W w') := Lib.hid fun W p h => by
    have := sole_names h (by decide) ⟨#[97, 32, 98]⟩
    rw [show decide (joinedN ex4.there = (⟨#[97, 32, 98]⟩ : ByteArray).data.toList) = true by kernel_rfl] at this
    exact this
  have Q29 : Hid (∀ W p, Sole w W p ex4 → Calls Try.prog 29 #[.pointer (some ⟨p, 0, none⟩), .string ⟨#[97]⟩] W fun e w' => e = .returned (.tuple #[.int .i64 1, .bool true]) ∧ W = w') := Lib.hid fun W p h => sole_find h ⟨#[97]⟩ (by decide)
  have Q11c : Hid (∀ W p, Sole w W p ex4 → Calls Try.prog 11 #[.pointer (some ⟨p, 0, none⟩), .string ⟨#[99]⟩] W fun e w' => e = .returned (.tuple #[.int .i64 3, .int .i64 0]) ∧ Sole w w' p ex5) := Lib.hid fun W p h => sole_create h ⟨#[99]⟩ (by decide) (by decide)
  have Q17 : Hid (∀ W p, Sole w W p ex5 → Calls Try.prog 17 #[.pointer (some ⟨p, 0, none⟩)] W fun e w' => e = .returned (.tuple #[]) ∧ Sole w w' p ex6) := Lib.hid fun W p h => sole_sync h (by decide)
  have Q15 : Hid (∀ W p, Sole w W p ex6 → Calls Try.prog 15 #[.pointer (some ⟨p, 0, none⟩), .string ⟨#[98]⟩] W fun e w' => e = .returned (.int .i64 0) ∧ Sole w w' p ex7) := Lib.hid fun W p h => sole_remove h ⟨#[98]⟩ (by decide) (by decide)
  have Q20b : Hid (∀ W p, Sole w W p ex7 → Calls Try.prog 20 #[.pointer (some ⟨p, 0, none⟩), .int .i64 0] W fun e w' => e = .returned (.tuple #[]) ∧ Sole w w' p ex6) := Lib.hid fun W p h => sole_survive h 0 (by decide) (by decide)
  have Q26c : Hid (∀ W p, Sole w W p ex6 → Calls Try.prog 26 #[.pointer (some ⟨p, 0, none⟩), .string ⟨#[97, 32, 98, 32, 99]⟩] W fun e w' => e = .returned (.bool true) ∧ Below W.heap.size W w') := Lib.hid fun W p h => by
    have := sole_names h (by decide) ⟨#[97, 32, 98, 32, 99]⟩
    rw [show decide (joinedN ex6.there = (⟨#[97, 32, 98, 32, 99]⟩ : ByteArray).data.toList) = true by kernel_rfl] at this
    exact this
  go_enter Try.func23, Try.ntmps23
  go_wp2_with (first
    | (go_at_call 8; (with_reducible refine Q8.out.mono ?_); rintro e w1 ⟨p, rfl, h1⟩; have H1 := Lib.hid h1; clear h1)
    | (go_at_call 11; first
        | ((with_reducible refine (Q11a.out _ _ H1.out).mono ?_); rintro e w2 ⟨rfl, h2⟩; have H2 := Lib.hid h2; clear h2)
        | ((with_reducible refine (Q11b.out _ _ H2.out).mono ?_); rintro e w3 ⟨rfl, h3⟩; have H3 := Lib.hid h3; clear h3)
        | ((with_reducible refine (Q11c.out _ _ H7.out).mono ?_); rintro e w8 ⟨rfl, h8⟩; have H8 := Lib.hid h8; clear h8))
    | (go_at_call 13; (with_reducible refine (Q13.out _ _ H3.out).mono ?_); rintro e w4 ⟨rfl, h4⟩; have H4 := Lib.hid h4; clear h4)
    | (go_at_call 26; first
        | ((with_reducible refine (Q26a.out _ _ H4.out).mono ?_); rintro e w5 ⟨rfl, h5⟩; have H5 := Lib.hid (H4.out.next h5); clear h5)
        | ((with_reducible refine (Q26b.out _ _ H6.out).mono ?_); rintro e w7 ⟨rfl, h7⟩; have H7 := Lib.hid (H6.out.next h7); clear h7)
        | ((with_reducible refine (Q26c.out _ _ Hb.out).mono ?_); rintro e wc ⟨rfl, hc⟩; have Hc := Lib.hid (Hb.out.next hc); clear hc))
    | (go_at_call 20; first
        | ((with_reducible refine (Q20a.out _ _ H5.out).mono ?_); rintro e w6 ⟨rfl, h6⟩; have H6 := Lib.hid h6; clear h6)
        | ((with_reducible refine (Q20b.out _ _ Ha.out).mono ?_); rintro e wb ⟨rfl, hb⟩; have Hb := Lib.hid hb; clear hb))
    | (go_at_call 29; (with_reducible refine (Q29.out _ _ H7.out).mono ?_); rintro e w7' ⟨rfl, rfl⟩)
    | (go_at_call 17; (with_reducible refine (Q17.out _ _ H8.out).mono ?_); rintro e w9 ⟨rfl, h9⟩; have H9 := Lib.hid h9; clear h9)
    | (go_at_call 15; (with_reducible refine (Q15.out _ _ H9.out).mono ?_); rintro e wa ⟨rfl, ha⟩; have Ha := Lib.hid ha; clear ha))
  go_ret
  exact ⟨rfl, Hc.out.below⟩

set_option maxHeartbeats 8000000 in
set_option maxRecDepth 100000 in
theorem does_any {w : World} {p : Nat} {S : FS} {av : Value} {fs : List Value} {M I : Nat → Prop} (h : FolderS w p S av fs M I) (hl : S.weight ≤ 90000) (hg : S.good) (x a b : Nat) (n : Int) (raw : ByteArray) (hx : x ≤ 255) (ha : a ≤ 255) (hb : b ≤ 255) :
    Calls Try.prog 24 #[.agg #[.int .u8 (x : Int), .int .u8 (a : Int), .int .u8 (b : Int), .int .i8 n, .string raw], .pointer (some ⟨p, 0, none⟩)] w fun e w' => e = .returned (.tuple #[]) ∧ WentS w p av fs M I (S.does x a b) w' := by
  obtain ⟨w1, hw1⟩ : ∃ w1, w.alloc (.cells #[.int .u8 (x : Int), .int .u8 (a : Int), .int .u8 (b : Int), .int .i8 n, .string raw] 29) = w1 := ⟨_, rfl⟩
  have hb1 : Below w.heap.size w w1 := by rw [← hw1]; exact below_alloc' (Below.refl _ w)
  have hz1 : w1.heap.size = w.heap.size + 1 := by rw [← hw1]; simp
  have hbox : w1.heap[w.heap.size]? = some (.cells #[.int .u8 (x : Int), .int .u8 (a : Int), .int .u8 (b : Int), .int .i8 n, .string raw] 29 (0, 0)) := by rw [← hw1]; exact heap_alloc_new w _
  have HK : Hid (∀ W, Below w1.heap.size w1 W → W.cell? ⟨w.heap.size, 0, none⟩ = some (.int .u8 (x : Int)) ∧ W.cell? ⟨w.heap.size, 1, none⟩ = some (.int .u8 (a : Int)) ∧ W.cell? ⟨w.heap.size, 2, none⟩ = some (.int .u8 (b : Int))) := Lib.hid fun W hW => by
    have hB := (hW.block w.heap.size (by omega)).trans hbox
    refine ⟨?_, ?_, ?_⟩ <;> (rw [cell_of_row _ _ _ _ _ _ hB]; rfl)
  obtain ⟨k0, k1, k2⟩ := HK.out w1 (Below.refl _ _)
  have QA : Hid (∀ W, Calls Try.prog 10 #[.int .u8 (a : Int)] W fun e w' => e = .returned (.string (nameT a)) ∧ Below W.heap.size W w') := Lib.hid fun W => name_any a ha W
  have QB : Hid (∀ W, Calls Try.prog 10 #[.int .u8 (b : Int)] W fun e w' => e = .returned (.string (nameT b)) ∧ Below W.heap.size W w') := Lib.hid fun W => name_any b hb W
  have hsa := nameT_size a
  have hsb := nameT_size b
  obtain ⟨na, hna⟩ : ∃ na, nameT a = na := ⟨_, rfl⟩
  obtain ⟨nb, hnb⟩ : ∃ nb, nameT b = nb := ⟨_, rfl⟩
  unfold FS.does
  rw [hna] at QA hsa ⊢
  rw [hnb] at QB hsb ⊢
  have fold : ∀ W, Below w1.heap.size w1 W → FolderS W p S av fs M I := fun W hW => FolderIn.below (FolderIn.below h hb1) hW
  have after : ∀ W S' w', Below w1.heap.size w1 W → WentS W p av fs M I S' w' → WentS w p av fs M I S' w' := fun W S' w' hW hq => went_after (Below.next hb1 hW) hq
  have Q11 : Hid (∀ W, Below w1.heap.size w1 W → Calls Try.prog 11 #[.pointer (some ⟨p, 0, none⟩), .string na] W fun e w' => (∃ r e', e = .returned (.tuple #[.int .i64 r, .int .i64 e'])) ∧ WentS w p av fs M I (S.create na).1 w') := Lib.hid fun W hW => (create_any (fold W hW) na (by omega) hl).mono fun e w' ⟨he, hq⟩ => ⟨⟨_, _, he⟩, after W _ _ hW hq⟩
  have Q13 : Hid (∀ W, Below w1.heap.size w1 W → Calls Try.prog 13 #[.pointer (some ⟨p, 0, none⟩), .string na, .string nb] W fun e w' => (∃ r, e = .returned (.int .i64 r)) ∧ WentS w p av fs M I (S.rename na nb).1 w') := Lib.hid fun W hW => (rename_any (fold W hW) na nb (by omega) (by omega) hl (by have := hg.there.found na.data.toList; unfold FS.weight at hl; omega)).mono fun e w' ⟨he, hq⟩ => ⟨⟨_, he⟩, after W _ _ hW hq⟩
  have Q15 : Hid (∀ W, Below w1.heap.size w1 W → Calls Try.prog 15 #[.pointer (some ⟨p, 0, none⟩), .string na] W fun e w' => (∃ r, e = .returned (.int .i64 r)) ∧ WentS w p av fs M I (S.remove na).1 w') := Lib.hid fun W hW => (remove_any (fold W hW) na (by omega) hl).mono fun e w' ⟨he, hq⟩ => ⟨⟨_, he⟩, after W _ _ hW hq⟩
  have hm : (x : Int).tmod 3 = ((x % 3 : Nat) : Int) := by rw [Int.tmod_eq_emod_of_nonneg (by omega)]; omega
  have h3 : x % 3 = 0 ∨ x % 3 = 1 ∨ x % 3 = 2 := by omega
  clear h hg hbox fold after hb1 hna hnb
  rcases h3 with h3 | h3 | h3
  · rw [if_pos h3]
    rw [h3] at hm
    clear h3
    go_enter Try.func24, Try.ntmps24
    go_wp2_with (first
      | (go_at_call 10; (with_reducible refine (QA.out _).mono ?_); rintro e w2 ⟨rfl, b2⟩; have B2 := Lib.hid b2; clear b2)
      | (go_at_call 11; (with_reducible refine (Q11.out _ B2.out).mono ?_); rintro e w3 ⟨⟨r, e', rfl⟩, h3⟩; have H3 := Lib.hid h3; clear h3))
    exact bodyPost_end (v := .tuple #[]) (by simp [results, Try.results24, go_sem]) rfl ⟨rfl, H3.out⟩
  · rw [if_neg (by omega), if_pos h3]
    rw [h3] at hm
    clear h3
    go_enter Try.func24, Try.ntmps24
    go_upto_region 6 with fail
    go_region_with (first
      | (go_at_call 10; first
          | ((with_reducible refine (QA.out _).mono ?_); rintro e wA ⟨rfl, bA⟩; have NA := fun (u : World) (h : Below u.heap.size u _) => Below.next h bA; obtain ⟨_, ka1, ka2⟩ := HK.out wA (by repeat (first | with_reducible exact Below.refl _ _ | (with_reducible apply below_drewO) | (with_reducible apply NA) | (with_reducible apply NB))))
          | ((with_reducible refine (QB.out _).mono ?_); rintro e wB ⟨rfl, bB⟩; have NB := fun (u : World) (h : Below u.heap.size u _) => Below.next h bB; obtain ⟨_, kb1, kb2⟩ := HK.out wB (by repeat (first | with_reducible exact Below.refl _ _ | (with_reducible apply below_drewO) | (with_reducible apply NA) | (with_reducible apply NB)))))
      | (go_at_call 13; (with_reducible refine (Q13.out _ (by repeat (first | with_reducible exact Below.refl _ _ | (with_reducible apply below_drewO) | (with_reducible apply NA) | (with_reducible apply NB)))).mono ?_); rintro e w3 ⟨⟨r, rfl⟩, h3⟩; have H3 := Lib.hid h3; clear h3))
    all_goals
      go_wp2
      exact bodyPost_end (v := .tuple #[]) (by simp [results, Try.results24, go_sem]) rfl ⟨rfl, H3.out⟩
  · rw [if_neg (by omega), if_neg (by omega)]
    rw [h3] at hm
    clear h3
    go_enter Try.func24, Try.ntmps24
    go_wp2_with (first
      | (go_at_call 10; (with_reducible refine (QA.out _).mono ?_); rintro e w2 ⟨rfl, b2⟩; have B2 := Lib.hid b2; clear b2)
      | (go_at_call 15; (with_reducible refine (Q15.out _ B2.out).mono ?_); rintro e w3 ⟨⟨r, rfl⟩, h3⟩; have H3 := Lib.hid h3; clear h3))
    exact bodyPost_end (v := .tuple #[]) (by simp [results, Try.results24, go_sem]) rfl ⟨rfl, H3.out⟩
end Go.Proofs.Ytfjgefnklelnnaa

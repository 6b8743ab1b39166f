/-
  NameKnown: the walk.
-/
import Derived.Test.YtioilknfjccfeaaDoorNWorks
namespace Go.Proofs.YtioilknfjccfeaaDoor
open Go.RowKit Go.Sort

/-- What is no name. -/
def badL : List ByteArray := [⟨#[]⟩, ⟨#[119, 97, 108, 45]⟩, ⟨#[119, 97, 108, 45, 48]⟩, ⟨#[119, 97, 108, 45, 45, 49]⟩, ⟨#[119, 97, 108, 45, 43, 49]⟩, ⟨#[119, 97, 108, 45, 49, 32]⟩, ⟨#[32, 119, 97, 108, 45, 49]⟩, ⟨#[119, 97, 108, 45, 49, 120]⟩, ⟨#[119, 97, 108, 45, 49, 48, 48, 48, 48, 48, 48, 48, 48, 49]⟩, ⟨#[119, 97, 108, 45, 57, 57, 57, 57, 57, 57, 57, 57, 57, 57, 57, 57, 57, 57, 57, 57, 57, 57, 57, 57]⟩, ⟨#[115, 101, 103, 45]⟩, ⟨#[115, 101, 103, 45, 48, 48]⟩, ⟨#[108, 111, 103, 45, 49]⟩, ⟨#[109, 97, 110, 105, 102, 101, 115, 116, 46, 116, 109, 112, 50]⟩, ⟨#[109, 97, 110, 105, 102, 101, 115, 116, 46]⟩, ⟨#[77, 65, 78, 73, 70, 69, 83, 84]⟩, ⟨#[119, 97, 108, 45, 49, 46, 48]⟩, ⟨#[119, 97, 108]⟩, ⟨#[115, 101, 103]⟩]

theorem bad_all (k : Nat) (h : k < 19) : (badL.getD k ⟨#[]⟩).size ≤ 281474976710656 ∧ Plain.parseC (badL.getD k ⟨#[]⟩) = (0, 0) := by
  have : ∀ i : Fin 19, decide ((badL.getD i.1 ⟨#[]⟩).size ≤ 281474976710656) && decide (Plain.parseC (badL.getD i.1 ⟨#[]⟩) = (0, 0)) = true := by decide +kernel
  have h1 := this ⟨k, h⟩
  rw [Bool.and_eq_true] at h1
  exact ⟨of_decide_eq_true h1.1, of_decide_eq_true (of_decide_eq_true h1.2)⟩

set_option maxHeartbeats 4000000 in
set_option maxRecDepth 100000 in
theorem nameKnown_walk (w : World) (hT : Tabs w) : Calls Tryd.prog 5 #[] w fun e w' => e = .returned (.bool true) ∧ Below w.heap.size w w' := by
  have HT := Lib.hid (fun W (hW : Below w.heap.size w W) => hT.below hW)
  have hb0 : Below w.heap.size w (w.alloc (.cells (strs badL).toArray 9)) := below_alloc' (Below.refl _ w)
  have HS := Lib.hid (strs_new w badL 19 19 9 rfl)
  rw [show (strs badL).toArray = #[.string ⟨#[]⟩, .string ⟨#[119, 97, 108, 45]⟩, .string ⟨#[119, 97, 108, 45, 48]⟩, .string ⟨#[119, 97, 108, 45, 45, 49]⟩, .string ⟨#[119, 97, 108, 45, 43, 49]⟩, .string ⟨#[119, 97, 108, 45, 49, 32]⟩, .string ⟨#[32, 119, 97, 108, 45, 49]⟩, .string ⟨#[119, 97, 108, 45, 49, 120]⟩, .string ⟨#[119, 97, 108, 45, 49, 48, 48, 48, 48, 48, 48, 48, 48, 49]⟩, .string ⟨#[119, 97, 108, 45, 57, 57, 57, 57, 57, 57, 57, 57, 57, 57, 57, 57, 57, 57, 57, 57, 57, 57, 57, 57]⟩, .string ⟨#[115, 101, 103, 45]⟩, .string ⟨#[115, 101, 103, 45, 48, 48]⟩, .string ⟨#[108, 111, 103, 45, 49]⟩, .string ⟨#[109, 97, 110, 105, 102, 101, 115, 116, 46, 116, 109, 112, 50]⟩, .string ⟨#[109, 97, 110, 105, 102, 101, 115, 116, 46]⟩, .string ⟨#[77, 65, 78, 73, 70, 69, 83, 84]⟩, .string ⟨#[119, 97, 108, 45, 49, 46, 48]⟩, .string ⟨#[119, 97, 108]⟩, .string ⟨#[115, 101, 103]⟩] from rfl] at HS hb0
  have HB0 := Lib.hid hb0
  have HC : Hid (∀ W, Below w.heap.size w W → Below (w.alloc (.cells #[.string ⟨#[]⟩, .string ⟨#[119, 97, 108, 45]⟩, .string ⟨#[119, 97, 108, 45, 48]⟩, .string ⟨#[119, 97, 108, 45, 45, 49]⟩, .string ⟨#[119, 97, 108, 45, 43, 49]⟩, .string ⟨#[119, 97, 108, 45, 49, 32]⟩, .string ⟨#[32, 119, 97, 108, 45, 49]⟩, .string ⟨#[119, 97, 108, 45, 49, 120]⟩, .string ⟨#[119, 97, 108, 45, 49, 48, 48, 48, 48, 48, 48, 48, 48, 49]⟩, .string ⟨#[119, 97, 108, 45, 57, 57, 57, 57, 57, 57, 57, 57, 57, 57, 57, 57, 57, 57, 57, 57, 57, 57, 57, 57]⟩, .string ⟨#[115, 101, 103, 45]⟩, .string ⟨#[115, 101, 103, 45, 48, 48]⟩, .string ⟨#[108, 111, 103, 45, 49]⟩, .string ⟨#[109, 97, 110, 105, 102, 101, 115, 116, 46, 116, 109, 112, 50]⟩, .string ⟨#[109, 97, 110, 105, 102, 101, 115, 116, 46]⟩, .string ⟨#[77, 65, 78, 73, 70, 69, 83, 84]⟩, .string ⟨#[119, 97, 108, 45, 49, 46, 48]⟩, .string ⟨#[119, 97, 108]⟩, .string ⟨#[115, 101, 103]⟩] 9)).heap.size (w.alloc (.cells #[.string ⟨#[]⟩, .string ⟨#[119, 97, 108, 45]⟩, .string ⟨#[119, 97, 108, 45, 48]⟩, .string ⟨#[119, 97, 108, 45, 45, 49]⟩, .string ⟨#[119, 97, 108, 45, 43, 49]⟩, .string ⟨#[119, 97, 108, 45, 49, 32]⟩, .string ⟨#[32, 119, 97, 108, 45, 49]⟩, .string ⟨#[119, 97, 108, 45, 49, 120]⟩, .string ⟨#[119, 97, 108, 45, 49, 48, 48, 48, 48, 48, 48, 48, 48, 49]⟩, .string ⟨#[119, 97, 108, 45, 57, 57, 57, 57, 57, 57, 57, 57, 57, 57, 57, 57, 57, 57, 57, 57, 57, 57, 57, 57]⟩, .string ⟨#[115, 101, 103, 45]⟩, .string ⟨#[115, 101, 103, 45, 48, 48]⟩, .string ⟨#[108, 111, 103, 45, 49]⟩, .string ⟨#[109, 97, 110, 105, 102, 101, 115, 116, 46, 116, 109, 112, 50]⟩, .string ⟨#[109, 97, 110, 105, 102, 101, 115, 116, 46]⟩, .string ⟨#[77, 65, 78, 73, 70, 69, 83, 84]⟩, .string ⟨#[119, 97, 108, 45, 49, 46, 48]⟩, .string ⟨#[119, 97, 108]⟩, .string ⟨#[115, 101, 103]⟩] 9)) W → ∀ k, k < 19 → W.cell? ⟨w.heap.size, 0 + k, none⟩ = some (.string (badL.getD k ⟨#[]⟩)) ∧ Calls Tryd.prog 16 #[.string (badL.getD k ⟨#[]⟩), .int .i64 0, .int .i64 0] W fun e w' => e = .returned (.bool true) ∧ Below W.heap.size W w') := Lib.hid fun W hW hW2 k hk => by
    obtain ⟨ad, c, hv, hc⟩ := HS.out.below hW2
    cases hv
    obtain ⟨b, o, he, hcell⟩ := hc k hk
    cases he
    obtain ⟨h1, h2⟩ := bad_all k hk
    exact ⟨hcell, known_lit _ 0 0 true h1 (by rw [h2]; rfl) W (HT.out W hW)⟩
  clear hb0 HS
  have M0 := Lib.hid (make_lit 3 1 ⟨#[119, 97, 108, 45, 49]⟩ (by kernel_rfl))
  have M1 := Lib.hid (make_lit 3 1000000001 ⟨#[]⟩ (by kernel_rfl))
  have M2 := Lib.hid (make_lit 3 (-5) ⟨#[]⟩ (by kernel_rfl))
  have M3 := Lib.hid (make_lit 0 3 ⟨#[]⟩ (by kernel_rfl))
  have M4 := Lib.hid (make_lit 5 3 ⟨#[]⟩ (by kernel_rfl))
  have M5 := Lib.hid (make_lit (-1) 3 ⟨#[]⟩ (by kernel_rfl))
  have K0 := Lib.hid (known_lit ⟨#[109, 97, 110, 105, 102, 101, 115, 116, 46, 116, 109, 112]⟩ 2 0 true (by decide) (by kernel_rfl))
  have K1 := Lib.hid (known_lit ⟨#[119, 97, 108, 45, 49, 48]⟩ 3 10 true (by decide) (by kernel_rfl))
  have N0 : Hid (∀ W, Below w.heap.size w W → Calls Tryd.prog 13 #[.int .i64 4, .slice none 0 0] W fun e w' => (∃ r, e = .returned r ∧ Ints w' r []) ∧ Below W.heap.size W w') :=
    Lib.hid fun W hW => numbers_any 4 [] _ W (HT.out W hW) (strs_nil W) (fun i hi => by simp at hi) (by decide)
  have N1 : Hid (∀ W, Below w.heap.size w W → Calls Tryd.prog 13 #[.int .i64 1, .slice (some ⟨W.heap.size, 0, none⟩) 2 2] (W.alloc (.cells #[.string ⟨#[109, 97, 110, 105, 102, 101, 115, 116]⟩, .string ⟨#[119, 97, 108, 45, 52]⟩] 9)) fun e w' => (∃ r, e = .returned r ∧ Ints w' r []) ∧ Below W.heap.size W w') :=
    Lib.hid fun W hW => numbers_lit 1 [⟨#[109, 97, 110, 105, 102, 101, 115, 116]⟩, ⟨#[119, 97, 108, 45, 52]⟩] 2 W 9 [] (HT.out W hW) rfl (by decide) (by omega) (by rw [Plain.numsC_eq]; kernel_rfl)
  have N2 : Hid (∀ W, Below w.heap.size w W → Calls Tryd.prog 13 #[.int .i64 0, .slice (some ⟨W.heap.size, 0, none⟩) 2 2] (W.alloc (.cells #[.string ⟨#[120]⟩, .string ⟨#[119, 97, 108, 45, 48]⟩] 9)) fun e w' => (∃ r, e = .returned r ∧ Ints w' r []) ∧ Below W.heap.size W w') :=
    Lib.hid fun W hW => numbers_lit 0 [⟨#[120]⟩, ⟨#[119, 97, 108, 45, 48]⟩] 2 W 9 [] (HT.out W hW) rfl (by decide) (by omega) (by rw [Plain.numsC_eq]; kernel_rfl)
  have W1 := Lib.hid (fun W (hW : Below w.heap.size w W) => works_any W (HT.out W hW))
  go_enter Tryd.func5, Tryd.ntmps5
  go_wp2
  obtain ⟨w0, hw0⟩ : ∃ w0, (w.alloc (.cells #[.string ⟨#[]⟩, .string ⟨#[119, 97, 108, 45]⟩, .string ⟨#[119, 97, 108, 45, 48]⟩, .string ⟨#[119, 97, 108, 45, 45, 49]⟩, .string ⟨#[119, 97, 108, 45, 43, 49]⟩, .string ⟨#[119, 97, 108, 45, 49, 32]⟩, .string ⟨#[32, 119, 97, 108, 45, 49]⟩, .string ⟨#[119, 97, 108, 45, 49, 120]⟩, .string ⟨#[119, 97, 108, 45, 49, 48, 48, 48, 48, 48, 48, 48, 48, 49]⟩, .string ⟨#[119, 97, 108, 45, 57, 57, 57, 57, 57, 57, 57, 57, 57, 57, 57, 57, 57, 57, 57, 57, 57, 57, 57, 57]⟩, .string ⟨#[115, 101, 103, 45]⟩, .string ⟨#[115, 101, 103, 45, 48, 48]⟩, .string ⟨#[108, 111, 103, 45, 49]⟩, .string ⟨#[109, 97, 110, 105, 102, 101, 115, 116, 46, 116, 109, 112, 50]⟩, .string ⟨#[109, 97, 110, 105, 102, 101, 115, 116, 46]⟩, .string ⟨#[77, 65, 78, 73, 70, 69, 83, 84]⟩, .string ⟨#[119, 97, 108, 45, 49, 46, 48]⟩, .string ⟨#[119, 97, 108]⟩, .string ⟨#[115, 101, 103]⟩] 9)) = w0 := ⟨_, rfl⟩
  rw [hw0] at HC HB0 ⊢
  clear hw0
  go_loopw [2] (fun s2 wr => ∃ k : Nat, k ≤ 19 ∧ s2 = .int .i64 k ∧ Below w.heap.size w wr ∧ Below w0.heap.size w0 wr) (fun s2 _ => 19 - (intOf s2).toNat)
  case atStart => exact ⟨0, by omega, rfl, HB0.out, Below.refl _ _⟩
  case round =>
    obtain ⟨k, hk, rfl, hb, hb'⟩ := hrel
    have HB := Lib.hid hb
    have HB' := Lib.hid hb'
    clear hb hb'
    by_cases hlt : k < 19
    · obtain ⟨hcell, q16⟩ := HC.out wr HB.out HB'.out k hlt
      obtain ⟨x, hx⟩ : ∃ x, badL.getD k ⟨#[]⟩ = x := ⟨_, rfl⟩
      rw [hx] at hcell q16
      have Q16 := Lib.hid q16
      have e7 : decide ((k : Int) < 19) = true := decide_eq_true (by omega)
      have hk0 : (k : Int) < 19 := by omega
      clear hx q16
      rw [Nat.zero_add] at hcell
      go_wp2_with (go_at_call 16; (with_reducible refine Q16.out.mono ?_); rintro e w1 ⟨rfl, hb1⟩; have HB1 := Lib.hid (Below.next HB.out hb1); have HB1' := Lib.hid (Below.next HB'.out hb1); clear hb1)
      exact ⟨⟨k + 1, by omega, by go_num, HB1.out, HB1'.out⟩, by simp [intOf]; omega⟩
    · have e7 : decide ((k : Int) < 19) = false := decide_eq_false (by omega)
      have hk0 : ¬ (k : Int) < 19 := by omega
      clear HC
      go_wp2_with (first
        | (go_at_call 15; (with_reducible refine (W1.out _ HB.out).mono ?_); rintro e w1 ⟨rfl, hb1⟩; have H0 := Lib.hid (Below.next HB.out hb1); clear hb1)
        | (go_at_call 11; first
            | ((with_reducible refine (M0.out _ (HT.out _ H0.out)).mono ?_); rintro e w1 ⟨rfl, hb1⟩; have H1 := Lib.hid (Below.next H0.out hb1); clear hb1)
            | ((with_reducible refine (M1.out _ (HT.out _ H1.out)).mono ?_); rintro e w1 ⟨rfl, hb1⟩; have H2 := Lib.hid (Below.next H1.out hb1); clear hb1)
            | ((with_reducible refine (M2.out _ (HT.out _ H2.out)).mono ?_); rintro e w1 ⟨rfl, hb1⟩; have H3 := Lib.hid (Below.next H2.out hb1); clear hb1)
            | ((with_reducible refine (M3.out _ (HT.out _ H3.out)).mono ?_); rintro e w1 ⟨rfl, hb1⟩; have H4 := Lib.hid (Below.next H3.out hb1); clear hb1)
            | ((with_reducible refine (M4.out _ (HT.out _ H4.out)).mono ?_); rintro e w1 ⟨rfl, hb1⟩; have H5 := Lib.hid (Below.next H4.out hb1); clear hb1)
            | ((with_reducible refine (M5.out _ (HT.out _ H5.out)).mono ?_); rintro e w1 ⟨rfl, hb1⟩; have H6 := Lib.hid (Below.next H5.out hb1); clear hb1))
        | (go_at_call 16; first
            | ((with_reducible refine (K0.out _ (HT.out _ H6.out)).mono ?_); rintro e w1 ⟨rfl, hb1⟩; have H7 := Lib.hid (Below.next H6.out hb1); clear hb1)
            | ((with_reducible refine (K1.out _ (HT.out _ H7.out)).mono ?_); rintro e w1 ⟨rfl, hb1⟩; have H8 := Lib.hid (Below.next H7.out hb1); clear hb1))
        | (go_at_call 13; first
            | ((with_reducible refine (N0.out _ H8.out).mono ?_); rintro e w1 ⟨⟨r, rfl, hr⟩, hb1⟩; obtain ⟨ad, c, rfl, hr2⟩ := hr; have H9 := Lib.hid (Below.next H8.out hb1); clear hb1 hr2)
            | ((with_reducible refine (N1.out _ H9.out).mono ?_); rintro e w1 ⟨⟨r, rfl, hr⟩, hb1⟩; obtain ⟨ad, c, rfl, hr2⟩ := hr; have H10 := Lib.hid (Below.next H9.out hb1); clear hb1 hr2)
            | ((with_reducible refine (N2.out _ H10.out).mono ?_); rintro e w1 ⟨⟨r, rfl, hr⟩, hb1⟩; obtain ⟨ad, c, rfl, hr2⟩ := hr; have H11 := Lib.hid (Below.next H10.out hb1); clear hb1 hr2)))
      go_ret
      exact ⟨rfl, H11.out⟩
end Go.Proofs.YtioilknfjccfeaaDoor

/-
  The walk of VaryKnown.
-/
import Derived.Test.YtgdimjggnokllaaWorks
import Derived.Test.YtgdimjggnokllaaSmall
import Derived.Test.YtgdimjggnokllaaRow
import Derived.Deep.RegionHeld
namespace Go.Proofs.Ytgdimjggnokllaa
open Go.RowKit

/-- The least and the greatest number of d + 2 bytes. -/
def leastOf (d : Nat) : Nat := if d = 0 then 248 else 256 ^ d
def mostOf (d : Nat) : Nat := 256 ^ (d + 1) - 1

theorem eight {p : Nat → Prop} (h0 : p 0) (h1 : p 1) (h2 : p 2) (h3 : p 3) (h4 : p 4) (h5 : p 5) (h6 : p 6) (h7 : p 7) (d : Nat) (h : d < 8) : p d := by
  rcases (show d = 0 ∨ d = 1 ∨ d = 2 ∨ d = 3 ∨ d = 4 ∨ d = 5 ∨ d = 6 ∨ d = 7 by omega) with rfl | rfl | rfl | rfl | rfl | rfl | rfl | rfl <;> assumption

theorem known_nums (d : Nat) (h : d < 8) : (d ≠ 0 → IntKind.u64.wrap (2 ^ (8 * d)) = (leastOf d : Int)) ∧ IntKind.u64.wrap (IntKind.u64.wrap (IntKind.u64.wrap (2 ^ (8 * (d + 1) - 1)) * 2) - 1) = (mostOf d : Int) ∧
    Plain.size (leastOf d) = d + 2 ∧ Plain.size (mostOf d) = d + 2 ∧ Plain.size (leastOf d - 1) = d + 1 ∧ 1 ≤ leastOf d ∧ leastOf d < 18446744073709551616 ∧ mostOf d < 18446744073709551616 ∧
    Plain.get (Plain.enc (mostOf d)) 0 = (mostOf d, ((d + 2 : Nat) : Int), 0) ∧ Plain.get (UInt8.ofNat (247 + (d + 1)) :: List.replicate (d + 1) 0) 0 = (0, 0, 5) := by
  revert h
  refine fun h => eight (p := fun d => (d ≠ 0 → IntKind.u64.wrap (2 ^ (8 * d)) = (leastOf d : Int)) ∧ IntKind.u64.wrap (IntKind.u64.wrap (IntKind.u64.wrap (2 ^ (8 * (d + 1) - 1)) * 2) - 1) = (mostOf d : Int) ∧
    Plain.size (leastOf d) = d + 2 ∧ Plain.size (mostOf d) = d + 2 ∧ Plain.size (leastOf d - 1) = d + 1 ∧ 1 ≤ leastOf d ∧ leastOf d < 18446744073709551616 ∧ mostOf d < 18446744073709551616 ∧
    Plain.get (Plain.enc (mostOf d)) 0 = (mostOf d, ((d + 2 : Nat) : Int), 0) ∧ Plain.get (UInt8.ofNat (247 + (d + 1)) :: List.replicate (d + 1) 0) 0 = (0, 0, 5)) ?_ ?_ ?_ ?_ ?_ ?_ ?_ ?_ d h <;> decide

theorem wrap_nat64 (n : Nat) (h : n ≤ 9223372036854775807) : IntKind.i64.wrap (n : Int) = (n : Int) := by
  simp [IntKind.wrap, IntKind.bits, IntKind.signed]; omega

theorem put_in (n : Nat) (B : ByteArray) (hn : n < 18446744073709551616) (hB : Plain.enc n = B.data.toList) (b : Nat) (W : World) (hW : W.cell? ⟨b, 0, none⟩ = some (.int .u64 (n : Int))) :
    Calls Try.prog 9 #[.slice (some ⟨b, 0, none⟩) 1 1] W fun e w' => e = .returned (.string B) ∧ Below W.heap.size W w' := by
  refine (put_walk [n] (some ⟨b, 0, none⟩) 1 _ (by simpa using hn) (by simp) ?_).mono ?_
  · intro i hi
    obtain rfl : i = 0 := by simp at hi; omega
    exact ⟨_, _, rfl, hW⟩
  · rintro e w' ⟨rfl, hb⟩
    refine ⟨?_, hb⟩
    rw [Plain.encs_cons, hB]
    simp [Plain.encs]

theorem str_one (x : Nat) (_hx : x < 256) (b c : Nat) (W : World) (h : W.cell? ⟨b, 0, none⟩ = some (.int .u8 (x : Int))) : (convert 42 9 (.slice (some ⟨b, 0, none⟩) 1 c)).run Try.prog W = .ok (.string ⟨#[UInt8.ofNat x]⟩) W := by
  have hcv := run_convert_bytes_arg (P := Try.prog) W 42 5 Try.underlying42 Try.underlying5 b 0 1 c [(x : Int)] rfl (fun i hi => by
    obtain rfl : i = 0 := by omega
    rw [Nat.add_zero, h]; rfl) 9 Try.underlying9
  rw [hcv]
  congr 2

theorem repeat_zero (n : Nat) : Lib.repeatL [0] n = List.replicate n 0 := by
  induction n with
  | zero => rfl
  | succ n ih => rw [List.replicate_succ, ← ih]; rfl

set_option maxRecDepth 100000 in
set_option maxHeartbeats 4000000 in
theorem known_any (w : World) : Calls Try.prog 6 #[] w fun e w' => e = .returned (.bool true) ∧ Below w.heap.size w w' := by
  go_enter Try.func6, Try.ntmps6
  go_wp2_with (go_at_call 13; go_must (refine (works_any _).mono ?_); rintro e w0 ⟨rfl, hb0⟩)
  go_loopw [1] (fun i wr => ∃ m : Nat, 1 ≤ m ∧ m ≤ 9 ∧ i = .int .i64 (m : Int) ∧ Below w.heap.size w wr) (fun i _ => 9 - (intOf i).toNat)
  case atStart => exact ⟨1, by omega, by omega, rfl, hb0⟩
  case round =>
    obtain ⟨m, hm1, hm, rfl, hb⟩ := hrel
    by_cases hlt : m ≤ 8
    · obtain ⟨d, rfl⟩ : ∃ d, m = d + 1 := ⟨m - 1, by omega⟩
      obtain ⟨hle, hmo, z1, z2, z3, g1, g2, g3, q1, q2⟩ := known_nums d (by omega)
      obtain ⟨m, hmd⟩ : ∃ m, m = d + 1 := ⟨_, rfl⟩
      obtain ⟨t, htd⟩ : ∃ t, t = d + 2 := ⟨_, rfl⟩
      rw [← hmd] at hm1 hm hlt hmo z3 q2 ⊢
      rw [← htd] at z1 z2 q1
      obtain ⟨le, hlee⟩ : ∃ le, le = leastOf d := ⟨_, rfl⟩
      obtain ⟨mo, hmoe⟩ : ∃ mo, mo = mostOf d := ⟨_, rfl⟩
      rw [← hlee] at hle z1 z3 g1 g2
      rw [← hmoe] at hmo z2 g3 q1
      obtain ⟨lm, hlm⟩ : ∃ lm, lm = le - 1 := ⟨_, rfl⟩
      rw [← hlm] at z3
      obtain ⟨hdr, hhdr⟩ : ∃ hdr : Nat, hdr = 247 + m := ⟨_, rfl⟩
      have hdr8 : hdr < 256 := by omega
      have a1 : (m : Int) - 1 = (d : Int) := by omega
      have a2 : IntKind.i64.wrap (t : Int) = (t : Int) := wrap_nat64 t (by omega)
      have a2' : (m : Int) + 1 = (t : Int) := by omega
      have a3 : max (1 : Int) (m : Int) = (m : Int) := by omega
      have a4 : IntKind.i64.wrap (hdr : Int) = (hdr : Int) := wrap_nat64 hdr (by omega)
      have a4' : 247 + (m : Int) = (hdr : Int) := by omega
      have a5 : IntKind.u8.wrap (hdr : Int) = (hdr : Int) := by simp [IntKind.wrap, IntKind.bits, IntKind.signed]; omega
      have a6 : IntKind.u64.wrap (lm : Int) = (lm : Int) := by simp [IntKind.wrap, IntKind.bits, IntKind.signed]; omega
      have a6' : (le : Int) - 1 = (lm : Int) := by omega
      have sle : ∀ w0, Calls Try.prog 11 #[.int .u64 le] w0 fun e w' => e = .returned (.int .i64 (t : Int)) ∧ w0 = w' := fun w0 => z1 ▸ size_any le w0 g2
      have smo : ∀ w0, Calls Try.prog 11 #[.int .u64 mo] w0 fun e w' => e = .returned (.int .i64 (t : Int)) ∧ w0 = w' := fun w0 => z2 ▸ size_any mo w0 g3
      have slm : ∀ w0, Calls Try.prog 11 #[.int .u64 lm] w0 fun e w' => e = .returned (.int .i64 (m : Int)) ∧ w0 = w' := fun w0 => z3 ▸ size_any lm w0 (by omega)
      obtain ⟨M, hM⟩ : ∃ M : ByteArray, M.data.toList = Plain.enc mo := ⟨⟨(Plain.enc mo).toArray⟩, by simp⟩
      have hMs : M.size ≤ maxLen := by
        have := Plain.size_bounds g3
        have h2 : M.size = Plain.size mo := by rw [← ba_length, hM, Plain.enc_length]
        unfold maxLen; omega
      have pmo := put_in mo M g3 hM.symm
      have hadm : ∀ w0, Calls Try.prog 18 #[.string M, .int .u64 mo, .int .i64 t, .int .i64 0] w0 fun e w' => e = .returned (.bool true) ∧ w0 = w' := fun w0 => had_true M mo t 0 w0 hMs (by rw [hM, q1]; rfl)
      obtain ⟨R, hR⟩ : ∃ R : ByteArray, R = ⟨(Lib.repeatL [0] m).toArray⟩ := ⟨_, rfl⟩
      have hRl : R.data.toList = List.replicate m 0 := by rw [hR]; simp [repeat_zero]
      have rep : ∀ w0, Calls Try.prog 19 #[.string ⟨#[0]⟩, .int .i64 m] w0 fun e w' => e = .returned (.string R) ∧ Below w0.heap.size w0 w' := fun w0 => by
        rw [hR]
        exact Try.strings_Repeat ⟨#[0]⟩ m w0 (by omega) (by show 1 * m ≤ _; omega)
      have hadz : ∀ (Z : ByteArray), Z.data.toList = UInt8.ofNat hdr :: List.replicate m 0 → ∀ w0, Calls Try.prog 18 #[.string Z, .int .u64 0, .int .i64 0, .int .i64 5] w0 fun e w' => e = .returned (.bool true) ∧ w0 = w' := fun Z hZ w0 => had_true Z 0 0 5 w0 (by rw [← ba_length, hZ]; simp [maxLen]; omega) (by rw [hZ, hhdr, q2]; rfl)
      obtain ⟨X, hX⟩ : ∃ X : ByteArray, X = ⟨#[UInt8.ofNat hdr]⟩ := ⟨_, rfl⟩
      have hXl : X.data.toList = [UInt8.ofNat hdr] := by rw [hX]
      have hcv : ∀ (b : Nat) (W : World), W.cell? ⟨b, 0, none⟩ = some (.int .u8 (hdr : Int)) → (convert 42 9 (.slice (some ⟨b, 0, none⟩) 1 1)).run Try.prog W = .ok (.string X) W := fun b W h => hX ▸ str_one hdr hdr8 b 1 W h
      have hcat : X.size + R.size ≤ 9223372036854775807 := by rw [← ba_length, ← ba_length, hXl, hRl]; simp; omega
      have hadx := hadz (X ++ R) (by rw [ba_append, hXl, hRl]; rfl)
      clear hX hXl hRl hadz
      have HD := Lib.hid hhdr
      have HM := Lib.hid hmd
      have HT := Lib.hid htd
      have hcase : (((m : Int) == 1) = true ∧ (248 : Int) = (le : Int)) ∨ (((m : Int) == 1) = false ∧ IntKind.u64.wrap (2 ^ (8 * d)) = (le : Int)) := by
        by_cases h0 : d = 0
        · refine .inl ⟨by simp; omega, ?_⟩
          rw [hlee, h0]
          rfl
        · exact .inr ⟨by simp; omega, hle h0⟩
      clear hmoe hlm hM hMs hR hhdr q1 q2 z1 z2 z3 hmd htd hle hlee
      rcases hcase with ⟨hq, h248⟩ | ⟨hq, hle'⟩
      · have H2 := Lib.hid h248; clear h248
        go_wp2
        rw [H2.out]
        go_region_held (fun w' => Below w.heap.size w w') (first | assumption | exact Below.drew (by assumption) | exact Below.alloc (by assumption) (Below.size (by assumption)) _ | exact Below.next (by assumption) (by assumption)) (first | (go_at_call 11; (first | (with_reducible refine (sle _).mono ?_) | (with_reducible refine (smo _).mono ?_) | (with_reducible refine (slm _).mono ?_)); rintro e w' ⟨rfl, rfl⟩) | (go_at_call 9; refine (pmo _ _ (by simp [go_sem])).mono ?_; rintro e w1 ⟨rfl, hb1⟩) | (go_at_call 18; (first | (with_reducible refine (hadm _).mono ?_) | (with_reducible refine (hadx _).mono ?_)); rintro e w' ⟨rfl, rfl⟩) | (go_at_call 19; (with_reducible refine (rep _).mono ?_); rintro e w1 ⟨rfl, hb1⟩; have hcl := fun p h => hb1.cell (p := p) h))
        all_goals go_wp2
        all_goals exact ⟨⟨m + 1, by omega, by omega, by go_num, by first | assumption | exact Below.next (by assumption) (by assumption)⟩, by simp [intOf]; omega⟩
      · go_wp2
        go_region_held (fun w' => Below w.heap.size w w') (first | assumption | exact Below.drew (by assumption) | exact Below.alloc (by assumption) (Below.size (by assumption)) _ | exact Below.next (by assumption) (by assumption)) (first | (go_at_call 11; (first | (with_reducible refine (sle _).mono ?_) | (with_reducible refine (smo _).mono ?_) | (with_reducible refine (slm _).mono ?_)); rintro e w' ⟨rfl, rfl⟩) | (go_at_call 9; refine (pmo _ _ (by simp [go_sem])).mono ?_; rintro e w1 ⟨rfl, hb1⟩) | (go_at_call 18; (first | (with_reducible refine (hadm _).mono ?_) | (with_reducible refine (hadx _).mono ?_)); rintro e w' ⟨rfl, rfl⟩) | (go_at_call 19; (with_reducible refine (rep _).mono ?_); rintro e w1 ⟨rfl, hb1⟩; have hcl := fun p h => hb1.cell (p := p) h))
        all_goals go_wp2
        all_goals exact ⟨⟨m + 1, by omega, by omega, by go_num, by first | assumption | exact Below.next (by assumption) (by assumption)⟩, by simp [intOf]; omega⟩
    · have r1 : ∀ w0, Calls Try.prog 15 #[.string ⟨#[5, 248, 249, 7]⟩, .int .i64 1, .int .i64 2] w0 fun e w' => ∃ v, e = .returned (.tuple #[v, .int .i64 4, .int .i64 0]) ∧ Nums w' v [249, 7] ∧ Below w0.heap.size w0 w' := fun w0 =>
        (row_any ⟨#[5, 248, 249, 7]⟩ 1 2 w0 (by decide)).mono fun e w' ⟨v, he, hn, hw⟩ => ⟨v, he, hn, hw⟩
      have r2 : ∀ w0, Calls Try.prog 15 #[.string ⟨#[5]⟩, .int .i64 0, .int .i64 (-3)] w0 fun e w' => ∃ v, e = .returned (.tuple #[v, .int .i64 0, .int .i64 0]) ∧ Nums w' v [] ∧ Below w0.heap.size w0 w' := fun w0 =>
        (row_any ⟨#[5]⟩ 0 (-3) w0 (by decide)).mono fun e w' ⟨v, he, hn, hw⟩ => ⟨v, he, hn, hw⟩
      have r3 : ∀ w0, Calls Try.prog 15 #[.string ⟨#[5, 248, 7]⟩, .int .i64 0, .int .i64 2] w0 fun e w' => ∃ v, e = .returned (.tuple #[v, .int .i64 1, .int .i64 5]) ∧ Nums w' v [] ∧ Below w0.heap.size w0 w' := fun w0 =>
        (row_any ⟨#[5, 248, 7]⟩ 0 2 w0 (by decide)).mono fun e w' ⟨v, he, hn, hw⟩ => ⟨v, he, hn, hw⟩
      have t1 : ∀ w0, Calls Try.prog 14 #[.string ⟨#[5]⟩, .int .i64 (-1)] w0 fun e w' => e = .returned (.tuple #[.int .u64 0, .int .i64 (-1), .int .i64 3]) ∧ w0 = w' := fun w0 => get_any ⟨#[5]⟩ (-1) w0 (by decide)
      have t2 : ∀ w0, Calls Try.prog 14 #[.string ⟨#[5]⟩, .int .i64 1] w0 fun e w' => e = .returned (.tuple #[.int .u64 0, .int .i64 1, .int .i64 3]) ∧ w0 = w' := fun w0 => get_any ⟨#[5]⟩ 1 w0 (by decide)
      have p0 : ∀ w0, Calls Try.prog 9 #[.slice none 0 0] w0 fun e w' => e = .returned (.string ⟨#[]⟩) ∧ Below w0.heap.size w0 w' := fun w0 => put_any [] _ w0 (nums_nil w0) (by simp) (by simp)
      go_wp2_with (go_at_call 15; go_must (with_reducible refine (r1 _).mono ?_))
      rintro e w1 ⟨v1, rfl, hv1, hb1⟩
      go_wp2_with (go_at_call 15; go_must (with_reducible refine (r2 _).mono ?_))
      rintro e w2 ⟨v2, rfl, ⟨a2, c2, rfl, _⟩, hb2⟩
      replace hv1 := hv1.below hb2
      go_wp2_with (go_at_call 15; go_must (with_reducible refine (r3 _).mono ?_))
      rintro e w3 ⟨v3, rfl, ⟨a3, c3, rfl, _⟩, hb3⟩
      replace hv1 := hv1.below hb3
      have hb4 := Below.next (Below.next (Below.next hb hb1) hb2) hb3
      have hsame : Calls Try.prog 16 #[v1, .slice (some ⟨w3.heap.size, 0, none⟩) 2 2] (w3.alloc (.cells #[.int .u64 249, .int .u64 7] 25)) fun e w' => e = .returned (.bool true) ∧ Below w3.heap.size w3 w' := by
        refine (same_any [249, 7] v1 _ _ (by simp) (hv1.below ((Below.refl _ w3).alloc (Nat.le_refl _) _)) ⟨_, 2, rfl, fun i hi => ⟨_, _, rfl, ?_⟩⟩).mono fun e w' ⟨he, hw⟩ => ⟨he, ((Below.refl _ w3).alloc (Nat.le_refl _) _).trans (hw.mono (by simp))⟩
        rcases (show i = 0 ∨ i = 1 by simp at hi; omega) with rfl | rfl <;> simp [go_sem]
      clear hb hb0 hb1 hb2 hb3 r1 r2 r3 hv1
      go_wp2_with (first
        | (go_at_call 14; (first | (with_reducible refine (t1 _).mono ?_) | (with_reducible refine (t2 _).mono ?_)); rintro e w' ⟨rfl, rfl⟩)
        | (go_at_call 16; go_must (refine hsame.mono ?_); rintro e w5 ⟨rfl, hb5⟩; replace hb4 := Below.next hb4 hb5; clear hb5)
        | (go_at_call 9; go_must (with_reducible refine (p0 _).mono ?_); rintro e w6 ⟨rfl, hb6⟩; replace hb4 := Below.next hb4 hb6; clear hb6))
      go_ret
      exact ⟨rfl, hb4⟩
end Go.Proofs.Ytgdimjggnokllaa

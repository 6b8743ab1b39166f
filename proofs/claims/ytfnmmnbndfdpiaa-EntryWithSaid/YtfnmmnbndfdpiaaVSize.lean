/-
  The walks of vary.Size and vary.laid.
-/
import Derived.Test.YtfnmmnbndfdpiaaKit
import Derived.Test.YtfnmmnbndfdpiaaVMath
import Derived.Test.YtfnmmnbndfdpiaaShelf
import Derived.WalkKit
import Derived.WalkSpells
import Derived.WalkLawsBesides
import Derived.Lib.Hide
import Derived.Deep.QuietTactic
import Derived.BigQuiet
import Derived.Lib.QuietBelow
namespace Go.Proofs.Ytfnmmnbndfdpiaa
open Go.RowKit

theorem size_any (n : Nat) (w : World) (hn : n < 18446744073709551616) :
    Calls Try.prog 55 #[.int .u64 n] w fun e w' => e = .returned (.int .i64 ((Plain.size n : Nat) : Int)) ∧ w = w' := by
  unfold Plain.size
  by_cases h : n ≤ 247
  · have h' : (n : Int) ≤ 247 := by omega
    rw [if_pos h]
    clear h
    go_enter Try.func55, Try.ntmps55
    go_wp2
    go_ret
    exact ⟨rfl, rfl⟩
  · have h' : ¬ (n : Int) ≤ 247 := by omega
    rw [if_neg h]
    obtain ⟨b, hb⟩ : ∃ b : Nat, b = Lib.bitLen n := ⟨_, rfl⟩
    have hnb := Plain.nb_bitLen (n := n) (by omega) hn
    obtain ⟨h1, h2, _⟩ := Plain.nb_bounds hn
    rw [← hb] at hnb
    have e : ((b : Int) + 7) / 8 = ((Plain.nb n : Nat) : Int) := by omega
    have hb2 : b < 100 := by omega
    have c : ∀ w0, Calls Try.prog 73 #[.int .u64 n] w0 fun e w' => e = .returned (.int .i64 (b : Int)) ∧ w' = w0 := fun w0 => by
      have := Try.bits_Len64 (n : Int) w0 (by omega) (by omega)
      rwa [Int.toNat_natCast, ← hb] at this
    clear h hb hnb
    go_enter Try.func55, Try.ntmps55
    go_wp2_with (go_at_call 73; go_must (refine (c _).mono ?_); rintro e w' ⟨rfl, rfl⟩)
    go_ret
    exact ⟨by simp, rfl⟩

/-- The nine cells of a list of bytes. -/
def nine (l : List UInt8) : Array Value := #[.int .u8 ((l.getD 0 0).toNat : Int), .int .u8 ((l.getD 1 0).toNat : Int), .int .u8 ((l.getD 2 0).toNat : Int), .int .u8 ((l.getD 3 0).toNat : Int), .int .u8 ((l.getD 4 0).toNat : Int), .int .u8 ((l.getD 5 0).toNat : Int), .int .u8 ((l.getD 6 0).toNat : Int), .int .u8 ((l.getD 7 0).toNat : Int), .int .u8 ((l.getD 8 0).toNat : Int)]

theorem laid_small (n : Nat) (w : World) (hn : n ≤ 247) :
    Calls Try.prog 53 #[.int .u64 n] w fun e w' => e = .returned (.agg (nine (Plain.full n))) ∧ Below w.heap.size w w' := by
  have hf : nine (Plain.full n) = #[.int .u8 n, .int .u8 0, .int .u8 0, .int .u8 0, .int .u8 0, .int .u8 0, .int .u8 0, .int .u8 0, .int .u8 0] := by
    unfold Plain.full nine; rw [if_pos hn]
    simp [List.replicate, Nat.mod_eq_of_lt (show n < 256 by omega)]
  rw [hf]
  have h' : (n : Int) ≤ 247 := by omega
  go_enter Try.func53, Try.ntmps53
  go_wp2
  refine bodyPost_ret (v := .agg #[.int .u8 n, .int .u8 0, .int .u8 0, .int .u8 0, .int .u8 0, .int .u8 0, .int .u8 0, .int .u8 0, .int .u8 0]) (by simp [results, Try.results53, go_sem]) rfl ⟨rfl, ?_⟩
  exact (Below.refl _ _).alloc (Nat.le_refl _) _

/-- What has been laid when k of the lower bytes are in their places. -/
def laidTill (hd n k : Nat) : List UInt8 := UInt8.ofNat hd :: (Plain.low n k ++ List.replicate (8 - k) 0)

theorem laidTill_length (hd n k : Nat) (hk : k ≤ 8) : (laidTill hd n k).length = 9 := by simp [laidTill, Plain.low_length]; omega

theorem laidTill_next (hd n k : Nat) (hk : k < 8) : (laidTill hd n k).set (1 + k) (UInt8.ofNat (n / 256 ^ k % 256)) = laidTill hd n (k + 1) := by
  unfold laidTill
  rw [show 1 + k = k + 1 by omega, List.set_cons_succ, List.set_append_right _ _ (by simp [Plain.low_length])]
  congr 1
  rw [Plain.low_length, Nat.sub_self, show 8 - k = (8 - (k + 1)) + 1 by omega, List.replicate_succ, List.set_cons_zero, ← Plain.low_succ n k, List.append_assoc]
  rfl

theorem rowOf_put {w : World} {b : Nat} {l : List UInt8} (h : RowOf w b l) (i : Nat) (hi : i < l.length) (y : UInt8) (v : Int) (hv : v = (y.toNat : Int)) :
    RowOf (w.setCell ⟨b, i, none⟩ (.int .u8 v)) b (l.set i y) := hv ▸ rowOf_set h i hi y

theorem low_byte (n k : Nat) : (n : Int) / 2 ^ (8 * k) % 256 = ((UInt8.ofNat (n / 256 ^ k % 256)).toNat : Int) := by
  rw [show (2 : Int) ^ (8 * k) = ((256 ^ k : Nat) : Int) by rw [Int.pow_mul]; simp]
  rw [UInt8.toNat_ofNat', show (2 : Nat) ^ 8 = 256 from rfl, Nat.mod_mod, ← Int.natCast_ediv]
  rfl

theorem laid_great (n : Nat) (w : World) (hn : n < 18446744073709551616) (h : ¬ n ≤ 247) :
    Calls Try.prog 53 #[.int .u64 n] w fun e w' => e = .returned (.agg (nine (Plain.full n))) ∧ Below w.heap.size w w' := by
  have h' : ¬ (n : Int) ≤ 247 := by omega
  obtain ⟨h1, h2, _⟩ := Plain.nb_bounds hn
  obtain ⟨sz, hsz⟩ : ∃ sz : Nat, sz = Plain.size n := ⟨_, rfl⟩
  have hsz2 : sz = 1 + Plain.nb n := by rw [hsz]; unfold Plain.size; rw [if_neg h]
  obtain ⟨hd, hhd⟩ : ∃ hd : Nat, hd = 247 + Plain.nb n := ⟨_, rfl⟩
  have hs9 : sz ≤ 9 := by omega
  have e1 : 247 + (sz : Int) - 1 = (hd : Int) := by omega
  have hd8 : hd < 256 := by omega
  obtain ⟨l, hl⟩ : ∃ l, l = Plain.full n := ⟨_, rfl⟩
  have hfull : l = laidTill hd n 8 := by rw [hl]; unfold Plain.full laidTill; rw [if_neg h, hhd]; simp
  rw [← hl]
  clear hl
  have c : ∀ w0, Calls Try.prog 55 #[.int .u64 n] w0 fun e w' => e = .returned (.int .i64 (sz : Int)) ∧ w0 = w' := fun w0 => hsz ▸ size_any n w0 hn
  clear hsz hsz2 hhd h h1 h2
  have HF := Lib.hid hfull; clear hfull
  go_enter Try.func53, Try.ntmps53
  go_wp2_with (go_at_call 55; go_must (refine (c _).mono ?_); rintro e w' ⟨rfl, rfl⟩)
  go_loopw [16] (fun i wr => ∃ k : Nat, k ≤ 8 ∧ i = .int .i64 k ∧ RowOf wr w.heap.size (laidTill hd n k) ∧ Below w.heap.size w wr ∧ w.heap.size < wr.heap.size) (fun i _ => 8 - (intOf i).toNat)
  case atStart =>
    refine ⟨0, by omega, rfl, ?_, (Below.refl _ _).alloc (Nat.le_refl _) _, by simp⟩
    have hh : (hd : Int) = ((UInt8.ofNat hd).toNat : Int) := by simp [Nat.mod_eq_of_lt hd8]
    constructor
    · intro i hi
      rw [laidTill_length _ _ _ (by omega)] at hi
      rcases (show i = 0 ∨ i = 1 ∨ i = 2 ∨ i = 3 ∨ i = 4 ∨ i = 5 ∨ i = 6 ∨ i = 7 ∨ i = 8 by omega) with rfl | rfl | rfl | rfl | rfl | rfl | rfl | rfl | rfl <;> simp [go_sem, laidTill, Plain.low, List.replicate, Nat.mod_eq_of_lt hd8]
    · intro i _
      exact World.frozen?_alloc_at (w := w) (hn := rfl) ..
  case round =>
    obtain ⟨k, hk, rfl, hr, hb, hlt⟩ := hrel
    by_cases hk8 : k < 8
    · have hlen := laidTill_length hd n k hk
      have hc := hr.1 (1 + k) (by omega)
      have hfz := hr.2 (1 + k) (by omega)
      have HR := Lib.hid hr; clear hr
      go_wp2
      refine ⟨⟨k + 1, by omega, by go_num, ?_, hb.setCell (p := ⟨w.heap.size, 1 + k, none⟩) (Nat.le_refl _) _, by simpa using hlt⟩, by simp [intOf]; omega⟩
      rw [← laidTill_next hd n k hk8]
      exact rowOf_put HR.out _ (by omega) _ _ (low_byte n k)
    · obtain rfl : k = 8 := by omega
      have hlen := laidTill_length hd n 8 hk
      rw [← HF.out] at hr hlen
      have g : ∀ i, i < 9 → ∃ x : Int, x = ((l.getD i 0).toNat : Int) ∧ wr.cell? ⟨w.heap.size, i, none⟩ = some (.int .u8 x) ∧ wr.frozen? ⟨w.heap.size, i, none⟩ = false := fun i hi => ⟨_, rfl, hr.1 i (by omega), hr.2 i (by omega)⟩
      obtain ⟨x0, e0, c0, f0⟩ := g 0 (by omega)
      obtain ⟨x1, e1, c1, f1⟩ := g 1 (by omega)
      obtain ⟨x2, e2, c2, f2⟩ := g 2 (by omega)
      obtain ⟨x3, e3, c3, f3⟩ := g 3 (by omega)
      obtain ⟨x4, e4, c4, f4⟩ := g 4 (by omega)
      obtain ⟨x5, e5, c5, f5⟩ := g 5 (by omega)
      obtain ⟨x6, e6, c6, f6⟩ := g 6 (by omega)
      obtain ⟨x7, e7, c7, f7⟩ := g 7 (by omega)
      obtain ⟨x8, e8, c8, f8⟩ := g 8 (by omega)
      have hn9 : nine l = #[.int .u8 x0, .int .u8 x1, .int .u8 x2, .int .u8 x3, .int .u8 x4, .int .u8 x5, .int .u8 x6, .int .u8 x7, .int .u8 x8] := by
        unfold nine; rw [e0, e1, e2, e3, e4, e5, e6, e7, e8]
      have H9 := Lib.hid hn9
      clear e0 e1 e2 e3 e4 e5 e6 e7 e8 hn9 g hr HF hlen
      go_wp2
      refine bodyPost_ret (v := .agg #[.int .u8 x0, .int .u8 x1, .int .u8 x2, .int .u8 x3, .int .u8 x4, .int .u8 x5, .int .u8 x6, .int .u8 x7, .int .u8 x8]) (by simp [results, Try.results53, go_sem, c0, c1, c2, c3, c4, c5, c6, c7, c8]) rfl ⟨by rw [H9.out], ?_⟩
      have st : ∀ (w1 : World) (i : Nat) (v : Value), Below w.heap.size w w1 → Below w.heap.size w (w1.setCell ⟨w.heap.size, i, none⟩ v) := fun w1 i v h => h.setCell (p := ⟨w.heap.size, i, none⟩) (Nat.le_refl _) _
      exact st _ _ _ (st _ _ _ (st _ _ _ (st _ _ _ (st _ _ _ (st _ _ _ (st _ _ _ (st _ _ _ (st _ _ _ hb))))))))

theorem laid_any (n : Nat) (w : World) (hn : n < 18446744073709551616) :
    Calls Try.prog 53 #[.int .u64 n] w fun e w' => e = .returned (.agg (nine (Plain.full n))) ∧ Below w.heap.size w w' := by
  by_cases h : n ≤ 247
  · exact laid_small n w h
  · exact laid_great n w hn h

end Go.Proofs.Ytfnmmnbndfdpiaa

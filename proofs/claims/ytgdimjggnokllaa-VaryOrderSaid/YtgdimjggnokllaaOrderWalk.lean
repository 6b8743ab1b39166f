/-
  The walk of VaryOrder.
-/
import Derived.Test.YtgdimjggnokllaaWorks
namespace Go.Proofs.Ytgdimjggnokllaa
open Go.RowKit

theorem put_enc (n : Nat) (hn : n < 18446744073709551616) (B : ByteArray) (hB : B.data.toList = Plain.enc n) (w : World) :
    Calls Try.prog 9 #[.slice (some ⟨w.heap.size, 0, none⟩) 1 1] (w.alloc (.cells #[.int .u64 n] 25)) fun e w' => e = .returned (.string B) ∧ Below w.heap.size w w' :=
  put_one n n B hn rfl (by rw [hB]; simp [Plain.encs]) w

theorem noPrefix {a b : Nat} {A B : ByteArray} (ha : a < 18446744073709551616) (hb : b < 18446744073709551616) (h : a ≠ b) (hA : A.data.toList = Plain.enc a) (hB : B.data.toList = Plain.enc b) (w : World) :
    Calls Try.prog 17 #[.string A, .string B] w fun e w' => e = .returned (.bool false) ∧ w = w' := by
  refine (Try.strings_HasPrefix A B w).mono ?_
  rintro e w' ⟨rfl, rfl⟩
  refine ⟨?_, rfl⟩
  rw [hA, hB, show Lib.hasPrefix (Plain.enc a) (Plain.enc b) = (Plain.enc b).isPrefixOf (Plain.enc a) from rfl, Plain.enc_no_prefix ha hb h]

set_option maxHeartbeats 2000000 in
theorem order_any (a b : Nat) (w : World) (ha : a < 18446744073709551616) (hb : b < 18446744073709551616) :
    Calls Try.prog 5 #[.int .u64 a, .int .u64 b] w fun e w' => e = .returned (.bool true) ∧ Below w.heap.size w w' := by
  go_enter Try.func5, Try.ntmps5
  go_wp2_with (go_at_call 13; go_must (refine (works_any _).mono ?_); rintro e w0 ⟨rfl, hb0⟩)
  go_loopw [5] (fun i wr => ∃ k : Nat, k ≤ 70 ∧ i = .int .i64 k ∧ Below w.heap.size w wr) (fun i _ => 70 - (intOf i).toNat)
  case atStart => exact ⟨0, by omega, rfl, hb0⟩
  case round =>
    obtain ⟨k, hk, rfl, hbr⟩ := hrel
    by_cases hlt : k < 64
    · obtain ⟨p, hp⟩ : ∃ p : Nat, (a : Int) / 2 ^ k = (p : Int) := ⟨a / 2 ^ k, by rw [Int.natCast_ediv]; simp⟩
      obtain ⟨q, hq⟩ : ∃ q : Nat, (b : Int) / 2 ^ (63 - k) = (q : Int) := ⟨b / 2 ^ (63 - k), by rw [Int.natCast_ediv]; simp⟩
      have hp64 : p < 18446744073709551616 := by
        have : p = a / 2 ^ k := by rw [show (2 : Int) ^ k = ((2 ^ k : Nat) : Int) by simp, ← Int.natCast_ediv] at hp; omega
        have := Nat.div_le_self a (2 ^ k)
        omega
      have hq64 : q < 18446744073709551616 := by
        have : q = b / 2 ^ (63 - k) := by rw [show (2 : Int) ^ (63 - k) = ((2 ^ (63 - k) : Nat) : Int) by simp, ← Int.natCast_ediv] at hq; omega
        have := Nat.div_le_self b (2 ^ (63 - k))
        omega
      obtain ⟨x, hx⟩ : ∃ x : Nat, min (p : Int) (q : Int) = (x : Int) := ⟨min p q, by omega⟩
      obtain ⟨y, hy⟩ : ∃ y : Nat, max (p : Int) (q : Int) = (y : Int) := ⟨max p q, by omega⟩
      have hxy : x ≤ y := by omega
      have hx64 : x < 18446744073709551616 := by omega
      have hy64 : y < 18446744073709551616 := by omega
      obtain ⟨sx, hsx⟩ : ∃ sx, sx = Plain.size x := ⟨_, rfl⟩
      obtain ⟨sy, hsy⟩ : ∃ sy, sy = Plain.size y := ⟨_, rfl⟩
      have bx := Plain.size_bounds hx64
      have bY := Plain.size_bounds hy64
      have hm := Plain.size_mono hy64 hxy
      rw [← hsx] at bx hm
      rw [← hsy] at bY hm
      have qx : ∀ w0, Calls Try.prog 11 #[.int .u64 x] w0 fun e w' => e = .returned (.int .i64 (sx : Int)) ∧ w0 = w' := fun w0 => hsx ▸ size_any x w0 hx64
      have qy : ∀ w0, Calls Try.prog 11 #[.int .u64 y] w0 fun e w' => e = .returned (.int .i64 (sy : Int)) ∧ w0 = w' := fun w0 => hsy ▸ size_any y w0 hy64
      obtain ⟨X, hX⟩ : ∃ X : ByteArray, X.data.toList = Plain.enc x := ⟨⟨(Plain.enc x).toArray⟩, by simp⟩
      obtain ⟨Y, hY⟩ : ∃ Y : ByteArray, Y.data.toList = Plain.enc y := ⟨⟨(Plain.enc y).toArray⟩, by simp⟩
      have px := put_enc x hx64 X hX
      have py := put_enc y hy64 Y hY
      clear hp64 hq64 hsx hsy
      by_cases hne : x = y
      · subst hne
        clear hX hY px py qy
        go_wp2
        go_quiet (fail)
        have hb2 : Below w.heap.size w (wr.drewN nq) := hbr.trans ⟨rfl, rfl, rfl, Nat.le_refl _, fun _ _ => rfl⟩
        generalize wr.drewN nq = w2 at hb2 ⊢
        go_wp2_with (go_at_call 11; (with_reducible refine (qx _).mono ?_); rintro e w' ⟨rfl, rfl⟩)
        exact ⟨⟨k + 7, by omega, by go_num, hb2⟩, by simp [intOf]; omega⟩
      · have n1 := noPrefix hx64 hy64 hne hX hY
        have n2 := noPrefix hy64 hx64 (Ne.symm hne) hY hX
        have hne' : ((x : Int) == (y : Int)) = false := by simp; omega
        clear hX hY
        go_wp2
        go_quiet (fail)
        have hb2 : Below w.heap.size w (wr.drewN nq) := hbr.trans ⟨rfl, rfl, rfl, Nat.le_refl _, fun _ _ => rfl⟩
        generalize wr.drewN nq = w2 at hb2 ⊢
        go_wp2_with (first
          | (go_at_call 11; (first | (with_reducible refine (qx _).mono ?_) | (with_reducible refine (qy _).mono ?_)); rintro e w' ⟨rfl, rfl⟩)
          | (go_at_call 9; (first | (with_reducible refine (px _).mono ?_) | (with_reducible refine (py _).mono ?_)); rintro e w1 ⟨rfl, hb1⟩; replace hb2 := Below.next hb2 hb1; clear hb1)
          | (go_at_call 17; (first | (with_reducible refine (n1 _).mono ?_) | (with_reducible refine (n2 _).mono ?_)); rintro e w' ⟨rfl, rfl⟩))
        exact ⟨⟨k + 7, by omega, by go_num, hb2⟩, by simp [intOf]; omega⟩
    · go_wp2
      go_ret
      exact ⟨rfl, hbr⟩

end Go.Proofs.Ytgdimjggnokllaa

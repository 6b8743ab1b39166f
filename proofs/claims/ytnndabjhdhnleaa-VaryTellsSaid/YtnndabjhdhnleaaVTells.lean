/-
  The walk of VaryTells.
-/
import Derived.Test.YtnndabjhdhnleaaRefRow
import Derived.Test.YtnndabjhdhnleaaVRow
import Derived.Test.YtnndabjhdhnleaaVWorks
import Derived.Test.YtnndabjhdhnleaaVSmall
namespace Go.Proofs.Ytnndabjhdhnleaa
open Go.RowKit

theorem rowFrom_length (s : List UInt8) : ∀ (k : Nat) (acc : List Nat) (p : Int), (Plain.rowFrom s k acc p).1.length ≤ acc.length + k
  | 0, _, _ => Nat.le_refl _
  | k + 1, acc, p => by
    rw [rowFrom_succ]
    split
    · have := rowFrom_length s k (acc ++ [(Plain.get s p).1]) (Plain.get s p).2.1
      rw [List.length_append] at this
      simp only [List.length_singleton] at this
      omega
    · exact Nat.zero_le _

set_option maxHeartbeats 2000000 in
theorem reads_any (s : ByteArray) (a many : Int) (w : World) (hs : s.size ≤ 1000000) (hm : many ≤ 1000000) :
    Calls Try.prog 9 #[.string s, .int .i64 a, .int .i64 many] w fun e w' => e = .returned (.bool true) ∧ Below w.heap.size w w' := by
  have g16 := fun w0 => get_any s a w0 (by unfold maxLen; omega)
  have g17 := fun w0 => refGet_any s a w0 (by unfold maxLen; omega)
  have g18 := fun w0 => row_any s a many w0 hs
  have g19 := fun w0 => refRow_any s a many w0 hs hm
  have hll : (Plain.row s.data.toList a many).1.length ≤ 1000000000 := by
    have := rowFrom_length s.data.toList many.toNat [] a
    unfold Plain.row
    simp only [List.length_nil] at this
    omega
  unfold gotten at g16 g17
  obtain ⟨⟨n9, p9, e9⟩, hr⟩ : ∃ r, Plain.get s.data.toList a = r := ⟨_, rfl⟩
  obtain ⟨⟨l, p, e⟩, hR⟩ : ∃ r, Plain.row s.data.toList a many = r := ⟨_, rfl⟩
  rw [hr] at g16 g17
  rw [hR] at g18 g19 hll
  unfold RowAns at g19
  dsimp only at g16 g17 g18 g19 hll
  have hsame := fun v1 v2 w0 h1 h2 => same_any l v1 v2 w0 hll h1 h2
  clear hr hR hs hm hll
  go_enter Try.func9, Try.ntmps9
  go_wp2_with (first
    | (go_at_call 16; go_must (with_reducible refine (g16 _).mono ?_); rintro e w' ⟨rfl, rfl⟩)
    | (go_at_call 17; go_must (with_reducible refine (g17 _).mono ?_); rintro e w1 ⟨rfl, hb1⟩)
    | (go_at_call 18; go_must (with_reducible refine (g18 _).mono ?_); rintro e w2 ⟨v2, rfl, hv2, hb2⟩; replace hb1 := Below.next hb1 hb2; clear hb2)
    | (go_at_call 19; go_must (with_reducible refine (g19 _).mono ?_); rintro e w3 ⟨v3, rfl, hv3, hb3⟩; replace hv2 := hv2.below hb3; replace hb1 := Below.next hb1 hb3; clear hb3)
    | (go_at_call 20; go_must (with_reducible refine (hsame _ _ _ hv2 hv3).mono ?_); rintro e w4 ⟨rfl, hb4⟩; replace hb1 := Below.next hb1 hb4; clear hb4))
  go_ret
  exact ⟨rfl, hb1⟩
end Go.Proofs.Ytnndabjhdhnleaa

/-
  The walk of CrcFour: it returns true, for every two texts and four bytes twice.
-/
import Derived.Test.YtfnldhbkablehaaDoorProg
import Derived.Test.YtfnldhbkablehaaDoorMath
import Derived.WalkKit
import Derived.WalkSpells
import Derived.WalkLawsBesides
import Derived.Lib.Hide
import Derived.Shelf.Pu.Clone
import Derived.Deep.QuietTactic
import Derived.BigQuiet
import Derived.Lib.QuietBelow
import Derived.Test.YtfnldhbkablehaaDoorWalks1
import Derived.Lib.ConvBytes
import Derived.Test.YtfnldhbkablehaaDoorBurstsWalk
namespace Go.Proofs.YtfnldhbkablehaaDoor
open Go.RowKit

theorem eight_cells (w : World) (a b c d a' b' c' d' : Int) (e : TypeId) : ∀ i, i < 8 → (w.alloc (.cells #[.int .u8 a, .int .u8 b, .int .u8 c, .int .u8 d, .int .u8 a', .int .u8 b', .int .u8 c', .int .u8 d'] e)).cell? ⟨w.heap.size, i, none⟩ = some (.int .u8 ([a, b, c, d, a', b', c', d'].getD i 0)) := by
  intro i hi
  rcases (show i = 0 ∨ i = 1 ∨ i = 2 ∨ i = 3 ∨ i = 4 ∨ i = 5 ∨ i = 6 ∨ i = 7 by omega) with rfl | rfl | rfl | rfl | rfl | rfl | rfl | rfl <;> simp [go_sem]

set_option maxHeartbeats 4000000 in
theorem four_walk (s r U V A B UA X UB Y UV Z O S : ByteArray) (i0 e0 : Bool) (a0 a1 a2 a3 b0 b1 b2 b3 n m N1 N2 M1 M2 : Nat) (w : World)
    (hmin : min (s.size : Int) 200 = (n : Int)) (hn : n ≤ s.size) (hU : s.extract 0 n = U)
    (hmin2 : min (r.size : Int) 200 = (m : Int)) (hm : m ≤ r.size) (hV : r.extract 0 m = V)
    (hA : strOfNums [(a0 : Int), (a1 : Int), (a2 : Int), (a3 : Int)] = A) (hB : strOfNums [(b0 : Int), (b1 : Int), (b2 : Int), (b3 : Int)] = B)
    (hUA : U ++ A = UA) (hX : UA ++ V = X) (hUB : U ++ B = UB) (hY : UB ++ V = Y) (hUV : U ++ V = UV) (hZ : UV ++ A = Z)
    (hs : U.size ≤ 200) (hs2 : V.size ≤ 200) (hs3 : A.size ≤ 200) (hs4 : B.size ≤ 200) (hs5 : UA.size ≤ 400) (hs6 : UB.size ≤ 400) (hs7 : UV.size ≤ 400)
    (he : ((N1 : Int) == (N2 : Int)) = e0) (he2 : (A.toList == B.toList) = e0) (hi : (S.toList == Z.toList) = i0) (hO : i0 = true → (O.toList == UV.toList) = true)
    (c15 : ∀ w0, Fours w0 → Calls Tryd.prog 15 #[] w0 fun e w' => e = .returned (.bool true) ∧ Below w0.heap.size w0 w')
    (c11x : ∀ w0, Below w.heap.size w w0 → Calls Tryd.prog 11 #[.string X] w0 fun e w' => e = .returned (.int .u32 (N1 : Int)) ∧ Below w0.heap.size w0 w')
    (c11y : ∀ w0, Below w.heap.size w w0 → Calls Tryd.prog 11 #[.string Y] w0 fun e w' => e = .returned (.int .u32 (N2 : Int)) ∧ Below w0.heap.size w0 w')
    (c11u : ∀ w0, Below w.heap.size w w0 → Calls Tryd.prog 11 #[.string U] w0 fun e w' => e = .returned (.int .u32 (M1 : Int)) ∧ Below w0.heap.size w0 w')
    (c14a : ∀ w0, Below w.heap.size w w0 → Calls Tryd.prog 14 #[.int .u32 (M1 : Int), .string A] w0 fun e w' => e = .returned (.int .u32 (M2 : Int)) ∧ Below w0.heap.size w0 w')
    (c14b : ∀ w0, Below w.heap.size w w0 → Calls Tryd.prog 14 #[.int .u32 (M2 : Int), .string V] w0 fun e w' => e = .returned (.int .u32 (N1 : Int)) ∧ Below w0.heap.size w0 w')
    (c13 : ∀ w0, Below w.heap.size w w0 → Calls Tryd.prog 13 #[.string UV] w0 fun e w' => e = .returned (.string S) ∧ Below w0.heap.size w0 w')
    (c8 : ∀ w0, Below w.heap.size w w0 → Calls Tryd.prog 8 #[.string Z] w0 fun e w' => e = .returned (.tuple #[.string O, .bool i0]) ∧ Below w0.heap.size w0 w') :
    Fours w →
    Calls Tryd.prog 7 #[.string s, .string r, .agg #[.int .u8 a0, .int .u8 a1, .int .u8 a2, .int .u8 a3, .int .u8 b0, .int .u8 b1, .int .u8 b2, .int .u8 b3]] w fun e w' => e = .returned (.bool true) ∧ Below w.heap.size w w' := by
  intro hf
  go_enter Tryd.func7, Tryd.ntmps7
  go_wp2_with fail
  go_wp2_with (go_at_call 15; with_reducible refine (c15 _ (hf.below ((Below.refl _ _).alloc (Nat.le_refl _) _))).mono ?_; rintro e w1 ⟨rfl, hb1⟩)
  have hcell : ∀ i, i < 8 → w1.cell? ⟨w.heap.size, i, none⟩ = some (.int .u8 ([(a0 : Int), (a1 : Int), (a2 : Int), (a3 : Int), (b0 : Int), (b1 : Int), (b2 : Int), (b3 : Int)].getD i 0)) := fun i hi => by
    rw [hb1.cell (p := ⟨w.heap.size, i, none⟩) (by simp)]
    exact eight_cells w _ _ _ _ _ _ _ _ 36 i hi
  have hbw : Below w.heap.size w w1 := ((Below.refl _ _).alloc (Nat.le_refl _) _).trans (hb1.mono (by simp))
  have hA2 : ∀ k, (convert 33 9 (.slice (some ⟨w.heap.size, 0, none⟩) 4 4)).run Tryd.prog (w1.drewN k) = .ok (.string A) (w1.drewN k) := fun k => by
    rw [← hA]
    exact run_convert_bytes_arg (P := Tryd.prog) _ 33 5 Tryd.underlying33 Tryd.underlying5 w.heap.size 0 4 4 [(a0 : Int), (a1 : Int), (a2 : Int), (a3 : Int)] rfl (fun i hi => by
      have := hcell i (by omega)
      rw [Nat.zero_add]
      rcases (show i = 0 ∨ i = 1 ∨ i = 2 ∨ i = 3 by omega) with rfl | rfl | rfl | rfl <;> simpa using this) 9 Tryd.underlying9
  have hB2 : ∀ k, (convert 33 9 (.slice (some ⟨w.heap.size, 4, none⟩) 4 4)).run Tryd.prog (w1.drewN k) = .ok (.string B) (w1.drewN k) := fun k => by
    rw [← hB]
    exact run_convert_bytes_arg (P := Tryd.prog) _ 33 5 Tryd.underlying33 Tryd.underlying5 w.heap.size 4 4 4 [(b0 : Int), (b1 : Int), (b2 : Int), (b3 : Int)] rfl (fun i hi => by
      have := hcell (4 + i) (by omega)
      rcases (show i = 0 ∨ i = 1 ∨ i = 2 ∨ i = 3 by omega) with rfl | rfl | rfl | rfl <;> simpa using this) 9 Tryd.underlying9
  clear hA hB hcell hb1
  go_quiet (fail)
  go_wp2_with fail
  go_quiet (fail)
  have hb := fun k => below_drewN hbw k
  clear hbw hA2 hB2
  cases i0
  · go_wp2_with (go_at_call 11; with_reducible refine (c11x _ (hb _)).mono ?_; rintro e w2 ⟨rfl, hb1⟩; replace hb := Below.next (hb _) hb1; clear hb1)
    go_wp2_with (first
      | (go_at_call 11; (first | with_reducible refine (c11y _ hb).mono ?_ | with_reducible refine (c11u _ hb).mono ?_); rintro e w2 ⟨rfl, hb1⟩; replace hb := Below.next hb hb1; clear hb1)
      | (go_at_call 14; (first | with_reducible refine (c14a _ hb).mono ?_ | with_reducible refine (c14b _ hb).mono ?_); rintro e w2 ⟨rfl, hb1⟩; replace hb := Below.next hb hb1; clear hb1)
      | (go_at_call 13; with_reducible refine (c13 _ hb).mono ?_; rintro e w2 ⟨rfl, hb1⟩; replace hb := Below.next hb hb1; clear hb1)
      | (go_at_call 8; with_reducible refine (c8 _ hb).mono ?_; rintro e w2 ⟨rfl, hb1⟩; replace hb := Below.next hb hb1; clear hb1))
    go_ret
    exact ⟨rfl, hb⟩
  · have hO' := hO rfl
    clear hO
    go_wp2_with (go_at_call 11; with_reducible refine (c11x _ (hb _)).mono ?_; rintro e w2 ⟨rfl, hb1⟩; replace hb := Below.next (hb _) hb1; clear hb1)
    go_wp2_with (first
      | (go_at_call 11; (first | with_reducible refine (c11y _ hb).mono ?_ | with_reducible refine (c11u _ hb).mono ?_); rintro e w2 ⟨rfl, hb1⟩; replace hb := Below.next hb hb1; clear hb1)
      | (go_at_call 14; (first | with_reducible refine (c14a _ hb).mono ?_ | with_reducible refine (c14b _ hb).mono ?_); rintro e w2 ⟨rfl, hb1⟩; replace hb := Below.next hb hb1; clear hb1)
      | (go_at_call 13; with_reducible refine (c13 _ hb).mono ?_; rintro e w2 ⟨rfl, hb1⟩; replace hb := Below.next hb hb1; clear hb1)
      | (go_at_call 8; with_reducible refine (c8 _ hb).mono ?_; rintro e w2 ⟨rfl, hb1⟩; replace hb := Below.next hb hb1; clear hb1))
    go_ret
    exact ⟨rfl, hb⟩

theorem sum_four {u a b v : List UInt8} (ha : a.length = 4) (hb : b.length = 4) : Plain.sum (u ++ a ++ v) = Plain.sum (u ++ b ++ v) ↔ a = b := by
  constructor
  · intro h
    unfold Plain.sum Plain.more at h
    have h1 := congrArg Plain.turned h
    rw [Plain.turned_turned, Plain.turned_turned, Plain.run_append, Plain.run_append _ (u ++ b), Plain.run_append, Plain.run_append] at h1
    have hr : Plain.run (Plain.turned 0) u < 4294967296 := Plain.run_lt u (Plain.turned_lt (by omega))
    have h2 := Plain.run_inj v (Plain.run_lt a hr) (Plain.run_lt b hr) h1
    rw [Plain.run_four _ _ ha, Plain.run_four _ _ hb] at h2
    have h3 := Plain.many_inj 32 (Plain.xor_lt hr (Plain.num_four_lt a ha)) (Plain.xor_lt hr (Plain.num_four_lt b hb)) h2
    apply Plain.num_inj (by rw [ha, hb])
    have h4 := congrArg (Plain.run (Plain.turned 0) u ^^^ ·) h3
    simpa only [Plain.xor_back] using h4
  · rintro rfl
    rfl

theorem seal_split (u a : ByteArray) (ha : a.size = 4) : isSeal (u ++ a) = decide (sealed u = u ++ a) ∧ (isSeal (u ++ a) = true → opened (u ++ a) = u) := by
  have hs : (u ++ a).size = u.size + 4 := by rw [← ba_length, ba_append, List.length_append, ba_length, ba_length, ha]
  have hbody : body (u ++ a) = u := by
    apply ba_ext
    unfold body
    rw [ba_extract, hs, ba_append]
    simp
  have hlast : last (u ++ a) = a := by
    apply ba_ext
    unfold last
    rw [ba_extract, hs, ba_append]
    rw [show u.size + 4 - 4 = u.data.toList.length by simp, List.drop_left, List.take_of_length_le (by rw [ba_length, ba_length, ha]; omega)]
  constructor
  · unfold isSeal
    rw [hbody, hlast, hs, decide_eq_true (by omega), Bool.true_and]
    rw [Bool.eq_iff_iff, decide_eq_true_eq, decide_eq_true_eq]
    constructor
    · intro h
      rw [h]
      rfl
    · intro h
      apply ba_ext
      have e := congrArg (fun x : ByteArray => x.data.toList) h
      simp only [sealed_list, ba_append] at e
      exact (List.append_cancel_left e).symm
  · intro h
    unfold opened
    rw [if_pos h, hbody]

theorem ba_size_append (a b : ByteArray) : (a ++ b).size = a.size + b.size := by rw [← ba_length, ba_append, List.length_append, ba_length, ba_length]

theorem four_law (s r : ByteArray) (a0 a1 a2 a3 b0 b1 b2 b3 : Nat) (w : World) (hf : Fours w) :
    Calls Tryd.prog 7 #[.string s, .string r, .agg #[.int .u8 a0, .int .u8 a1, .int .u8 a2, .int .u8 a3, .int .u8 b0, .int .u8 b1, .int .u8 b2, .int .u8 b3]] w fun e w' => e = .returned (.bool true) ∧ Below w.heap.size w w' := by
  have hU : (s.extract 0 (min s.size 200)).size = min s.size 200 := by rw [ByteArray.size_extract]; omega
  obtain ⟨U, hUe⟩ : ∃ U, s.extract 0 (min s.size 200) = U := ⟨_, rfl⟩
  rw [hUe] at hU
  have hV : (r.extract 0 (min r.size 200)).size = min r.size 200 := by rw [ByteArray.size_extract]; omega
  obtain ⟨V, hVe⟩ : ∃ V, r.extract 0 (min r.size 200) = V := ⟨_, rfl⟩
  rw [hVe] at hV
  have hA4 : (strOfNums [(a0 : Int), (a1 : Int), (a2 : Int), (a3 : Int)]).size = 4 := strOfNums_size _
  have hB4 : (strOfNums [(b0 : Int), (b1 : Int), (b2 : Int), (b3 : Int)]).size = 4 := strOfNums_size _
  obtain ⟨A, hA⟩ : ∃ A, strOfNums [(a0 : Int), (a1 : Int), (a2 : Int), (a3 : Int)] = A := ⟨_, rfl⟩
  obtain ⟨B, hB⟩ : ∃ B, strOfNums [(b0 : Int), (b1 : Int), (b2 : Int), (b3 : Int)] = B := ⟨_, rfl⟩
  rw [hA] at hA4
  rw [hB] at hB4
  have z1 := ba_size_append U A
  have z2 := ba_size_append U B
  have z3 := ba_size_append U V
  have z4 := ba_size_append (U ++ A) V
  have z5 := ba_size_append (U ++ B) V
  have z6 := ba_size_append (U ++ V) A
  obtain ⟨q1, q2⟩ := seal_split (U ++ V) A hA4
  have big : ∀ x : ByteArray, x.size ≤ 500 → x.size ≤ maxLen := fun x h => by unfold maxLen; omega
  exact four_walk s r U V A B (U ++ A) (U ++ A ++ V) (U ++ B) (U ++ B ++ V) (U ++ V) (U ++ V ++ A) (opened (U ++ V ++ A)) (sealed (U ++ V)) (isSeal (U ++ V ++ A)) (decide (A = B)) a0 a1 a2 a3 b0 b1 b2 b3
    (min s.size 200) (min r.size 200) (Plain.sum (U ++ A ++ V).data.toList) (Plain.sum (U ++ B ++ V).data.toList) (Plain.sum U.data.toList) (Plain.sum (U ++ A).data.toList) w
    (by omega) (by omega) hUe (by omega) (by omega) hVe hA hB rfl rfl rfl rfl rfl rfl (by omega) (by omega) (by omega) (by omega) (by omega) (by omega) (by omega)
    (by
      rw [ba_append, ba_append, ba_append, ba_append]
      have h := sum_four (u := U.data.toList) (v := V.data.toList) (a := A.data.toList) (b := B.data.toList) (by rw [ba_length, hA4]) (by rw [ba_length, hB4])
      rw [Bool.eq_iff_iff, beq_iff_eq, decide_eq_true_eq]
      constructor
      · intro e
        exact ba_ext (h.1 (by omega))
      · rintro rfl
        rfl)
    (toList_beq A B) (by rw [toList_beq, q1]) (fun h => by rw [q2 h, toList_beq, decide_eq_true rfl])
    (fun w0 h => works_any w0 h)
    (fun w0 hb => sum_any _ w0 (hf.below hb) (big _ (by omega)))
    (fun w0 hb => sum_any _ w0 (hf.below hb) (big _ (by omega)))
    (fun w0 hb => sum_any _ w0 (hf.below hb) (big _ (by omega)))
    (fun w0 hb => by
      have h := more_any _ A w0 (hf.below hb) (Plain.sum_lt U.data.toList) (big _ (by omega))
      rw [Plain.more_sum, ← ba_append] at h
      exact h)
    (fun w0 hb => by
      have h := more_any _ V w0 (hf.below hb) (Plain.sum_lt (U ++ A).data.toList) (big _ (by omega))
      rw [Plain.more_sum, ← ba_append] at h
      exact h)
    (fun w0 hb => seal_any _ w0 (hf.below hb) (by omega))
    (fun w0 hb => open_any _ w0 (hf.below hb) (by omega))
    hf

end Go.Proofs.YtfnldhbkablehaaDoor

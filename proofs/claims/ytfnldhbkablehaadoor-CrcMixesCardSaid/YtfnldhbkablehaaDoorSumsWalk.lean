/-
  The walk of CrcSums: it returns true, for every text and cut.
-/
import Derived.Test.YtfnldhbkablehaaDoorProg
import Derived.Test.YtfnldhbkablehaaDoorMath
import Derived.WalkKit
import Derived.WalkSpells
import Derived.WalkLawsBesides
import Derived.Lib.Hide
import Derived.Shelf.Pu.Clone
import Derived.Deep.QuietTactic
import Derived.BigQuiet
import Derived.Lib.QuietBelow
import Derived.Test.YtfnldhbkablehaaDoorWalks1
import Derived.Test.YtfnldhbkablehaaDoorLaws
namespace Go.Proofs.YtfnldhbkablehaaDoor
open Go.RowKit

theorem ba_ext {a b : ByteArray} (h : a.data.toList = b.data.toList) : a = b := ByteArray.ext (Array.toList_inj.1 h)
theorem ba_append (a b : ByteArray) : (a ++ b).data.toList = a.data.toList ++ b.data.toList := by simp
theorem ba_extract (s : ByteArray) (i j : Nat) : (s.extract i j).data.toList = (s.data.toList.drop i).take (j - i) := Lib.extract_data s i j
theorem ba_length (s : ByteArray) : s.data.toList.length = s.size := by simp
theorem sealed_list (s : ByteArray) : (sealed s).data.toList = s.data.toList ++ Plain.four (Plain.sum s.data.toList) := by unfold sealed; rw [ba_append]
theorem sealed_size (s : ByteArray) : (sealed s).size = s.size + 4 := by
  rw [← ba_length, sealed_list, List.length_append, Plain.four_length, ba_length]
theorem body_sealed (s : ByteArray) : body (sealed s) = s := by
  apply ba_ext
  unfold body
  rw [ba_extract, sealed_size, sealed_list]
  simp
theorem last_sealed (s : ByteArray) : last (sealed s) = fourOf s := by
  apply ba_ext
  unfold last
  rw [ba_extract, sealed_size, sealed_list]
  have h := Plain.four_length (Plain.sum s.data.toList)
  simp only [fourOf]
  rw [show s.size + 4 - 4 = s.data.toList.length by simp, List.drop_left, List.take_of_length_le (by rw [h]; simp)]
theorem isSeal_sealed (s : ByteArray) : isSeal (sealed s) = true := by
  unfold isSeal
  rw [last_sealed, body_sealed, sealed_size]
  simp
theorem opened_sealed (s : ByteArray) : opened (sealed s) = s := by
  unfold opened
  rw [if_pos (isSeal_sealed s), body_sealed]
theorem cut_join (s : ByteArray) (k : Nat) : (s.extract 0 k).data.toList ++ (s.extract k s.size).data.toList = s.data.toList := by
  rw [ba_extract, ba_extract, List.drop_zero, Nat.sub_zero, List.take_of_length_le (l := List.drop k _) (by simp), List.take_append_drop]

set_option maxHeartbeats 2000000 in
theorem sums_walk (s T A S U V : ByteArray) (a : Bool) (cut n k N M : Nat) (w : World)
    (hmin : min (s.size : Int) 500 = (n : Int)) (hn : n ≤ s.size) (hT : s.extract 0 n = T) (hTs : T.size ≤ 500) (_hk : k ≤ T.size) (_hcl : cut < 65536) (hcut : (cut : Int) % ((T.size : Int) + 1) = (k : Int))
    (hU : T.extract 0 k = U) (hV : T.extract k T.size = V)
    (c8 : ∀ w0, Below w.heap.size w w0 → Calls Tryd.prog 8 #[.string T] w0 fun e w' => e = .returned (.tuple #[.string A, .bool a]) ∧ Below w0.heap.size w0 w')
    (c9 : ∀ w0, Below w.heap.size w w0 → Calls Tryd.prog 9 #[.string T] w0 fun e w' => e = .returned (.tuple #[.string A, .bool a]) ∧ Below w0.heap.size w0 w')
    (c10 : ∀ w0, Below w.heap.size w w0 → Calls Tryd.prog 10 #[.string T] w0 fun e w' => e = .returned (.string S) ∧ Below w0.heap.size w0 w')
    (c8s : ∀ w0, Below w.heap.size w w0 → Calls Tryd.prog 8 #[.string S] w0 fun e w' => e = .returned (.tuple #[.string T, .bool true]) ∧ Below w0.heap.size w0 w')
    (c11 : ∀ w0, Below w.heap.size w w0 → Calls Tryd.prog 11 #[.string T] w0 fun e w' => e = .returned (.int .u32 (N : Int)) ∧ Below w0.heap.size w0 w')
    (c12 : ∀ w0, Below w.heap.size w w0 → Calls Tryd.prog 12 #[.string T] w0 fun e w' => e = .returned (.int .u32 (N : Int)) ∧ Below w0.heap.size w0 w')
    (c13 : ∀ w0, Below w.heap.size w w0 → Calls Tryd.prog 13 #[.string T] w0 fun e w' => e = .returned (.string S) ∧ Below w0.heap.size w0 w')
    (c11u : ∀ w0, Below w.heap.size w w0 → Calls Tryd.prog 11 #[.string U] w0 fun e w' => e = .returned (.int .u32 (M : Int)) ∧ Below w0.heap.size w0 w')
    (c14 : ∀ w0, Below w.heap.size w w0 → Calls Tryd.prog 14 #[.int .u32 (M : Int), .string V] w0 fun e w' => e = .returned (.int .u32 (N : Int)) ∧ Below w0.heap.size w0 w')
    (c15 : ∀ w0, Below w.heap.size w w0 → Calls Tryd.prog 15 #[] w0 fun e w' => e = .returned (.bool true) ∧ Below w0.heap.size w0 w') :
    Calls Tryd.prog 3 #[.string s, .int .u16 cut] w fun e w' => e = .returned (.bool true) ∧ Below w.heap.size w w' := by
  have hb := Below.refl w.heap.size w
  go_enter Tryd.func3, Tryd.ntmps3
  go_wp2_with (first
    | (go_at_call 8; (first | with_reducible refine (c8 _ hb).mono ?_ | with_reducible refine (c8s _ hb).mono ?_); rintro e w1 ⟨rfl, hb1⟩; replace hb := Below.next hb hb1; clear hb1)
    | (go_at_call 9; with_reducible refine (c9 _ hb).mono ?_; rintro e w1 ⟨rfl, hb1⟩; replace hb := Below.next hb hb1; clear hb1)
    | (go_at_call 10; with_reducible refine (c10 _ hb).mono ?_; rintro e w1 ⟨rfl, hb1⟩; replace hb := Below.next hb hb1; clear hb1))
  have q11 := quiet_call (w := w1) fun w0 h => c11 w0 (Below.next hb h)
  have q12 := quiet_call (w := w1) fun w0 h => c12 w0 (Below.next hb h)
  have q13 := quiet_call (w := w1) fun w0 h => c13 w0 (Below.next hb h)
  have q10 := quiet_call (w := w1) fun w0 h => c10 w0 (Below.next hb h)
  have q11u := quiet_call (w := w1) fun w0 h => c11u w0 (Below.next hb h)
  have q14 := quiet_call (w := w1) fun w0 h => c14 w0 (Below.next hb h)
  have q15 := quiet_call (w := w1) fun w0 h => c15 w0 (Below.next hb h)
  clear c8 c9 c10 c8s c11 c12 c13 c11u c14 c15
  refine wp_region_quiet_below (by kernel_rfl) (by kernel_rfl) ?_
  repeat (quiet_step (first
    | (go_at_call 11; (first | with_reducible exact q11 _ _ | with_reducible exact q11u _ _))
    | (go_at_call 12; with_reducible exact q12 _ _)
    | (go_at_call 13; with_reducible exact q13 _ _)
    | (go_at_call 10; with_reducible exact q10 _ _)
    | (go_at_call 14; with_reducible exact q14 _ _)
    | (go_at_call 15; with_reducible exact q15 _ _)))
  refine wpQuiet_nil ?_
  intro _ hw'
  obtain ⟨⟨dq, osq⟩, hw''⟩ := hw'
  subst hw''
  go_wp2_with fail
  go_ret
  exact ⟨rfl, Below.next hb (below_regrown _ _ _)⟩

theorem sums_any (s : ByteArray) (cut : Nat) (w : World) (hf : Fours w) (hc : cut < 65536) :
    Calls Tryd.prog 3 #[.string s, .int .u16 cut] w fun e w' => e = .returned (.bool true) ∧ Below w.heap.size w w' := by
  have hT : (s.extract 0 (min s.size 500)).size = min s.size 500 := by rw [ByteArray.size_extract]; omega
  obtain ⟨T, hTe⟩ : ∃ T, s.extract 0 (min s.size 500) = T := ⟨_, rfl⟩
  rw [hTe] at hT
  have hTm : T.size ≤ maxLen := by unfold maxLen; omega
  have hk : cut % (T.size + 1) ≤ T.size := by have := Nat.mod_lt cut (show T.size + 1 > 0 by omega); omega
  have hU : (T.extract 0 (cut % (T.size + 1))).size ≤ maxLen := by rw [ByteArray.size_extract]; unfold maxLen; omega
  have hV : (T.extract (cut % (T.size + 1)) T.size).size ≤ maxLen := by rw [ByteArray.size_extract]; unfold maxLen; omega
  have hm : Plain.more (Plain.sum (T.extract 0 (cut % (T.size + 1))).data.toList) (T.extract (cut % (T.size + 1)) T.size).data.toList = Plain.sum T.data.toList := by
    rw [Plain.more_sum, cut_join T _]
  exact sums_walk s T (opened T) (sealed T) (T.extract 0 (cut % (T.size + 1))) (T.extract (cut % (T.size + 1)) T.size) (isSeal T) cut (min s.size 500) (cut % (T.size + 1)) (Plain.sum T.data.toList) (Plain.sum (T.extract 0 (cut % (T.size + 1))).data.toList) w
    (by omega) (by omega) hTe (by omega) hk hc (by simp) rfl rfl
    (fun w0 hb => open_any T w0 (hf.below hb) (by omega)) (fun w0 _ => refOpen_any T w0 (by omega)) (fun w0 _ => refSeal_any T w0 (by omega))
    (fun w0 hb => by
      have h := open_any (sealed T) w0 (hf.below hb) (by rw [sealed_size]; omega)
      rw [opened_sealed, isSeal_sealed] at h
      exact h)
    (fun w0 hb => sum_any T w0 (hf.below hb) hTm) (fun w0 _ => refSum_below T w0 hTm) (fun w0 hb => seal_any T w0 (hf.below hb) (by omega))
    (fun w0 hb => sum_any _ w0 (hf.below hb) hU)
    (fun w0 hb => by
      have h := more_any _ _ w0 (hf.below hb) (Plain.sum_lt (T.extract 0 (cut % (T.size + 1))).data.toList) hV
      rw [hm] at h
      exact h)
    (fun w0 hb => works_any w0 (hf.below hb))

end Go.Proofs.YtfnldhbkablehaaDoor

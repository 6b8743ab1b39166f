/-
  The walk of FrameKnown.
-/
import Derived.Test.YtnndabjhdhnleaaDoorFWorks
import Derived.Test.YtnndabjhdhnleaaDoorFMath2
import Derived.Test.YtnndabjhdhnleaaDoorFIs
import Derived.Test.YtnndabjhdhnleaaDoorShelf
namespace Go.Proofs.YtnndabjhdhnleaaDoor
open Go.RowKit

def manyX (n : Nat) : ByteArray := ⟨(List.replicate n 120).toArray⟩

theorem manyX_size (n : Nat) : (manyX n).size = n := by rw [← ba_length]; simp [manyX]

theorem repeat_x (w : World) : Calls Tryd.prog 18 #[.string ⟨#[120]⟩, .int .i64 300] w fun e w' => e = .returned (.string (manyX 300)) ∧ Below w.heap.size w w' := by
  have := Tryd.strings_Repeat ⟨#[120]⟩ 300 w (by decide) (by decide)
  refine this.mono ?_
  rintro e w' ⟨rfl, hb⟩
  exact ⟨by rw [show Lib.repeatL (ByteArray.mk #[120]).data.toList 300 = List.replicate 300 120 by kernel_rfl]; rfl, hb⟩

theorem get_301 (r : ByteArray) : fget (⟨#[249, 45, 1]⟩ ++ r) 0 = (⟨#[]⟩, 0, 4) := by
  have hl : (⟨#[249, 45, 1]⟩ ++ r : ByteArray).data.toList = Plain.enc 301 ++ r.data.toList := by
    rw [ba_append, show Plain.enc 301 = [249, 45, 1] by kernel_rfl]
  have hsz : (⟨#[249, 45, 1]⟩ ++ r : ByteArray).size = 3 + r.size := ba_size_append _ _
  have hg : Plain.get (⟨#[249, 45, 1]⟩ ++ r : ByteArray).data.toList 0 = (301, 3, 0) := by
    have := Plain.get_at (s := (⟨#[249, 45, 1]⟩ ++ r : ByteArray).data.toList) (k := 0) (by rw [ba_length]; omega)
    rw [show ((0 : Nat) : Int) = 0 from rfl, List.drop_zero, hl, Plain.getL_enc (by omega)] at this
    rw [hl, this]
    rfl
  exact fget_long (by omega) (by omega) hg rfl

set_option maxRecDepth 100000 in
set_option maxHeartbeats 4000000 in
theorem known_walk (L A X1 L1 AB S2 T0 T1 T : ByteArray) (w : World) (hF : Fours w) (hL : L.size = 300) (hA : A.size = 307) (hX1 : X1 = ⟨#[120]⟩) (hL1 : L ++ X1 = L1) (hAB : AB = ⟨#[97, 98]⟩) (hS2 : AB ++ A = S2) (hT0 : T0 = ⟨#[249, 45, 1]⟩) (hT1 : T0 ++ L = T1) (hT1s : T1.size = 303) (hT : T1 ++ L = T) (hA3 : A.extract 0 3 = ⟨#[249, 44, 1]⟩)
    (p18 : Calls Tryd.prog 18 #[.string X1, .int .i64 300] w fun e w' => e = .returned (.string L) ∧ Below w.heap.size w w')
    (p8a : ∀ w, Fours w → Calls Tryd.prog 8 #[.string L] w fun e w' => e = .returned (.tuple #[.string A, .int .i64 0]) ∧ Below w.heap.size w w')
    (p8b : ∀ w, Fours w → Calls Tryd.prog 8 #[.string L1] w fun e w' => e = .returned (.tuple #[.string ⟨#[]⟩, .int .i64 4]) ∧ Below w.heap.size w w')
    (p8c : ∀ w, Fours w → Calls Tryd.prog 8 #[.string ⟨#[]⟩] w fun e w' => e = .returned (.tuple #[.string ⟨#[]⟩, .int .i64 4]) ∧ Below w.heap.size w w')
    (g1 : ∀ w, Fours w → Calls Tryd.prog 16 #[.string S2, .int .i64 2] w fun e w' => e = .returned (.tuple #[.string L, .int .i64 309, .int .i64 0]) ∧ Below w.heap.size w w')
    (g2 : ∀ w, Fours w → Calls Tryd.prog 16 #[.string A, .int .i64 (-1)] w fun e w' => e = .returned (.tuple #[.string ⟨#[]⟩, .int .i64 (-1), .int .i64 2]) ∧ Below w.heap.size w w')
    (g3 : ∀ w, Fours w → Calls Tryd.prog 16 #[.string A, .int .i64 308] w fun e w' => e = .returned (.tuple #[.string ⟨#[]⟩, .int .i64 308, .int .i64 2]) ∧ Below w.heap.size w w')
    (g4 : ∀ w, Fours w → Calls Tryd.prog 16 #[.string A, .int .i64 307] w fun e w' => e = .returned (.tuple #[.string ⟨#[]⟩, .int .i64 307, .int .i64 9]) ∧ Below w.heap.size w w')
    (r1 : ∀ w, Fours w → Calls Tryd.prog 17 #[.string T, .int .i64 4] w fun e w' => e = .returned (.bool true) ∧ Below w.heap.size w w')
    (r2 : ∀ w, Fours w → Calls Tryd.prog 17 #[.string ⟨#[248]⟩, .int .i64 3] w fun e w' => e = .returned (.bool true) ∧ Below w.heap.size w w')
    (r3 : ∀ w, Fours w → Calls Tryd.prog 17 #[.string ⟨#[5, 97, 98, 99]⟩, .int .i64 3] w fun e w' => e = .returned (.bool true) ∧ Below w.heap.size w w')
    (r4 : ∀ w, Fours w → Calls Tryd.prog 17 #[.string ⟨#[1, 97, 0, 0, 0]⟩, .int .i64 3] w fun e w' => e = .returned (.bool true) ∧ Below w.heap.size w w')
    (z1 : ∀ w, Calls Tryd.prog 10 #[.string ⟨#[]⟩] w fun e w' => e = .returned (.int .i64 0) ∧ w = w')
    (z2 : ∀ w, Calls Tryd.prog 10 #[.string L] w fun e w' => e = .returned (.int .i64 307) ∧ w = w')
    (z3 : ∀ w, Calls Tryd.prog 10 #[.string L1] w fun e w' => e = .returned (.int .i64 0) ∧ w = w')
    (z4 : ∀ w, Calls Tryd.prog 10 #[.string ⟨#[97, 98, 99]⟩] w fun e w' => e = .returned (.int .i64 8) ∧ w = w') :
    Calls Tryd.prog 6 #[] w fun e w' => e = .returned (.bool true) ∧ Below w.heap.size w w' := by
  subst hX1 hAB hT0
  have p13 := fworks_any
  have HF := Lib.hid hF; clear hF
  go_enter Tryd.func6, Tryd.ntmps6
  go_wp2_with (first
    | (go_at_call 18; go_must (with_reducible refine p18.mono ?_); rintro e w1 ⟨rfl, hb⟩; clear p18)
    | (go_at_call 8; (first | (with_reducible refine (p8a _ (HF.out.below hb)).mono ?_) | (with_reducible refine (p8b _ (HF.out.below hb)).mono ?_) | (with_reducible refine (p8c _ (HF.out.below hb)).mono ?_)); rintro e w2 ⟨rfl, hb2⟩; replace hb := Below.next hb hb2; clear hb2)
    | (go_at_call 16; (first | (with_reducible refine (g1 _ (HF.out.below hb)).mono ?_) | (with_reducible refine (g2 _ (HF.out.below hb)).mono ?_) | (with_reducible refine (g3 _ (HF.out.below hb)).mono ?_) | (with_reducible refine (g4 _ (HF.out.below hb)).mono ?_)); rintro e w3 ⟨rfl, hb3⟩; replace hb := Below.next hb hb3; clear hb3)
    | (go_at_call 13; go_must (with_reducible refine (p13 _ (HF.out.below hb)).mono ?_); rintro e w4 ⟨rfl, hb4⟩; replace hb := Below.next hb hb4; clear hb4)
    | (go_at_call 17; (first | (with_reducible refine (r1 _ (HF.out.below hb)).mono ?_) | (with_reducible refine (r2 _ (HF.out.below hb)).mono ?_) | (with_reducible refine (r3 _ (HF.out.below hb)).mono ?_) | (with_reducible refine (r4 _ (HF.out.below hb)).mono ?_)); rintro e w5 ⟨rfl, hb5⟩; replace hb := Below.next hb hb5; clear hb5)
    | (go_at_call 10; (first | (with_reducible refine (z1 _).mono ?_) | (with_reducible refine (z2 _).mono ?_) | (with_reducible refine (z3 _).mono ?_) | (with_reducible refine (z4 _).mono ?_)); rintro e w6 ⟨rfl, rfl⟩))
  go_ret
  exact ⟨rfl, hb⟩

theorem frame_300 : (frameOf (manyX 300)).size = 307 := by rw [frameOf_size, manyX_size]; kernel_rfl

theorem frame_300_head : (frameOf (manyX 300)).extract 0 3 = ⟨#[249, 44, 1]⟩ := by
  apply ba_ext
  rw [ex_list, frameOf_list, manyX_size, show Plain.enc 300 = [249, 44, 1] by kernel_rfl]
  simp

theorem known_any (w : World) (hF : Fours w) : Calls Tryd.prog 6 #[] w fun e w' => e = .returned (.bool true) ∧ Below w.heap.size w w' := by
  have h300 := manyX_size 300
  have hfit : fits (manyX 300).size = true := by rw [h300]; rfl
  have h301 : (manyX 300 ++ ⟨#[120]⟩ : ByteArray).size = 301 := by rw [ba_size_append, h300]; rfl
  have hfit1 : fits (manyX 300 ++ ⟨#[120]⟩ : ByteArray).size = false := by rw [h301]; rfl
  have hA := frame_300
  have hAB : (⟨#[97, 98]⟩ ++ frameOf (manyX 300) : ByteArray).size = 309 := by rw [ba_size_append, hA]; rfl
  have hT1 : (⟨#[249, 45, 1]⟩ ++ manyX 300 : ByteArray).size = 303 := by rw [ba_size_append, h300]; rfl
  have hT : (⟨#[249, 45, 1]⟩ ++ manyX 300 ++ manyX 300 : ByteArray) = ⟨#[249, 45, 1]⟩ ++ (manyX 300 ++ manyX 300) := ByteArray.append_assoc
  have hTs : (⟨#[249, 45, 1]⟩ ++ manyX 300 ++ manyX 300 : ByteArray).size = 603 := by rw [ba_size_append, hT1, h300]
  refine known_walk (manyX 300) (frameOf (manyX 300)) _ _ _ _ _ _ _ w hF h300 hA rfl rfl rfl rfl rfl rfl hT1 rfl frame_300_head (repeat_x w)
    (fput_fits _ _ (by omega) hfit rfl) (fput_not _ (by omega) hfit1) (fput_not _ (by decide) rfl)
    (fget_is _ _ _ _ _ 0 rfl (by omega) ?_) (fget_is _ _ _ _ _ 2 rfl (by omega) (fget_out (by omega))) (fget_is _ _ _ _ _ 2 rfl (by omega) (fget_out (by omega))) (fget_is _ _ _ _ _ 9 rfl (by omega) (fget_end (by omega)))
    (fun w1 => freads_lit _ 4 4 rfl (by omega) ?_ w1) (freads_lit _ 3 3 rfl (by decide) (by kernel_rfl)) (freads_lit _ 3 3 rfl (by decide) (by kernel_rfl)) (freads_lit _ 3 3 rfl (by decide) (by kernel_rfl))
    (fsize_is _ 0 (by decide) (by kernel_rfl) _ rfl) (fsize_is _ 307 (by omega) ?_ _ rfl) (fsize_is _ 0 (by omega) ?_ _ rfl) (fsize_is _ 8 (by decide) (by kernel_rfl) _ rfl)
  · have h1 := fget_move ⟨#[97, 98]⟩ (frameOf (manyX 300)) 0 (Nat.zero_le _)
    have h2 := fget_frame (manyX 300) ⟨#[]⟩ hfit
    rw [show frameOf (manyX 300) ++ (⟨#[]⟩ : ByteArray) = frameOf (manyX 300) from ByteArray.append_empty, hA] at h2
    rw [show ((0 : Nat) : Int) = 0 from rfl, h2] at h1
    exact h1
  · rw [hT]; exact get_301 _
  · rw [hfit, h300]; kernel_rfl
  · rw [hfit1]; rfl
end Go.Proofs.YtnndabjhdhnleaaDoor

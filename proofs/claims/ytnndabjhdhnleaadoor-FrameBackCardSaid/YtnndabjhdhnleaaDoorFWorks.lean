/-
  The walks of the statements' reads and works, for package frame.
-/
import Derived.Test.YtnndabjhdhnleaaDoorFAll
namespace Go.Proofs.YtnndabjhdhnleaaDoor
open Go.RowKit

set_option maxHeartbeats 400000 in
theorem freads_true (s : ByteArray) (x : Nat) (w : World) (hF : Fours w) (hs : s.size ≤ 1000000) (h : fget s 0 = (⟨#[]⟩, 0, x)) :
    Calls Tryd.prog 17 #[.string s, .int .i64 (x : Int)] w fun e w' => e = .returned (.bool true) ∧ Below w.heap.size w w' := by
  have q16 := fget_any s 0 w hF hs
  rw [h] at q16
  unfold fgotten at q16
  clear h
  go_enter Tryd.func17, Tryd.ntmps17
  go_wp2_with (go_at_call 16; go_must (with_reducible refine q16.mono ?_); rintro e w1 ⟨rfl, hb1⟩)
  go_ret
  exact ⟨rfl, hb1⟩

theorem freads_lit (s : ByteArray) (x : Nat) (y : Int) (hy : (x : Int) = y) (hs : s.size ≤ 1000000) (h : fget s 0 = (⟨#[]⟩, 0, x)) (w : World) (hF : Fours w) :
    Calls Tryd.prog 17 #[.string s, .int .i64 y] w fun e w' => e = .returned (.bool true) ∧ Below w.heap.size w w' := hy ▸ freads_true s x w hF hs h

set_option maxHeartbeats 2000000 in
theorem fworks_any (w : World) (hF : Fours w) : Calls Tryd.prog 13 #[] w fun e w' => e = .returned (.bool true) ∧ Below w.heap.size w w' := by
  have p8 : Calls Tryd.prog 8 #[.string ⟨#[97]⟩] w fun e w' => e = .returned (.tuple #[.string ⟨#[1, 97, 112, 114, 119, 98]⟩, .int .i64 0]) ∧ Below w.heap.size w w' := by
    have := fput_any ⟨#[97]⟩ w hF (by decide)
    rw [show fits (ByteArray.size ⟨#[97]⟩) = true by kernel_rfl, show frameOf ⟨#[97]⟩ = ⟨#[1, 97, 112, 114, 119, 98]⟩ by kernel_rfl] at this
    exact this
  have p14 : ∀ w1, Below w.heap.size w w1 → Calls Tryd.prog 14 #[.string ⟨#[]⟩] w1 fun e w' => ∃ ad c, e = .returned (.tuple #[.slice ad 0 c, .int .i64 0, .int .i64 0]) ∧ Below w1.heap.size w1 w' := fun w1 h1 => by
    refine (fall_any ⟨#[]⟩ w1 (hF.below h1) (by decide)).mono ?_
    rintro e w' ⟨v, he, ⟨ad, c, hv, _⟩, hb⟩
    rw [show fall ⟨#[]⟩ = ([], 0, 0) by kernel_rfl] at he hv
    exact ⟨ad, c, by rw [he, hv]; rfl, hb⟩
  have g1 := freads_lit ⟨#[1, 97, 0, 0, 0, 0]⟩ 16 16 rfl (by decide) (by kernel_rfl)
  have g2 := freads_lit ⟨#[0]⟩ 4 4 rfl (by decide) (by kernel_rfl)
  have g3 := freads_lit ⟨#[248, 1]⟩ 5 5 rfl (by decide) (by kernel_rfl)
  have g4 := freads_lit ⟨#[250, 0, 0]⟩ 3 3 rfl (by decide) (by kernel_rfl)
  have e2 : (ByteArray.mk #[1, 97, 112, 114, 119, 98]).extract 0 2 = ⟨#[1, 97]⟩ := by kernel_rfl
  go_enter Tryd.func13, Tryd.ntmps13
  go_wp2_with (first
    | (go_at_call 8; go_must (with_reducible refine p8.mono ?_); rintro e w1 ⟨rfl, hb⟩)
    | (go_at_call 14; go_must (with_reducible refine (p14 _ hb).mono ?_); rintro e w2 ⟨ad, c, rfl, hb2⟩; replace hb := Below.next hb hb2; clear hb2)
    | (go_at_call 17; (first | (with_reducible refine (g1 _ (hF.below hb)).mono ?_) | (with_reducible refine (g2 _ (hF.below hb)).mono ?_) | (with_reducible refine (g3 _ (hF.below hb)).mono ?_) | (with_reducible refine (g4 _ (hF.below hb)).mono ?_)); rintro e w3 ⟨rfl, hb3⟩; replace hb := Below.next hb hb3; clear hb3))
  go_ret
  exact ⟨rfl, hb⟩
end Go.Proofs.YtnndabjhdhnleaaDoor

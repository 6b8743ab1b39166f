/-
  Contracts at rows that the code writes out, right behind their making; near, as the statements ask it.
-/
import Derived.Test.YtmciflpabnfeiaaWSorted
import Derived.Test.YtmciflpabnfeiaaShelf
namespace Go.Proofs.Ytmciflpabnfeiaa
open Go.RowKit

/-- What has just been written out. -/
theorem strs_lit (l : List ByteArray) (W : World) : Strs (W.alloc (.cells (strs l).toArray 9)) (.slice (some ⟨W.heap.size, 0, none⟩) l.length l.length) l := by
  refine ⟨_, _, rfl, fun i hi => ⟨_, _, rfl, ?_⟩⟩
  rw [World.cell?_alloc_at (hn := rfl)]
  simp [strs, hi, List.getD]

theorem chk_lit (l : List ByteArray) (r : Nat) (hr : checkT l = r) (hl : Short l) (hlen : l.length ≤ 1000) (W : World) :
    Calls Try.prog 9 #[.slice (some ⟨W.heap.size, 0, none⟩) l.length l.length] (W.alloc (.cells (strs l).toArray 9)) fun e w' => e = .returned (.int .i64 (r : Int)) ∧ Below W.heap.size W w' := by
  refine (check_any l _ _ (strs_lit l W) hl (by omega)).mono ?_
  rintro e w' ⟨rfl, rfl⟩
  exact ⟨by rw [hr], below_alloc' (Below.refl _ _)⟩

theorem rise_lit (l : List ByteArray) (r : Bool) (hr : risingT l = r) (hlen : l.length ≤ 1000) (W : World) :
    Calls Try.prog 12 #[.slice (some ⟨W.heap.size, 0, none⟩) l.length l.length] (W.alloc (.cells (strs l).toArray 9)) fun e w' => e = .returned (.bool r) ∧ Below W.heap.size W w' := by
  refine (rising_any l _ _ (strs_lit l W) (by omega)).mono ?_
  rintro e w' ⟨rfl, hb⟩
  exact ⟨by rw [hr], Below.next (below_alloc' (Below.refl _ _)) hb⟩

theorem shared_lit (l : List ByteArray) (r : Nat) (hr : allSharedT l = r) (hl : Short l) (hlen : l.length ≤ 1000) (W : World) :
    Calls Try.prog 14 #[.slice (some ⟨W.heap.size, 0, none⟩) l.length l.length] (W.alloc (.cells (strs l).toArray 9)) fun e w' => e = .returned (.int .i64 (r : Int)) ∧ Below W.heap.size W w' := by
  refine (shared_any l _ _ (strs_lit l W) hl (by omega)).mono ?_
  rintro e w' ⟨rfl, hb⟩
  exact ⟨by rw [hr], Below.next (below_alloc' (Below.refl _ _)) hb⟩

theorem near_true (l : List ByteArray) (v : Value) (x : ByteArray) (w : World) (n : Nat) (is : Bool) (hr : risingT l = true) (hv : Strs w v l) (hlen : l.length ≤ 1000) (hn : placeT l x = n) (hi : inT l x = is) :
    Calls Try.prog 23 #[v, .string x, .int .i64 (n : Int), .bool is] w fun e w' => e = .returned (.bool true) ∧ w = w' := by
  have q16 := near_any l v x w hr hv (by omega)
  unfold nearAns at q16
  rw [hn, hi] at q16
  have g1 : ((n : Int) == (n : Int)) = true := by simp
  obtain ⟨ad, c, rfl, _⟩ := hv
  clear hn hi hr
  cases is
  all_goals
    go_enter Try.func23, Try.ntmps23
    go_wp2_with (go_at_call 16; go_must (with_reducible refine q16.mono ?_); rintro e w1 ⟨rfl, rfl⟩)
    go_ret
    exact ⟨rfl, rfl⟩

theorem near_lit (l : List ByteArray) (x : ByteArray) (n : Nat) (is : Bool) (hr : risingT l = true) (hn : placeT l x = n) (hi : inT l x = is) (hlen : l.length ≤ 1000) (W : World) :
    Calls Try.prog 23 #[.slice (some ⟨W.heap.size, 0, none⟩) l.length l.length, .string x, .int .i64 (n : Int), .bool is] (W.alloc (.cells (strs l).toArray 9)) fun e w' => e = .returned (.bool true) ∧ Below W.heap.size W w' := by
  refine (near_true l _ x _ n is hr (strs_lit l W) hlen hn hi).mono ?_
  rintro e w' ⟨rfl, rfl⟩
  exact ⟨rfl, below_alloc' (Below.refl _ _)⟩

theorem less_is (a b : ByteArray) (r : Bool) (h : lessT a b = r) (w : World) : Calls Try.prog 18 #[.string a, .string b] w fun e w' => e = .returned (.bool r) ∧ w = w' := by
  rw [← h]; exact less_any a b w

theorem rep_is (b : UInt8) (n : Nat) (hn : n ≤ 1000) (w : World) : Calls Try.prog 22 #[.string ⟨#[b]⟩, .int .i64 (n : Int)] w fun e w' => e = .returned (.string ⟨(List.replicate n b).toArray⟩) ∧ Below w.heap.size w w' := by
  refine (Try.strings_Repeat ⟨#[b]⟩ n w (by omega) (by show 1 * n ≤ _; omega)).mono ?_
  rintro e w' ⟨rfl, hb⟩
  refine ⟨?_, hb⟩
  have e : ∀ m, Lib.repeatL (ByteArray.mk #[b]).data.toList m = List.replicate m b := by
    intro m
    induction m with
    | zero => rfl
    | succ m ih => simp [Lib.repeatL, ih, List.replicate_succ]
  rw [e]

theorem wordT_rep (b : UInt8) (n : Nat) : wordT ⟨(List.replicate n b).toArray⟩ = decide (1 ≤ n ∧ n ≤ 255) := by
  unfold wordT Plain.isWord
  simp
end Go.Proofs.Ytmciflpabnfeiaa

import Derived.Test.YtfnldhbkablehaaDoorProg
import Derived.Test.YtfnldhbkablehaaDoorMath
import Derived.WalkKit
import Derived.WalkSpells
import Derived.WalkLawsBesides
import Derived.Lib.Hide
import Derived.Shelf.Pu.Clone
import Derived.Deep.QuietTactic
import Derived.BigQuiet
import Derived.Lib.QuietBelow
import Derived.Test.YtfnldhbkablehaaDoorWalks1
namespace Go.Proofs.YtfnldhbkablehaaDoor
open Go.RowKit

/-- What is ahead of the last four bytes; these. -/
def body (s : ByteArray) : ByteArray := s.extract 0 (s.size - 4)
def last (s : ByteArray) : ByteArray := s.extract (s.size - 4) s.size
def fourOf (s : ByteArray) : ByteArray := ⟨(Plain.four (Plain.sum s.data.toList)).toArray⟩
def isSeal (s : ByteArray) : Bool := decide (4 ≤ s.size) && decide (last s = fourOf (body s))
def opened (s : ByteArray) : ByteArray := if isSeal s = true then body s else ⟨#[]⟩

theorem quiet_call {f : FuncId} {args : Array Value} {v : Value} {w : World} (h : ∀ w0, Below w.heap.size w w0 → Calls Tryd.prog f args w0 fun e w' => e = .returned v ∧ Below w0.heap.size w0 w') (d : Nat) (os : Array Obj) :
    Calls Tryd.prog f args (Sort.grow (redrawn w d) os) fun e w'' => e = .returned v ∧ ∃ p : Regrown, w'' = Sort.grow (redrawn w p.d) p.os := Calls.regrown_of (h _ (below_regrown w d os))

set_option maxHeartbeats 400000 in
theorem open_short (s : ByteArray) (w : World) (h : s.size < 4) :
    Calls Tryd.prog 8 #[.string s] w fun e w' => e = .returned (.tuple #[.string ⟨#[]⟩, .bool false]) ∧ Below w.heap.size w w' := by
  have h1 : (s.size : Int) - 4 < 0 := by omega
  have h2 : (s.size : Int) < 4 := by omega
  go_enter Tryd.func8, Tryd.ntmps8
  go_wp2
  go_quiet (fail)
  go_wp2
  go_ret2
  exact ⟨rfl, below_drewN (Below.refl _ _) _⟩

set_option maxHeartbeats 400000 in
theorem open_walk (s B L F : ByteArray) (k N : Nat) (w : World) (h1 : (s.size : Int) - 4 = (k : Int)) (_h2 : k ≤ s.size) (_h3 : k ≤ 281474976710656) (hB : s.extract 0 k = B) (hL : s.extract k s.size = L) (b : Bool) (hb : (L.toList == F.toList) = b)
    (cS : ∀ d os, Calls Tryd.prog 11 #[.string B] (Sort.grow (redrawn w d) os) fun e w'' => e = .returned (.int .u32 (N : Int)) ∧ ∃ p : Regrown, w'' = Sort.grow (redrawn w p.d) p.os)
    (cT : ∀ d os, Calls Tryd.prog 17 #[.int .u32 (N : Int)] (Sort.grow (redrawn w d) os) fun e w'' => e = .returned (.string F) ∧ ∃ p : Regrown, w'' = Sort.grow (redrawn w p.d) p.os)
    (cC : ∀ d os, Calls Tryd.prog 18 #[.string B] (Sort.grow (redrawn w d) os) fun e w'' => e = .returned (.string B) ∧ ∃ p : Regrown, w'' = Sort.grow (redrawn w p.d) p.os) :
    Calls Tryd.prog 8 #[.string s] w fun e w' => e = .returned (.tuple #[.string (if b = true then B else ⟨#[]⟩), .bool b]) ∧ Below w.heap.size w w' := by
  go_enter Tryd.func8, Tryd.ntmps8
  go_wp2
  refine wp_region_quiet_below (by kernel_rfl) (by kernel_rfl) ?_
  repeat (quiet_step (first | (go_at_call 11; with_reducible exact cS _ _) | (go_at_call 17; with_reducible exact cT _ _)))
  refine wpQuiet_nil ?_
  intro _ hw'
  obtain ⟨⟨dq, osq⟩, hw''⟩ := hw'
  subst hw''
  cases b
  · go_wp2_with fail
    · go_ret2
      exact ⟨rfl, below_regrown w dq osq⟩
    · have h : 0 ≤ (k : Int) ∧ (!false) = false := by assumption
      exact absurd h.2 (by decide)
  · go_wp2_with (go_at_call 18; go_must (refine (cC _ _).mono ?_); rintro e w' ⟨rfl, ⟨⟨dq2, osq2⟩, rfl⟩⟩)
    · have h : (k : Int) < 0 ∨ (!true) = true := by assumption
      rcases h with h | h
      · omega
      · exact absurd h (by decide)
    · go_ret2
      exact ⟨rfl, below_regrown w dq2 osq2⟩

theorem toList_beq (a b : ByteArray) : (a.toList == b.toList) = decide (a = b) := by
  rw [ByteArray.toList_eq, ByteArray.toList_eq, Bool.eq_iff_iff, beq_iff_eq, decide_eq_true_eq]
  constructor
  · intro h
    exact ByteArray.ext (Array.toList_inj.1 h)
  · rintro rfl; rfl

theorem open_any (s : ByteArray) (w : World) (hf : Fours w) (hs : s.size ≤ 281474976710656) :
    Calls Tryd.prog 8 #[.string s] w fun e w' => e = .returned (.tuple #[.string (opened s), .bool (isSeal s)]) ∧ Below w.heap.size w w' := by
  by_cases h : s.size < 4
  · have h1 : isSeal s = false := by unfold isSeal; simp; omega
    unfold opened
    rw [h1]
    exact open_short s w h
  · have h1 : isSeal s = decide (last s = fourOf (body s)) := by unfold isSeal; rw [decide_eq_true (by omega), Bool.true_and]
    have hb : (body s).size ≤ maxLen := by unfold body maxLen; rw [ByteArray.size_extract]; omega
    have hc : (body s).size ≤ 281474976710656 := by unfold body; rw [ByteArray.size_extract]; omega
    exact open_walk s (body s) (last s) (fourOf (body s)) (s.size - 4) (Plain.sum (body s).data.toList) w (by omega) (by omega) (by omega) rfl rfl (isSeal s) (by rw [h1, toList_beq])
      (quiet_call fun w0 hb0 => sum_any (body s) w0 (hf.below hb0) hb)
      (quiet_call fun w0 _ => tail_any (Plain.sum (body s).data.toList) w0 (Plain.sum_lt _))
      (quiet_call fun w0 _ => clone_any (body s) w0 hc)

theorem refSum_below (s : ByteArray) (w : World) (hs : s.size ≤ maxLen) :
    Calls Tryd.prog 12 #[.string s] w fun e w' => e = .returned (.int .u32 ((Plain.sum s.data.toList : Nat) : Int)) ∧ Below w.heap.size w w' :=
  (refSum_any s w hs).mono fun _ _ ⟨he, hw⟩ => ⟨he, hw ▸ Below.refl _ _⟩

set_option maxHeartbeats 400000 in
theorem refSeal_any (s : ByteArray) (w : World) (hs : s.size ≤ 281474976710656) :
    Calls Tryd.prog 10 #[.string s] w fun e w' => e = .returned (.string (sealed s)) ∧ Below w.heap.size w w' := by
  have hm : s.size ≤ maxLen := by unfold maxLen; omega
  have hcat : s.size + (Plain.four (Plain.sum s.data.toList)).length ≤ 9223372036854775807 := by rw [Plain.four_length]; omega
  go_enter Tryd.func10, Tryd.ntmps10
  go_wp2_with (first | (go_at_call 12; go_must (refine (refSum_any s _ hm).mono ?_); rintro e w1 ⟨rfl, rfl⟩) | (go_at_call 19; go_must (refine (four_any _ _ (Plain.sum_lt _)).mono ?_); rintro e w2 ⟨rfl, hb2⟩))
  go_ret
  exact ⟨rfl, hb2⟩

set_option maxHeartbeats 400000 in
theorem refOpen_short (s : ByteArray) (w : World) (h : s.size < 4) :
    Calls Tryd.prog 9 #[.string s] w fun e w' => e = .returned (.tuple #[.string ⟨#[]⟩, .bool false]) ∧ Below w.heap.size w w' := by
  have h1 : (s.size : Int) - 4 < 0 := by omega
  have h2 : (s.size : Int) < 4 := by omega
  go_enter Tryd.func9, Tryd.ntmps9
  go_wp2
  go_quiet (fail)
  go_wp2
  go_ret2
  exact ⟨rfl, below_drewN (Below.refl _ _) _⟩

set_option maxHeartbeats 400000 in
theorem refOpen_walk (s B L F : ByteArray) (k N : Nat) (w : World) (h1 : (s.size : Int) - 4 = (k : Int)) (_h2 : k ≤ s.size) (_h3 : k ≤ 281474976710656) (hB : s.extract 0 k = B) (hL : s.extract k s.size = L) (b : Bool) (hb : (L.toList == F.toList) = b)
    (cS : ∀ d os, Calls Tryd.prog 12 #[.string B] (Sort.grow (redrawn w d) os) fun e w'' => e = .returned (.int .u32 (N : Int)) ∧ ∃ p : Regrown, w'' = Sort.grow (redrawn w p.d) p.os)
    (cT : ∀ d os, Calls Tryd.prog 19 #[.int .u32 (N : Int)] (Sort.grow (redrawn w d) os) fun e w'' => e = .returned (.string F) ∧ ∃ p : Regrown, w'' = Sort.grow (redrawn w p.d) p.os) :
    Calls Tryd.prog 9 #[.string s] w fun e w' => e = .returned (.tuple #[.string (if b = true then B else ⟨#[]⟩), .bool b]) ∧ Below w.heap.size w w' := by
  go_enter Tryd.func9, Tryd.ntmps9
  go_wp2
  refine wp_region_quiet_below (by kernel_rfl) (by kernel_rfl) ?_
  repeat (quiet_step (first | (go_at_call 12; with_reducible exact cS _ _) | (go_at_call 19; with_reducible exact cT _ _)))
  refine wpQuiet_nil ?_
  intro _ hw'
  obtain ⟨⟨dq, osq⟩, hw''⟩ := hw'
  subst hw''
  cases b
  · go_wp2_with fail
    · go_ret2
      exact ⟨rfl, below_regrown w dq osq⟩
    · have h : 0 ≤ (k : Int) ∧ (!false) = false := by assumption
      exact absurd h.2 (by decide)
  · go_wp2_with fail
    · have h : (k : Int) < 0 ∨ (!true) = true := by assumption
      rcases h with h | h
      · omega
      · exact absurd h (by decide)
    · go_ret2
      exact ⟨rfl, below_regrown w dq osq⟩

theorem refOpen_any (s : ByteArray) (w : World) (hs : s.size ≤ 281474976710656) :
    Calls Tryd.prog 9 #[.string s] w fun e w' => e = .returned (.tuple #[.string (opened s), .bool (isSeal s)]) ∧ Below w.heap.size w w' := by
  by_cases h : s.size < 4
  · have h1 : isSeal s = false := by unfold isSeal; simp; omega
    unfold opened
    rw [h1]
    exact refOpen_short s w h
  · have h1 : isSeal s = decide (last s = fourOf (body s)) := by unfold isSeal; rw [decide_eq_true (by omega), Bool.true_and]
    have hb : (body s).size ≤ maxLen := by unfold body maxLen; rw [ByteArray.size_extract]; omega
    exact refOpen_walk s (body s) (last s) (fourOf (body s)) (s.size - 4) (Plain.sum (body s).data.toList) w (by omega) (by omega) (by omega) rfl rfl (isSeal s) (by rw [h1, toList_beq])
      (quiet_call fun w0 _ => refSum_below (body s) w0 hb)
      (quiet_call fun w0 _ => four_any (Plain.sum (body s).data.toList) w0 (Plain.sum_lt _))

/-- Sums, seals of constants. -/
theorem sum_const (s : ByteArray) (n : Nat) (hn : Plain.sum s.data.toList = n) (hs : s.size ≤ maxLen) (w : World) (hf : Fours w) :
    Calls Tryd.prog 11 #[.string s] w fun e w' => e = .returned (.int .u32 (n : Int)) ∧ Below w.heap.size w w' := hn ▸ sum_any s w hf hs
theorem open_const (s t : ByteArray) (b : Bool) (hb : isSeal s = b) (ht : opened s = t) (hs : s.size ≤ 281474976710656) (w : World) (hf : Fours w) :
    Calls Tryd.prog 8 #[.string s] w fun e w' => e = .returned (.tuple #[.string t, .bool b]) ∧ Below w.heap.size w w' := hb ▸ ht ▸ open_any s w hf hs
theorem seal_const (s t : ByteArray) (ht : sealed s = t) (hs : s.size ≤ 281474976710656) (w : World) (hf : Fours w) :
    Calls Tryd.prog 13 #[.string s] w fun e w' => e = .returned (.string t) ∧ Below w.heap.size w w' := ht ▸ seal_any s w hf hs
theorem more_const (n : Nat) (s : ByteArray) (m : Nat) (hm : Plain.more n s.data.toList = m) (hn : n < 4294967296) (hs : s.size ≤ maxLen) (w : World) (hf : Fours w) :
    Calls Tryd.prog 14 #[.int .u32 n, .string s] w fun e w' => e = .returned (.int .u32 (m : Int)) ∧ Below w.heap.size w w' := hm ▸ more_any n s w hf hn hs
theorem k0 : Plain.sum (ByteArray.mk #[]).data.toList = 0 := by kernel_rfl
theorem k1 : Plain.sum (ByteArray.mk #[97]).data.toList = 3904355907 := by kernel_rfl
theorem k2 : Plain.sum (ByteArray.mk #[49, 50, 51, 52, 53, 54, 55, 56, 57]).data.toList = 3421780262 := by kernel_rfl
theorem k3 : sealed ⟨#[49, 50, 51, 52, 53, 54, 55, 56, 57]⟩ = ⟨#[49, 50, 51, 52, 53, 54, 55, 56, 57, 38, 57, 244, 203]⟩ := by kernel_rfl
theorem k4 : isSeal ⟨#[0, 0, 0, 0]⟩ = true := by kernel_rfl
theorem k5 : opened ⟨#[0, 0, 0, 0]⟩ = ⟨#[]⟩ := by kernel_rfl
theorem k6 : isSeal ⟨#[97, 98, 99]⟩ = false := by kernel_rfl
theorem k7 : opened ⟨#[97, 98, 99]⟩ = ⟨#[]⟩ := by kernel_rfl

end Go.Proofs.YtfnldhbkablehaaDoor

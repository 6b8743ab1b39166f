/-
  The walks of package crc, its seals.
-/
import Derived.Test.YtnndabjhdhnleaaDoorCrcSum
import Derived.Test.YtnndabjhdhnleaaDoorClone
import Derived.WalkKit
import Derived.WalkSpells
import Derived.WalkLawsBesides
import Derived.Lib.Hide
import Derived.Shelf.Pu.Clone
import Derived.Deep.QuietTactic
import Derived.BigQuiet
import Derived.Lib.QuietBelow
import Derived.Lib.ConvBytes
namespace Go.Proofs.YtnndabjhdhnleaaDoor
open Go.RowKit

theorem four_str (n : Nat) (hn : n < 4294967296) : strOfNums [(n : Int) % 256, (n : Int) / 256 % 256, (n : Int) / 65536 % 256, (n : Int) / 16777216] = ⟨(Plain.four n).toArray⟩ := by
  have e : ((n : Int) / 16777216).toNat = n / 16777216 % 256 := by omega
  have e1 : ((n : Int) / 65536 % 256).toNat = n / 65536 % 256 := by omega
  have e2 : ((n : Int) / 256 % 256).toNat = n / 256 % 256 := by omega
  have e3 : ((n : Int) % 256).toNat = n % 256 := by omega
  simp [strOfNums, Plain.four, e, e1, e2, e3]

def tailCells (n : Nat) : Nat → Array Value
  | 0 => #[.int .u8 0, .int .u8 0, .int .u8 0, .int .u8 0]
  | 1 => #[.int .u8 ((n : Int) % 256), .int .u8 0, .int .u8 0, .int .u8 0]
  | 2 => #[.int .u8 ((n : Int) % 256), .int .u8 ((n : Int) / 256 % 256), .int .u8 0, .int .u8 0]
  | 3 => #[.int .u8 ((n : Int) % 256), .int .u8 ((n : Int) / 256 % 256), .int .u8 ((n : Int) / 65536 % 256), .int .u8 0]
  | _ => #[.int .u8 ((n : Int) % 256), .int .u8 ((n : Int) / 256 % 256), .int .u8 ((n : Int) / 65536 % 256), .int .u8 ((n : Int) / 16777216)]

def TailRel (n : Nat) (w : World) (i : Value) (wr : World) : Prop := ∃ k : Nat, k ≤ 4 ∧ i = .int .i64 k ∧ wr = w.alloc (.cells (tailCells n k) 93)

set_option maxHeartbeats 400000 in
theorem tail_any (n : Nat) (w : World) (hn : n < 4294967296) :
    Calls Tryd.prog 44 #[.int .u32 n] w fun e w' => e = .returned (.string ⟨(Plain.four n).toArray⟩) ∧ Below w.heap.size w w' := by
  have hcv := run_convert_bytes_arg (P := Tryd.prog) _ 31 5 Tryd.underlying31 Tryd.underlying5 w.heap.size 0 4 4 [(n : Int) % 256, (n : Int) / 256 % 256, (n : Int) / 65536 % 256, (n : Int) / 16777216] rfl (four_cells w _ _ _ _ 93) 9 Tryd.underlying9
  rw [four_str n hn] at hcv
  go_enter Tryd.func44, Tryd.ntmps44
  go_wp2_with fail
  go_loopw [5] (fun i wr => TailRel n w i wr) (fun i _ => 4 - (intOf i).toNat)
  case atStart => exact ⟨0, by omega, rfl, rfl⟩
  case round =>
    obtain ⟨k, hk, rfl, rfl⟩ := hrel
    rcases (show k = 4 ∨ k < 4 by omega) with rfl | hk4
    · simp only [tailCells]
      go_wp2
      go_ret
      exact ⟨rfl, (Below.refl _ _).alloc (Nat.le_refl _) _⟩
    · rcases (show k = 0 ∨ k = 1 ∨ k = 2 ∨ k = 3 by omega) with rfl | rfl | rfl | rfl <;> simp only [tailCells]
      all_goals
        go_wp2
        go_roundw
        case rel => first | exact ⟨1, by omega, rfl, rfl⟩ | exact ⟨2, by omega, rfl, rfl⟩ | exact ⟨3, by omega, rfl, rfl⟩ | exact ⟨4, by omega, rfl, rfl⟩
        case measure => simp [intOf]

/-- Sealed. -/
def sealed (s : ByteArray) : ByteArray := s ++ ⟨(Plain.four (Plain.sum s.data.toList)).toArray⟩

set_option maxHeartbeats 400000 in
theorem seal_any (s : ByteArray) (w : World) (hf : Fours w) (hs : s.size ≤ 281474976710656) :
    Calls Tryd.prog 20 #[.string s] w fun e w' => e = .returned (.string (sealed s)) ∧ Below w.heap.size w w' := by
  have hm : s.size ≤ maxLen := by unfold maxLen; omega
  have hcat : s.size + (Plain.four (Plain.sum s.data.toList)).length ≤ 9223372036854775807 := by rw [Plain.four_length]; omega
  go_enter Tryd.func20, Tryd.ntmps20
  go_wp2_with (first | (go_at_call 45; go_must (refine (sum_any s _ hf hm).mono ?_); rintro e w1 ⟨rfl, hb1⟩) | (go_at_call 44; go_must (refine (tail_any _ _ (Plain.sum_lt _)).mono ?_); rintro e w2 ⟨rfl, hb2⟩))
  go_ret
  exact ⟨rfl, below_two hb1 hb2⟩

/-- What is ahead of the last four bytes; these. -/
def body (s : ByteArray) : ByteArray := s.extract 0 (s.size - 4)

def last (s : ByteArray) : ByteArray := s.extract (s.size - 4) s.size

def fourOf (s : ByteArray) : ByteArray := ⟨(Plain.four (Plain.sum s.data.toList)).toArray⟩

def isSeal (s : ByteArray) : Bool := decide (4 ≤ s.size) && decide (last s = fourOf (body s))

def opened (s : ByteArray) : ByteArray := if isSeal s = true then body s else ⟨#[]⟩

set_option maxHeartbeats 400000 in
theorem open_short (s : ByteArray) (w : World) (h : s.size < 4) :
    Calls Tryd.prog 37 #[.string s] w fun e w' => e = .returned (.tuple #[.string ⟨#[]⟩, .bool false]) ∧ Below w.heap.size w w' := by
  have h1 : (s.size : Int) - 4 < 0 := by omega
  have h2 : (s.size : Int) < 4 := by omega
  go_enter Tryd.func37, Tryd.ntmps37
  go_wp2
  go_quiet (fail)
  go_wp2
  go_ret2
  exact ⟨rfl, below_drewN (Below.refl _ _) _⟩

set_option maxHeartbeats 400000 in
theorem open_walk (s B L F : ByteArray) (k N : Nat) (w : World) (h1 : (s.size : Int) - 4 = (k : Int)) (_h2 : k ≤ s.size) (_h3 : k ≤ 281474976710656) (hB : s.extract 0 k = B) (hL : s.extract k s.size = L) (b : Bool) (hb : (L.toList == F.toList) = b)
    (cS : ∀ d os, Calls Tryd.prog 45 #[.string B] (Sort.grow (redrawn w d) os) fun e w'' => e = .returned (.int .u32 (N : Int)) ∧ ∃ p : Regrown, w'' = Sort.grow (redrawn w p.d) p.os)
    (cT : ∀ d os, Calls Tryd.prog 44 #[.int .u32 (N : Int)] (Sort.grow (redrawn w d) os) fun e w'' => e = .returned (.string F) ∧ ∃ p : Regrown, w'' = Sort.grow (redrawn w p.d) p.os)
    (cC : ∀ d os, Calls Tryd.prog 55 #[.string B] (Sort.grow (redrawn w d) os) fun e w'' => e = .returned (.string B) ∧ ∃ p : Regrown, w'' = Sort.grow (redrawn w p.d) p.os) :
    Calls Tryd.prog 37 #[.string s] w fun e w' => e = .returned (.tuple #[.string (if b = true then B else ⟨#[]⟩), .bool b]) ∧ Below w.heap.size w w' := by
  go_enter Tryd.func37, Tryd.ntmps37
  go_wp2
  refine wp_region_quiet_below (by kernel_rfl) (by kernel_rfl) ?_
  repeat (quiet_step (first | (go_at_call 45; with_reducible exact cS _ _) | (go_at_call 44; with_reducible exact cT _ _)))
  refine wpQuiet_nil ?_
  intro _ hw'
  obtain ⟨⟨dq, osq⟩, hw''⟩ := hw'
  subst hw''
  cases b
  · go_wp2_with fail
    · go_ret2
      exact ⟨rfl, below_regrown w dq osq⟩
    · have h : 0 ≤ (k : Int) ∧ (!false) = false := by assumption
      exact absurd h.2 (by decide)
  · go_wp2_with (go_at_call 55; go_must (refine (cC _ _).mono ?_); rintro e w' ⟨rfl, ⟨⟨dq2, osq2⟩, rfl⟩⟩)
    · have h : (k : Int) < 0 ∨ (!true) = true := by assumption
      rcases h with h | h
      · omega
      · exact absurd h (by decide)
    · go_ret2
      exact ⟨rfl, below_regrown w dq2 osq2⟩

theorem open_any (s : ByteArray) (w : World) (hf : Fours w) (hs : s.size ≤ 281474976710656) :
    Calls Tryd.prog 37 #[.string s] w fun e w' => e = .returned (.tuple #[.string (opened s), .bool (isSeal s)]) ∧ Below w.heap.size w w' := by
  by_cases h : s.size < 4
  · have h1 : isSeal s = false := by unfold isSeal; simp; omega
    unfold opened
    rw [h1]
    exact open_short s w h
  · have h1 : isSeal s = decide (last s = fourOf (body s)) := by unfold isSeal; rw [decide_eq_true (by omega), Bool.true_and]
    have hb : (body s).size ≤ maxLen := by unfold body maxLen; rw [ByteArray.size_extract]; omega
    have hc : (body s).size ≤ 281474976710656 := by unfold body; rw [ByteArray.size_extract]; omega
    exact open_walk s (body s) (last s) (fourOf (body s)) (s.size - 4) (Plain.sum (body s).data.toList) w (by omega) (by omega) (by omega) rfl rfl (isSeal s) (by rw [h1, toList_beq])
      (quiet_call fun w0 hb0 => sum_any (body s) w0 (hf.below hb0) hb)
      (quiet_call fun w0 _ => tail_any (Plain.sum (body s).data.toList) w0 (Plain.sum_lt _))
      (quiet_call fun w0 _ => clone_any (body s) w0 hc)

theorem open_const (s t : ByteArray) (b : Bool) (hb : isSeal s = b) (ht : opened s = t) (hs : s.size ≤ 281474976710656) (w : World) (hf : Fours w) :
    Calls Tryd.prog 37 #[.string s] w fun e w' => e = .returned (.tuple #[.string t, .bool b]) ∧ Below w.heap.size w w' := hb ▸ ht ▸ open_any s w hf hs

theorem seal_const (s t : ByteArray) (ht : sealed s = t) (hs : s.size ≤ 281474976710656) (w : World) (hf : Fours w) :
    Calls Tryd.prog 20 #[.string s] w fun e w' => e = .returned (.string t) ∧ Below w.heap.size w w' := ht ▸ seal_any s w hf hs

theorem sealed_list (s : ByteArray) : (sealed s).data.toList = s.data.toList ++ Plain.four (Plain.sum s.data.toList) := by unfold sealed; rw [ba_append]

theorem sealed_size (s : ByteArray) : (sealed s).size = s.size + 4 := by
  rw [← ba_length, sealed_list, List.length_append, Plain.four_length, ba_length]

theorem body_sealed (s : ByteArray) : body (sealed s) = s := by
  apply ba_ext
  unfold body
  rw [ba_extract, sealed_size, sealed_list]
  simp

theorem last_sealed (s : ByteArray) : last (sealed s) = fourOf s := by
  apply ba_ext
  unfold last
  rw [ba_extract, sealed_size, sealed_list]
  have h := Plain.four_length (Plain.sum s.data.toList)
  simp only [fourOf]
  rw [show s.size + 4 - 4 = s.data.toList.length by simp, List.drop_left, List.take_of_length_le (by rw [h]; simp)]

theorem isSeal_sealed (s : ByteArray) : isSeal (sealed s) = true := by
  unfold isSeal
  rw [last_sealed, body_sealed, sealed_size]
  simp

theorem opened_sealed (s : ByteArray) : opened (sealed s) = s := by
  unfold opened
  rw [if_pos (isSeal_sealed s), body_sealed]

theorem body_last (x : ByteArray) (h : 4 ≤ x.size) : x.data.toList = (body x).data.toList ++ (last x).data.toList ∧ (last x).data.toList.length = 4 := by
  constructor
  · unfold body last
    rw [cut_join]
  · unfold last
    rw [ba_length, ByteArray.size_extract]
    omega

theorem isSeal_run (x : ByteArray) (h : isSeal x = true) : Plain.run 4294967295 x.data.toList = Plain.many 32 4294967295 := by
  unfold isSeal at h
  rw [Bool.and_eq_true, decide_eq_true_eq, decide_eq_true_eq] at h
  obtain ⟨h4, he⟩ := h
  obtain ⟨e1, e2⟩ := body_last x h4
  rw [e1]
  apply (Plain.seal_run _ _ e2).1
  rw [he]
  rfl

theorem seal_split (u a : ByteArray) (ha : a.size = 4) : isSeal (u ++ a) = decide (sealed u = u ++ a) ∧ (isSeal (u ++ a) = true → opened (u ++ a) = u) := by
  have hs : (u ++ a).size = u.size + 4 := by rw [← ba_length, ba_append, List.length_append, ba_length, ba_length, ha]
  have hbody : body (u ++ a) = u := by
    apply ba_ext
    unfold body
    rw [ba_extract, hs, ba_append]
    simp
  have hlast : last (u ++ a) = a := by
    apply ba_ext
    unfold last
    rw [ba_extract, hs, ba_append]
    rw [show u.size + 4 - 4 = u.data.toList.length by simp, List.drop_left, List.take_of_length_le (by rw [ba_length, ba_length, ha]; omega)]
  constructor
  · unfold isSeal
    rw [hbody, hlast, hs, decide_eq_true (by omega), Bool.true_and]
    rw [Bool.eq_iff_iff, decide_eq_true_eq, decide_eq_true_eq]
    constructor
    · intro h
      rw [h]
      rfl
    · intro h
      apply ba_ext
      have e := congrArg (fun x : ByteArray => x.data.toList) h
      simp only [sealed_list, ba_append] at e
      exact (List.append_cancel_left e).symm
  · intro h
    unfold opened
    rw [if_pos h, hbody]

end Go.Proofs.YtnndabjhdhnleaaDoor

/-
  The walks of the reference for layer 1.
-/
import Derived.Test.YtjiilmiikejnhaaDoorP17
import Derived.WalkKit
import Derived.WalkSpells
import Derived.WalkLawsBesides
import Derived.Lib.Hide
import Derived.Shelf.Pu.Clone
import Derived.Deep.QuietTactic
import Derived.BigQuiet
import Derived.Lib.QuietBelow
import Derived.Lib.ConvBytes
set_option linter.unusedVariables false
set_option linter.unusedSimpArgs false
namespace Go.Proofs.YtjiilmiikejnhaaDoor
open Go.RowKit

set_option maxHeartbeats 400000 in
theorem four_any (n : Nat) (w : World) (hn : n < 4294967296) :
    Calls Tryd.prog 35 #[.int .u32 n] w fun e w' => e = .returned (.string ⟨(Plain.four n).toArray⟩) ∧ Below w.heap.size w w' := by
  have hcv := run_convert_bytes_arg (P := Tryd.prog) _ 43 5 Tryd.underlying43 Tryd.underlying5 w.heap.size 0 4 4 [(n : Int) % 256, (n : Int) / 256 % 256, (n : Int) / 65536 % 256, (n : Int) / 16777216] rfl (four_cells w _ _ _ _ 5) 9 Tryd.underlying9
  rw [four_str n hn] at hcv
  go_enter Tryd.func35, Tryd.ntmps35
  go_wp2
  go_ret
  exact ⟨rfl, (Below.refl _ _).alloc (Nat.le_refl _) _⟩

set_option maxHeartbeats 400000 in
theorem bit_any (n b : Nat) (w : World) (hn : n < 4294967296) (hb : b ≤ 1) :
    Calls Tryd.prog 54 #[.int .u32 n, .int .u32 b] w fun e w' => e = .returned (.int .u32 ((Plain.one (n ^^^ b) : Nat) : Int)) ∧ w = w' := by
  rw [← Plain.refBit_one n b hb]
  unfold Plain.refBit
  by_cases h : n % 2 = b
  · have h' : ((n : Int) % 2 != (b : Int)) = false := by simp; omega
    rw [if_pos h]
    clear h
    go_enter Tryd.func54, Tryd.ntmps54
    go_wp2
    go_ret
    exact ⟨rfl, rfl⟩
  · have h' : ((n : Int) % 2 != (b : Int)) = true := by simp; omega
    obtain ⟨q, hq⟩ : ∃ q : Nat, q = n / 2 := ⟨_, rfl⟩
    have hx : bits .xor .u32 (q : Int) 3988292384 = ((q ^^^ 3988292384 : Nat) : Int) := u32_xor_nat q 3988292384 (by omega) (by omega)
    have h2 : (n : Int) / 2 = (q : Int) := by omega
    rw [if_neg h, ← hq]
    clear h hq
    go_enter Tryd.func54, Tryd.ntmps54
    go_wp2
    go_ret
    exact ⟨rfl, rfl⟩

theorem refTurned_any (n : Nat) (w : World) (hn : n < 4294967296) :
    Calls Tryd.prog 53 #[.int .u32 n] w fun e w' => e = .returned (.int .u32 ((Plain.turned n : Nat) : Int)) ∧ w = w' := by
  rw [← Plain.turned_sub hn]
  have h : (4294967295 : Int) - (n : Int) = ((4294967295 - n : Nat) : Int) := by omega
  go_enter Tryd.func53, Tryd.ntmps53
  go_wp2
  go_ret
  exact ⟨rfl, rfl⟩

theorem feed_bound {j d d2 : Nat} (hj : j < 8) (h : d < 2 ^ (8 - j)) (h2 : d2 = d / 2) : d2 < 2 ^ (8 - (j + 1)) := by
  rw [show 8 - j = (8 - (j + 1)) + 1 by omega, Nat.pow_succ] at h
  omega

theorem feed_next {j m b d d2 n c : Nat} (hj : j < 8) (hb : b = d % 2) (h2 : d2 = d / 2) (h : Plain.feed (8 - j) m d = Plain.feed 8 n c) : Plain.feed (8 - (j + 1)) (Plain.one (m ^^^ b)) d2 = Plain.feed 8 n c := by
  rw [show 8 - j = (8 - (j + 1)) + 1 by omega] at h
  subst hb h2
  exact h

theorem feed_end {j m d n c : Nat} (hj : j ≤ 8) (hj8 : ¬ j < 8) (hc : c < 256) (h : Plain.feed (8 - j) m d = Plain.feed 8 n c) : Plain.byte n c = m := by
  rw [show 8 - j = 0 by omega, Plain.feed_many 8 n c hc] at h
  exact h.symm

def FeedRel (n0 c0 : Nat) (n c k : Value) : Prop := ∃ j m d : Nat, j ≤ 8 ∧ m < 4294967296 ∧ d < 2 ^ (8 - j) ∧ k = .int .i64 j ∧ n = .int .u32 m ∧ c = .int .u32 d ∧ Plain.feed (8 - j) m d = Plain.feed 8 n0 c0

def RefRel (s : ByteArray) (n i : Value) : Prop := ∃ k m : Nat, k ≤ s.size ∧ m < 4294967296 ∧ i = .int .i64 k ∧ n = .int .u32 m ∧ Plain.run (Plain.turned 0) (s.data.toList.take k) = m

set_option maxHeartbeats 1000000 in
theorem refSum_any (s : ByteArray) (w : World) (hs : s.size ≤ maxLen) :
    Calls Tryd.prog 36 #[.string s] w fun e w' => e = .returned (.int .u32 ((Plain.sum s.data.toList : Nat) : Int)) ∧ w = w' := by
  unfold maxLen at hs
  go_enter Tryd.func36, Tryd.ntmps36
  go_wp2_with (go_at_call 53; go_must (refine (refTurned_any 0 _ (by omega)).mono ?_); rintro e w' ⟨rfl, rfl⟩)
  go_loop [3, 4] (fun n i => RefRel s n i) (fun _ i => s.size - (intOf i).toNat)
  case atStart => exact ⟨0, _, Nat.zero_le _, Plain.turned_lt (by omega), rfl, rfl, rfl⟩
  case round =>
    obtain ⟨k, m, hk, hm, rfl, rfl, hr⟩ := hrel
    have HR := Lib.hid hr; clear hr
    by_cases hlt : k < s.size
    · have hby : s[k].toNat < 256 := s[k].toNat_lt
      go_wp2_with fail
      go_loop [3, 5, 6] (fun n c i => FeedRel m s[k].toNat n c i) (fun _ _ i => 8 - (intOf i).toNat)
      case atStart => exact ⟨0, m, _, by omega, hm, hby, rfl, rfl, rfl, rfl⟩
      case round =>
        obtain ⟨j, m', d, hj, hm', hd, rfl, rfl, rfl, hfeed⟩ := hrel
        have HF := Lib.hid hfeed; clear hfeed
        have HD := Lib.hid hd; clear hd
        by_cases hj8 : j < 8
        · obtain ⟨b, hb⟩ : ∃ b : Nat, b = d % 2 := ⟨_, rfl⟩
          obtain ⟨d2, hd2⟩ : ∃ d2 : Nat, d2 = d / 2 := ⟨_, rfl⟩
          have e1 : (d : Int) % 2 = (b : Int) := by omega
          have e2 : (d : Int) / 2 = (d2 : Int) := by omega
          have hb1 : b ≤ 1 := by omega
          have h256 : d < 256 := Nat.lt_of_lt_of_le HD.out (Nat.pow_le_pow_right (by omega) (by omega : 8 - j ≤ 8))
          have h256' : d2 < 256 := by omega
          have HB := Lib.hid hb; clear hb
          have HD2 := Lib.hid hd2; clear hd2
          go_wp2_with (go_at_call 54; go_must (refine (bit_any m' b _ hm' hb1).mono ?_); rintro e w' ⟨rfl, rfl⟩)
          go_round
          case rel => exact ⟨j + 1, _, d2, by omega, Plain.one_lt (Plain.xor_lt hm' (by omega)), feed_bound hj8 HD.out HD2.out, by go_num, rfl, rfl, feed_next hj8 HB.out HD2.out HF.out⟩
          case measure => simp [intOf]; omega
        · go_wp2_with fail
          go_round
          case rel => exact ⟨k + 1, m', by omega, hm', by go_num, rfl, by rw [take_snoc s k hlt, Plain.run_snoc, HR.out]; exact feed_end hj hj8 hby HF.out⟩
          case measure => simp [intOf]; omega
    · go_wp2_with (go_at_call 53; go_must (refine (refTurned_any m _ hm).mono ?_); rintro e w' ⟨rfl, rfl⟩)
      go_ret
      exact ⟨ret_nat (by rw [← HR.out, show k = s.size by omega, take_all]; rfl), rfl⟩

theorem refSum_below (s : ByteArray) (w : World) (hs : s.size ≤ maxLen) :
    Calls Tryd.prog 36 #[.string s] w fun e w' => e = .returned (.int .u32 ((Plain.sum s.data.toList : Nat) : Int)) ∧ Below w.heap.size w w' :=
  (refSum_any s w hs).mono fun _ _ ⟨he, hw⟩ => ⟨he, hw ▸ Below.refl _ _⟩

set_option maxHeartbeats 400000 in
theorem refSeal_any (s : ByteArray) (w : World) (hs : s.size ≤ 281474976710656) :
    Calls Tryd.prog 17 #[.string s] w fun e w' => e = .returned (.string (sealed s)) ∧ Below w.heap.size w w' := by
  have hm : s.size ≤ maxLen := by unfold maxLen; omega
  have hcat : s.size + (Plain.four (Plain.sum s.data.toList)).length ≤ 9223372036854775807 := by rw [Plain.four_length]; omega
  go_enter Tryd.func17, Tryd.ntmps17
  go_wp2_with (first | (go_at_call 36; go_must (refine (refSum_any s _ hm).mono ?_); rintro e w1 ⟨rfl, rfl⟩) | (go_at_call 35; go_must (refine (four_any _ _ (Plain.sum_lt _)).mono ?_); rintro e w2 ⟨rfl, hb2⟩))
  go_ret
  exact ⟨rfl, hb2⟩

set_option maxHeartbeats 400000 in
theorem refOpen_short (s : ByteArray) (w : World) (h : s.size < 4) :
    Calls Tryd.prog 15 #[.string s] w fun e w' => e = .returned (.tuple #[.string ⟨#[]⟩, .bool false]) ∧ Below w.heap.size w w' := by
  have h1 : (s.size : Int) - 4 < 0 := by omega
  have h2 : (s.size : Int) < 4 := by omega
  go_enter Tryd.func15, Tryd.ntmps15
  go_wp2
  go_quiet (fail)
  go_wp2
  go_ret2
  exact ⟨rfl, below_drewN (Below.refl _ _) _⟩

set_option maxHeartbeats 400000 in
theorem refOpen_walk (s B L F : ByteArray) (k N : Nat) (w : World) (h1 : (s.size : Int) - 4 = (k : Int)) (_h2 : k ≤ s.size) (_h3 : k ≤ 281474976710656) (hB : s.extract 0 k = B) (hL : s.extract k s.size = L) (b : Bool) (hb : (L.toList == F.toList) = b)
    (cS : ∀ d os, Calls Tryd.prog 36 #[.string B] (Sort.grow (redrawn w d) os) fun e w'' => e = .returned (.int .u32 (N : Int)) ∧ ∃ p : Regrown, w'' = Sort.grow (redrawn w p.d) p.os)
    (cT : ∀ d os, Calls Tryd.prog 35 #[.int .u32 (N : Int)] (Sort.grow (redrawn w d) os) fun e w'' => e = .returned (.string F) ∧ ∃ p : Regrown, w'' = Sort.grow (redrawn w p.d) p.os) :
    Calls Tryd.prog 15 #[.string s] w fun e w' => e = .returned (.tuple #[.string (if b = true then B else ⟨#[]⟩), .bool b]) ∧ Below w.heap.size w w' := by
  go_enter Tryd.func15, Tryd.ntmps15
  go_wp2
  refine wp_region_quiet_below (by kernel_rfl) (by kernel_rfl) ?_
  repeat (quiet_step (first | (go_at_call 36; with_reducible exact cS _ _) | (go_at_call 35; with_reducible exact cT _ _)))
  refine wpQuiet_nil ?_
  intro _ hw'
  obtain ⟨⟨dq, osq⟩, hw''⟩ := hw'
  subst hw''
  cases b
  · go_wp2_with fail
    · go_ret2
      exact ⟨rfl, below_regrown w dq osq⟩
    · have h : 0 ≤ (k : Int) ∧ (!false) = false := by assumption
      exact absurd h.2 (by decide)
  · go_wp2_with fail
    · have h : (k : Int) < 0 ∨ (!true) = true := by assumption
      rcases h with h | h
      · omega
      · exact absurd h (by decide)
    · go_ret2
      exact ⟨rfl, below_regrown w dq osq⟩

theorem refOpen_any (s : ByteArray) (w : World) (hs : s.size ≤ 281474976710656) :
    Calls Tryd.prog 15 #[.string s] w fun e w' => e = .returned (.tuple #[.string (opened s), .bool (isSeal s)]) ∧ Below w.heap.size w w' := by
  by_cases h : s.size < 4
  · have h1 : isSeal s = false := by unfold isSeal; simp; omega
    unfold opened
    rw [h1]
    exact refOpen_short s w h
  · have h1 : isSeal s = decide (last s = fourOf (body s)) := by unfold isSeal; rw [decide_eq_true (by omega), Bool.true_and]
    have hb : (body s).size ≤ maxLen := by unfold body maxLen; rw [ByteArray.size_extract]; omega
    exact refOpen_walk s (body s) (last s) (fourOf (body s)) (s.size - 4) (Plain.sum (body s).data.toList) w (by omega) (by omega) (by omega) rfl rfl (isSeal s) (by rw [h1, toList_beq])
      (quiet_call fun w0 _ => refSum_below (body s) w0 hb)
      (quiet_call fun w0 _ => four_any (Plain.sum (body s).data.toList) w0 (Plain.sum_lt _))

end Go.Proofs.YtjiilmiikejnhaaDoor

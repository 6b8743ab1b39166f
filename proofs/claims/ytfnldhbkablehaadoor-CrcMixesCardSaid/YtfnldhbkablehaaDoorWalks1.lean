import Derived.Test.YtfnldhbkablehaaDoorProg
import Derived.Test.YtfnldhbkablehaaDoorMath
import Derived.WalkKit
import Derived.WalkSpells
import Derived.WalkLawsBesides
import Derived.Lib.Hide
import Derived.Shelf.Pu.Clone
import Derived.Deep.QuietTactic
import Derived.BigQuiet
namespace Go.Proofs.YtfnldhbkablehaaDoor
open Go.RowKit

theorem ret_nat {k : IntKind} {a b : Nat} (h : a = b) : Ending.returned (.int k (a : Int)) = .returned (.int k (b : Int)) := by rw [h]

/-- The table lies in block 0. -/
def Fours (w : World) : Prop := 0 < w.heap.size ∧ ∀ i, i < 16 → w.cell? ⟨0, i, none⟩ = some (.int .u32 ((Plain.table.getD i 0 : Nat) : Int))
theorem Fours.below {w w' : World} (h : Fours w) (hb : Below w.heap.size w w') : Fours w' :=
  ⟨Nat.lt_of_lt_of_le h.1 hb.size, fun i hi => (hb.cell (p := ⟨0, i, none⟩) h.1).trans (h.2 i hi)⟩

set_option maxHeartbeats 400000 in
theorem turned_any (n : Nat) (zs : List Nat) (b : Nat) (cap : Nat) (w : World) (hn : n < 4294967296) (hz : ∀ z ∈ zs, z < 4294967296) (hl : zs.length ≤ 2)
    (hc : ∀ i, i < zs.length → w.cell? ⟨b, i, none⟩ = some (.int .u32 ((zs.getD i 0 : Nat) : Int))) :
    Calls Tryd.prog 22 #[.int .u32 n, .slice (some ⟨b, 0, none⟩) zs.length cap] w fun e w' => e = .returned (.int .u32 ((zs.foldl (· ^^^ ·) n : Nat) : Int)) ∧ w = w' := by
  go_enter Tryd.func22, Tryd.ntmps22
  go_wp2
  go_loop [0, 9] (fun v i => ∃ k m : Nat, k ≤ zs.length ∧ m < 4294967296 ∧ i = .int .i64 k ∧ v = .int .u32 m ∧ (zs.take k).foldl (· ^^^ ·) n = m) (fun _ i => zs.length - (intOf i).toNat)
  case atStart => exact ⟨0, n, Nat.zero_le _, hn, rfl, rfl, rfl⟩
  case round =>
    obtain ⟨k, m, hk, hm, rfl, rfl, hf⟩ := hrel
    have HF := Lib.hid hf; clear hf
    by_cases hlt : k < zs.length
    · have hck := hc k hlt
      have hzk : zs[k] < 4294967296 := hz _ (List.getElem_mem _)
      have hx := u32_xor_nat m zs[k] hm hzk
      have hb : m ^^^ zs[k] < 4294967296 := Nat.xor_lt_two_pow (n := 32) hm hzk
      clear hc hz
      go_wp2
      go_round
      case rel => exact ⟨k + 1, m ^^^ zs[k], by omega, hb, by go_num, rfl, by rw [List.take_succ_eq_append_getElem hlt, List.foldl_append, HF.out]; rfl⟩
      case measure => simp [intOf]; omega
    · clear hc hz
      go_wp2
      go_ret
      exact ⟨ret_nat (by rw [← HF.out, List.take_of_length_le (by omega)]), rfl⟩

theorem turned_one (n a : Nat) (b cap : Nat) (w : World) (hn : n < 4294967296) (ha : a < 4294967296) (hc : w.cell? ⟨b, 0, none⟩ = some (.int .u32 (a : Int))) :
    Calls Tryd.prog 22 #[.int .u32 n, .slice (some ⟨b, 0, none⟩) 1 cap] w fun e w' => e = .returned (.int .u32 ((n ^^^ a : Nat) : Int)) ∧ w = w' :=
  turned_any n [a] b cap w hn (by simpa using ha) (by simp) (fun i hi => by
    obtain rfl : i = 0 := by simp at hi; omega
    exact hc)
theorem turned_two (n a c : Nat) (b cap : Nat) (w : World) (hn : n < 4294967296) (ha : a < 4294967296) (hc : c < 4294967296) (h0 : w.cell? ⟨b, 0, none⟩ = some (.int .u32 (a : Int))) (h1 : w.cell? ⟨b, 1, none⟩ = some (.int .u32 (c : Int))) :
    Calls Tryd.prog 22 #[.int .u32 n, .slice (some ⟨b, 0, none⟩) 2 cap] w fun e w' => e = .returned (.int .u32 ((n ^^^ a ^^^ c : Nat) : Int)) ∧ w = w' :=
  turned_any n [a, c] b cap w hn (by simpa using ⟨ha, hc⟩) (by simp) (fun i hi => by
    rcases (show i = 0 ∨ i = 1 by simp at hi; omega) with rfl | rfl
    · exact h0
    · exact h1)

set_option maxHeartbeats 400000 in
theorem past_walk (n c m lo low hi high q4 q8 l4 x : Nat) (w : World) (_hc : c < 256) (hlo : lo < 16) (hhi : hi < 16) (hhigh : high < 4294967296) (hq8 : q8 < 4294967296) (hl4 : l4 < 4294967296)
    (_h0 : 0 < w.heap.size)
    (hm : bits .xor .u32 (n : Int) (c : Int) = (m : Int))
    (hl : bits .and .u32 (m : Int) 15 = (lo : Int)) (hcl : w.cell? ⟨0, lo, none⟩ = some (.int .u32 (low : Int)))
    (h4 : (m : Int) / 16 = (q4 : Int)) (hx : bits .xor .u32 (q4 : Int) (low : Int) = (x : Int))
    (hi1 : bits .and .u32 (x : Int) 15 = (hi : Int)) (hch : w.cell? ⟨0, hi, none⟩ = some (.int .u32 (high : Int)))
    (h8 : (m : Int) / 256 = (q8 : Int)) (h4l : (low : Int) / 16 = (l4 : Int)) :
    Calls Tryd.prog 23 #[.int .u32 n, .int .u8 c] w fun e w' => e = .returned (.int .u32 ((q8 ^^^ l4 ^^^ high : Nat) : Int)) ∧ Below w.heap.size w w' := by
  go_enter Tryd.func23, Tryd.ntmps23
  go_wp2_with (go_at_call 22; go_must (refine (turned_two q8 l4 high _ _ _ hq8 hl4 hhigh (by simp [go_sem]) (by simp [go_sem])).mono ?_); rintro e w' ⟨rfl, rfl⟩)

  go_ret
  exact ⟨rfl, (Below.refl _ _).alloc (Nat.le_refl _) _⟩

theorem past_any (n c : Nat) (w : World) (hf : Fours w) (hn : n < 4294967296) (hc : c < 256) :
    Calls Tryd.prog 23 #[.int .u32 n, .int .u8 c] w fun e w' => e = .returned (.int .u32 ((Plain.byte n c : Nat) : Int)) ∧ Below w.heap.size w w' := by
  rw [Plain.byte_table]
  have hm : n ^^^ c < 4294967296 := Plain.xor_lt hn (by omega)
  have hL := Plain.table_lt ((n ^^^ c) % 16) (by omega)
  have hx : (n ^^^ c) / 16 ^^^ Plain.table.getD ((n ^^^ c) % 16) 0 < 4294967296 := Plain.xor_lt (by omega) hL
  have hH := Plain.table_lt (((n ^^^ c) / 16 ^^^ Plain.table.getD ((n ^^^ c) % 16) 0) % 16) (by omega)
  refine past_walk n c (n ^^^ c) ((n ^^^ c) % 16) _ (((n ^^^ c) / 16 ^^^ Plain.table.getD ((n ^^^ c) % 16) 0) % 16) _ ((n ^^^ c) / 16) ((n ^^^ c) / 256) _ _ w hc (by omega) (by omega) hH (by omega) (by omega) hf.1
    (u32_xor_nat n c hn (by omega)) ?_ (hf.2 _ (by omega)) (by omega) (u32_xor_nat _ _ (by omega) hL) ?_ (hf.2 _ (by omega)) (by omega) (by omega)
  · have := u32_and_nat (n ^^^ c) 15 hm (by omega)
    rw [nat_mask4] at this
    exact this
  · have := u32_and_nat _ 15 hx (by omega)
    rw [nat_mask4] at this
    exact this

theorem take_snoc (s : ByteArray) (k : Nat) (h : k < s.size) : s.data.toList.take (k + 1) = s.data.toList.take k ++ [s[k]] := by
  rw [List.take_succ_eq_append_getElem (by simpa using h)]; rfl
theorem take_all (s : ByteArray) : s.data.toList.take s.size = s.data.toList := List.take_of_length_le (by simp)

set_option maxHeartbeats 400000 in
theorem more_any (n : Nat) (s : ByteArray) (w : World) (hf : Fours w) (hn : n < 4294967296) (hs : s.size ≤ maxLen) :
    Calls Tryd.prog 14 #[.int .u32 n, .string s] w fun e w' => e = .returned (.int .u32 ((Plain.more n s.data.toList : Nat) : Int)) ∧ Below w.heap.size w w' := by
  unfold maxLen at hs
  have h1 : n ^^^ 4294967295 < 4294967296 := Plain.xor_lt hn (by omega)
  go_enter Tryd.func14, Tryd.ntmps14
  go_wp2_with (go_at_call 22; go_must (refine (turned_one n 4294967295 _ _ _ hn (by omega) (by simp [go_sem])).mono ?_); rintro e w' ⟨rfl, rfl⟩)
  go_loopw [5, 12] (fun v i wr => ∃ k m : Nat, k ≤ s.size ∧ m < 4294967296 ∧ i = .int .i64 k ∧ v = .int .u32 m ∧ Plain.run (Plain.turned n) (s.data.toList.take k) = m ∧ Below w.heap.size w wr) (fun _ i _ => s.size - (intOf i).toNat)
  case atStart => exact ⟨0, _, Nat.zero_le _, h1, rfl, rfl, by rw [Plain.turned_comm]; rfl, (Below.refl _ _).alloc (Nat.le_refl _) _⟩
  case round =>
    obtain ⟨k, m, hk, hm, rfl, rfl, hr, hb⟩ := hrel
    have HR := Lib.hid hr; clear hr
    by_cases hlt : k < s.size
    · have hby : s[k].toNat < 256 := s[k].toNat_lt
      have hF := hf.below hb
      go_wp2_with (go_at_call 23; go_must (refine (past_any m s[k].toNat _ hF hm hby).mono ?_); rintro e w' ⟨rfl, hb'⟩)
      go_roundw
      case rel => exact ⟨k + 1, Plain.byte m s[k].toNat, by omega, Plain.byte_lt hm hby, by go_num, rfl, by rw [take_snoc s k hlt, Plain.run_snoc, HR.out], hb.trans (hb'.mono hb.size)⟩
      case measure => simp [intOf]; omega
    · have hsz := hb.size
      go_wp2_with (go_at_call 22; go_must (refine (turned_one m 4294967295 _ _ _ hm (by omega) (by simp [go_sem])).mono ?_); rintro e w' ⟨rfl, rfl⟩)
      go_ret
      exact ⟨ret_nat (by rw [Plain.turned_comm, ← HR.out, show k = s.size by omega, take_all]; rfl), hb.alloc hb.size _⟩

theorem sum_any (s : ByteArray) (w : World) (hf : Fours w) (hs : s.size ≤ maxLen) :
    Calls Tryd.prog 11 #[.string s] w fun e w' => e = .returned (.int .u32 ((Plain.sum s.data.toList : Nat) : Int)) ∧ Below w.heap.size w w' := by
  go_enter Tryd.func11, Tryd.ntmps11
  go_wp2_with (go_at_call 14; go_must (refine (more_any 0 s _ hf (by omega) hs).mono ?_); rintro e w' ⟨rfl, hb⟩)
  go_ret
  exact ⟨rfl, hb⟩


theorem byteNum (x : Nat) : UInt8.ofNat ((x : Int) % 256).toNat = UInt8.ofNat (x % 256) := by congr 1
theorem four_str (n : Nat) (hn : n < 4294967296) : strOfNums [(n : Int) % 256, (n : Int) / 256 % 256, (n : Int) / 65536 % 256, (n : Int) / 16777216] = ⟨(Plain.four n).toArray⟩ := by
  have e : ((n : Int) / 16777216).toNat = n / 16777216 % 256 := by omega
  have e1 : ((n : Int) / 65536 % 256).toNat = n / 65536 % 256 := by omega
  have e2 : ((n : Int) / 256 % 256).toNat = n / 256 % 256 := by omega
  have e3 : ((n : Int) % 256).toNat = n % 256 := by omega
  simp [strOfNums, Plain.four, e, e1, e2, e3]

theorem four_cells (w : World) (a b c d : Int) (e : TypeId) : ∀ i, i < 4 → (w.alloc (.cells #[.int .u8 a, .int .u8 b, .int .u8 c, .int .u8 d] e)).cell? ⟨w.heap.size, 0 + i, none⟩ = some (.int .u8 ([a, b, c, d].getD i 0)) := by
  intro i hi
  rcases (show i = 0 ∨ i = 1 ∨ i = 2 ∨ i = 3 by omega) with rfl | rfl | rfl | rfl <;> simp [go_sem]

set_option maxHeartbeats 400000 in
theorem four_any (n : Nat) (w : World) (hn : n < 4294967296) :
    Calls Tryd.prog 19 #[.int .u32 n] w fun e w' => e = .returned (.string ⟨(Plain.four n).toArray⟩) ∧ Below w.heap.size w w' := by
  have hcv := run_convert_bytes_arg (P := Tryd.prog) _ 33 5 Tryd.underlying33 Tryd.underlying5 w.heap.size 0 4 4 [(n : Int) % 256, (n : Int) / 256 % 256, (n : Int) / 65536 % 256, (n : Int) / 16777216] rfl (four_cells w _ _ _ _ 5) 9 Tryd.underlying9
  rw [four_str n hn] at hcv
  go_enter Tryd.func19, Tryd.ntmps19
  go_wp2
  go_ret
  exact ⟨rfl, (Below.refl _ _).alloc (Nat.le_refl _) _⟩

def tailCells (n : Nat) : Nat → Array Value
  | 0 => #[.int .u8 0, .int .u8 0, .int .u8 0, .int .u8 0]
  | 1 => #[.int .u8 ((n : Int) % 256), .int .u8 0, .int .u8 0, .int .u8 0]
  | 2 => #[.int .u8 ((n : Int) % 256), .int .u8 ((n : Int) / 256 % 256), .int .u8 0, .int .u8 0]
  | 3 => #[.int .u8 ((n : Int) % 256), .int .u8 ((n : Int) / 256 % 256), .int .u8 ((n : Int) / 65536 % 256), .int .u8 0]
  | _ => #[.int .u8 ((n : Int) % 256), .int .u8 ((n : Int) / 256 % 256), .int .u8 ((n : Int) / 65536 % 256), .int .u8 ((n : Int) / 16777216)]
def TailRel (n : Nat) (w : World) (i : Value) (wr : World) : Prop := ∃ k : Nat, k ≤ 4 ∧ i = .int .i64 k ∧ wr = w.alloc (.cells (tailCells n k) 35)

set_option maxHeartbeats 400000 in
theorem tail_any (n : Nat) (w : World) (hn : n < 4294967296) :
    Calls Tryd.prog 17 #[.int .u32 n] w fun e w' => e = .returned (.string ⟨(Plain.four n).toArray⟩) ∧ Below w.heap.size w w' := by
  have hcv := run_convert_bytes_arg (P := Tryd.prog) _ 33 5 Tryd.underlying33 Tryd.underlying5 w.heap.size 0 4 4 [(n : Int) % 256, (n : Int) / 256 % 256, (n : Int) / 65536 % 256, (n : Int) / 16777216] rfl (four_cells w _ _ _ _ 35) 9 Tryd.underlying9
  rw [four_str n hn] at hcv
  go_enter Tryd.func17, Tryd.ntmps17
  go_wp2_with fail
  go_loopw [5] (fun i wr => TailRel n w i wr) (fun i _ => 4 - (intOf i).toNat)
  case atStart => exact ⟨0, by omega, rfl, rfl⟩
  case round =>
    obtain ⟨k, hk, rfl, rfl⟩ := hrel
    rcases (show k = 4 ∨ k < 4 by omega) with rfl | hk4
    · simp only [tailCells]
      go_wp2
      go_ret
      exact ⟨rfl, (Below.refl _ _).alloc (Nat.le_refl _) _⟩
    · rcases (show k = 0 ∨ k = 1 ∨ k = 2 ∨ k = 3 by omega) with rfl | rfl | rfl | rfl <;> simp only [tailCells]
      all_goals
        go_wp2
        go_roundw
        case rel => first | exact ⟨1, by omega, rfl, rfl⟩ | exact ⟨2, by omega, rfl, rfl⟩ | exact ⟨3, by omega, rfl, rfl⟩ | exact ⟨4, by omega, rfl, rfl⟩
        case measure => simp [intOf]

set_option maxHeartbeats 400000 in
theorem bit_any (n b : Nat) (w : World) (hn : n < 4294967296) (hb : b ≤ 1) :
    Calls Tryd.prog 21 #[.int .u32 n, .int .u32 b] w fun e w' => e = .returned (.int .u32 ((Plain.one (n ^^^ b) : Nat) : Int)) ∧ w = w' := by
  rw [← Plain.refBit_one n b hb]
  unfold Plain.refBit
  by_cases h : n % 2 = b
  · have h' : ((n : Int) % 2 != (b : Int)) = false := by simp; omega
    rw [if_pos h]
    clear h
    go_enter Tryd.func21, Tryd.ntmps21
    go_wp2
    go_ret
    exact ⟨rfl, rfl⟩
  · have h' : ((n : Int) % 2 != (b : Int)) = true := by simp; omega
    obtain ⟨q, hq⟩ : ∃ q : Nat, q = n / 2 := ⟨_, rfl⟩
    have hx : bits .xor .u32 (q : Int) 3988292384 = ((q ^^^ 3988292384 : Nat) : Int) := u32_xor_nat q 3988292384 (by omega) (by omega)
    have h2 : (n : Int) / 2 = (q : Int) := by omega
    rw [if_neg h, ← hq]
    clear h hq
    go_enter Tryd.func21, Tryd.ntmps21
    go_wp2
    go_ret
    exact ⟨rfl, rfl⟩

theorem refTurned_any (n : Nat) (w : World) (hn : n < 4294967296) :
    Calls Tryd.prog 20 #[.int .u32 n] w fun e w' => e = .returned (.int .u32 ((Plain.turned n : Nat) : Int)) ∧ w = w' := by
  rw [← Plain.turned_sub hn]
  have h : (4294967295 : Int) - (n : Int) = ((4294967295 - n : Nat) : Int) := by omega
  go_enter Tryd.func20, Tryd.ntmps20
  go_wp2
  go_ret
  exact ⟨rfl, rfl⟩

theorem half_cast (c : Nat) : ((c : Nat) : Int) / 2 = ((c / 2 : Nat) : Int) := by omega
theorem feed_bound {j d d2 : Nat} (hj : j < 8) (h : d < 2 ^ (8 - j)) (h2 : d2 = d / 2) : d2 < 2 ^ (8 - (j + 1)) := by
  rw [show 8 - j = (8 - (j + 1)) + 1 by omega, Nat.pow_succ] at h
  omega
theorem feed_next {j m b d d2 n c : Nat} (hj : j < 8) (hb : b = d % 2) (h2 : d2 = d / 2) (h : Plain.feed (8 - j) m d = Plain.feed 8 n c) : Plain.feed (8 - (j + 1)) (Plain.one (m ^^^ b)) d2 = Plain.feed 8 n c := by
  rw [show 8 - j = (8 - (j + 1)) + 1 by omega] at h
  subst hb h2
  exact h
theorem feed_end {j m d n c : Nat} (hj : j ≤ 8) (hj8 : ¬ j < 8) (hc : c < 256) (h : Plain.feed (8 - j) m d = Plain.feed 8 n c) : Plain.byte n c = m := by
  rw [show 8 - j = 0 by omega, Plain.feed_many 8 n c hc] at h
  exact h.symm
def FeedRel (n0 c0 : Nat) (n c k : Value) : Prop := ∃ j m d : Nat, j ≤ 8 ∧ m < 4294967296 ∧ d < 2 ^ (8 - j) ∧ k = .int .i64 j ∧ n = .int .u32 m ∧ c = .int .u32 d ∧ Plain.feed (8 - j) m d = Plain.feed 8 n0 c0
def RefRel (s : ByteArray) (n i : Value) : Prop := ∃ k m : Nat, k ≤ s.size ∧ m < 4294967296 ∧ i = .int .i64 k ∧ n = .int .u32 m ∧ Plain.run (Plain.turned 0) (s.data.toList.take k) = m

set_option maxHeartbeats 1000000 in
theorem refSum_any (s : ByteArray) (w : World) (hs : s.size ≤ maxLen) :
    Calls Tryd.prog 12 #[.string s] w fun e w' => e = .returned (.int .u32 ((Plain.sum s.data.toList : Nat) : Int)) ∧ w = w' := by
  unfold maxLen at hs
  go_enter Tryd.func12, Tryd.ntmps12
  go_wp2_with (go_at_call 20; go_must (refine (refTurned_any 0 _ (by omega)).mono ?_); rintro e w' ⟨rfl, rfl⟩)
  go_loop [3, 4] (fun n i => RefRel s n i) (fun _ i => s.size - (intOf i).toNat)
  case atStart => exact ⟨0, _, Nat.zero_le _, Plain.turned_lt (by omega), rfl, rfl, rfl⟩
  case round =>
    obtain ⟨k, m, hk, hm, rfl, rfl, hr⟩ := hrel
    have HR := Lib.hid hr; clear hr
    by_cases hlt : k < s.size
    · have hby : s[k].toNat < 256 := s[k].toNat_lt
      go_wp2_with fail
      go_loop [3, 5, 6] (fun n c i => FeedRel m s[k].toNat n c i) (fun _ _ i => 8 - (intOf i).toNat)
      case atStart => exact ⟨0, m, _, by omega, hm, hby, rfl, rfl, rfl, rfl⟩
      case round =>
        obtain ⟨j, m', d, hj, hm', hd, rfl, rfl, rfl, hfeed⟩ := hrel
        have HF := Lib.hid hfeed; clear hfeed
        have HD := Lib.hid hd; clear hd
        by_cases hj8 : j < 8
        · obtain ⟨b, hb⟩ : ∃ b : Nat, b = d % 2 := ⟨_, rfl⟩
          obtain ⟨d2, hd2⟩ : ∃ d2 : Nat, d2 = d / 2 := ⟨_, rfl⟩
          have e1 : (d : Int) % 2 = (b : Int) := by omega
          have e2 : (d : Int) / 2 = (d2 : Int) := by omega
          have hb1 : b ≤ 1 := by omega
          have h256 : d < 256 := Nat.lt_of_lt_of_le HD.out (Nat.pow_le_pow_right (by omega) (by omega : 8 - j ≤ 8))
          have h256' : d2 < 256 := by omega
          have HB := Lib.hid hb; clear hb
          have HD2 := Lib.hid hd2; clear hd2
          go_wp2_with (go_at_call 21; go_must (refine (bit_any m' b _ hm' hb1).mono ?_); rintro e w' ⟨rfl, rfl⟩)
          go_round
          case rel => exact ⟨j + 1, _, d2, by omega, Plain.one_lt (Plain.xor_lt hm' (by omega)), feed_bound hj8 HD.out HD2.out, by go_num, rfl, rfl, feed_next hj8 HB.out HD2.out HF.out⟩
          case measure => simp [intOf]; omega
        · go_wp2_with fail
          go_round
          case rel => exact ⟨k + 1, m', by omega, hm', by go_num, rfl, by rw [take_snoc s k hlt, Plain.run_snoc, HR.out]; exact feed_end hj hj8 hby HF.out⟩
          case measure => simp [intOf]; omega
    · go_wp2_with (go_at_call 20; go_must (refine (refTurned_any m _ hm).mono ?_); rintro e w' ⟨rfl, rfl⟩)
      go_ret
      exact ⟨ret_nat (by rw [← HR.out, show k = s.size by omega, take_all]; rfl), rfl⟩

/-- The numbers that strings.Clone's own text bears in this program. -/
def cloneNames : Go.Shelf.Ren := { f := fun _ => 24, t := fun k => if k = 37 then 33 else if k = 47 then 46 else k, g := fun k => k }
theorem cloneLays : LaysPu.n25 Tryd.prog cloneNames := {
  mixed := by kernel_rfl
  f25 := by kernel_rfl
  t0 := by kernel_rfl
  a0 := fun _ => by kernel_rfl
  z0 := fun _ => by kernel_rfl
  v0 := fun _ => by kernel_rfl
  i0 := by kernel_rfl
  t3 := by kernel_rfl
  a3 := fun _ => by kernel_rfl
  z3 := fun _ => by kernel_rfl
  v3 := fun _ => by kernel_rfl
  i3 := by kernel_rfl
  t4 := by kernel_rfl
  a4 := fun _ => by kernel_rfl
  z4 := fun _ => by kernel_rfl
  v4 := fun _ => by kernel_rfl
  i4 := by kernel_rfl
  t5 := by kernel_rfl
  a5 := fun _ => by kernel_rfl
  z5 := fun _ => by kernel_rfl
  v5 := fun _ => by kernel_rfl
  i5 := by kernel_rfl
  t9 := by kernel_rfl
  a9 := fun _ => by kernel_rfl
  z9 := fun _ => by kernel_rfl
  v9 := fun _ => by kernel_rfl
  i9 := by kernel_rfl
  t37 := by kernel_rfl
  a37 := fun _ => by kernel_rfl
  z37 := fun _ => by kernel_rfl
  v37 := fun _ => by kernel_rfl
  i37 := by kernel_rfl
  t47 := by kernel_rfl
  a47 := fun _ => by kernel_rfl
  z47 := fun _ => by kernel_rfl
  v47 := fun _ => by kernel_rfl
  i47 := by kernel_rfl }

theorem clone24 (s : ByteArray) (w : World) (hs : s.size ≤ 281474976710656) :
    Calls Tryd.prog 24 #[.string s] w fun e w' => e = .returned (.string s) ∧ Below w.heap.size w w' := AnyPu.stringslite_Clone cloneLays s w hs

theorem clone_any (s : ByteArray) (w : World) (hs : s.size ≤ 281474976710656) :
    Calls Tryd.prog 18 #[.string s] w fun e w' => e = .returned (.string s) ∧ Below w.heap.size w w' := by
  go_enter Tryd.func18, Tryd.ntmps18
  go_wp2_with (go_at_call 24; go_must (refine (clone24 s _ hs).mono ?_); rintro e w' ⟨rfl, hb⟩)
  go_ret
  exact ⟨rfl, hb⟩

theorem below_two {w w1 w2 : World} (h : Below w.heap.size w w1) (k : Below w1.heap.size w1 w2) : Below w.heap.size w w2 := h.trans (k.mono h.size)

/-- Sealed. -/
def sealed (s : ByteArray) : ByteArray := s ++ ⟨(Plain.four (Plain.sum s.data.toList)).toArray⟩

set_option maxHeartbeats 400000 in
theorem seal_any (s : ByteArray) (w : World) (hf : Fours w) (hs : s.size ≤ 281474976710656) :
    Calls Tryd.prog 13 #[.string s] w fun e w' => e = .returned (.string (sealed s)) ∧ Below w.heap.size w w' := by
  have hm : s.size ≤ maxLen := by unfold maxLen; omega
  have hcat : s.size + (Plain.four (Plain.sum s.data.toList)).length ≤ 9223372036854775807 := by rw [Plain.four_length]; omega
  go_enter Tryd.func13, Tryd.ntmps13
  go_wp2_with (first | (go_at_call 11; go_must (refine (sum_any s _ hf hm).mono ?_); rintro e w1 ⟨rfl, hb1⟩) | (go_at_call 17; go_must (refine (tail_any _ _ (Plain.sum_lt _)).mono ?_); rintro e w2 ⟨rfl, hb2⟩))
  go_ret
  exact ⟨rfl, below_two hb1 hb2⟩

end Go.Proofs.YtfnldhbkablehaaDoor

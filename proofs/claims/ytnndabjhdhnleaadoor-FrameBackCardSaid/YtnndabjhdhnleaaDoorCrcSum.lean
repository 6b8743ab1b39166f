/-
  The walks of package crc, its sums: what each function answers, in whatever memory that holds the table.
-/
import Derived.Test.YtnndabjhdhnleaaDoorKit
import Derived.Test.YtnndabjhdhnleaaDoorMath2
import Derived.WalkKit
import Derived.WalkSpells
import Derived.WalkLawsBesides
import Derived.Lib.Hide
import Derived.Shelf.Pu.Clone
import Derived.Deep.QuietTactic
import Derived.BigQuiet
import Derived.Lib.QuietBelow
import Derived.Lib.ConvBytes
namespace Go.Proofs.YtnndabjhdhnleaaDoor
open Go.RowKit

/-- The table lies in block 0. -/
def Fours (w : World) : Prop := 1 < w.heap.size ∧ ∀ i, i < 16 → w.cell? ⟨1, i, none⟩ = some (.int .u32 ((Plain.table.getD i 0 : Nat) : Int))

theorem Fours.below {w w' : World} (h : Fours w) (hb : Below w.heap.size w w') : Fours w' :=
  ⟨Nat.lt_of_lt_of_le h.1 hb.size, fun i hi => (hb.cell (p := ⟨1, i, none⟩) h.1).trans (h.2 i hi)⟩

set_option maxHeartbeats 400000 in
theorem turned_any (n : Nat) (zs : List Nat) (b : Nat) (cap : Nat) (w : World) (hn : n < 4294967296) (hz : ∀ z ∈ zs, z < 4294967296) (hl : zs.length ≤ 2)
    (hc : ∀ i, i < zs.length → w.cell? ⟨b, i, none⟩ = some (.int .u32 ((zs.getD i 0 : Nat) : Int))) :
    Calls Tryd.prog 67 #[.int .u32 n, .slice (some ⟨b, 0, none⟩) zs.length cap] w fun e w' => e = .returned (.int .u32 ((zs.foldl (· ^^^ ·) n : Nat) : Int)) ∧ w = w' := by
  go_enter Tryd.func67, Tryd.ntmps67
  go_wp2
  go_loop [0, 9] (fun v i => ∃ k m : Nat, k ≤ zs.length ∧ m < 4294967296 ∧ i = .int .i64 k ∧ v = .int .u32 m ∧ (zs.take k).foldl (· ^^^ ·) n = m) (fun _ i => zs.length - (intOf i).toNat)
  case atStart => exact ⟨0, n, Nat.zero_le _, hn, rfl, rfl, rfl⟩
  case round =>
    obtain ⟨k, m, hk, hm, rfl, rfl, hf⟩ := hrel
    have HF := Lib.hid hf; clear hf
    by_cases hlt : k < zs.length
    · have hck := hc k hlt
      have hzk : zs[k] < 4294967296 := hz _ (List.getElem_mem _)
      have hx := u32_xor_nat m zs[k] hm hzk
      have hb : m ^^^ zs[k] < 4294967296 := Nat.xor_lt_two_pow (n := 32) hm hzk
      clear hc hz
      go_wp2
      go_round
      case rel => exact ⟨k + 1, m ^^^ zs[k], by omega, hb, by go_num, rfl, by rw [List.take_succ_eq_append_getElem hlt, List.foldl_append, HF.out]; rfl⟩
      case measure => simp [intOf]; omega
    · clear hc hz
      go_wp2
      go_ret
      exact ⟨ret_nat (by rw [← HF.out, List.take_of_length_le (by omega)]), rfl⟩

theorem turned_one (n a : Nat) (b cap : Nat) (w : World) (hn : n < 4294967296) (ha : a < 4294967296) (hc : w.cell? ⟨b, 0, none⟩ = some (.int .u32 (a : Int))) :
    Calls Tryd.prog 67 #[.int .u32 n, .slice (some ⟨b, 0, none⟩) 1 cap] w fun e w' => e = .returned (.int .u32 ((n ^^^ a : Nat) : Int)) ∧ w = w' :=
  turned_any n [a] b cap w hn (by simpa using ha) (by simp) (fun i hi => by
    obtain rfl : i = 0 := by simp at hi; omega
    exact hc)

theorem turned_two (n a c : Nat) (b cap : Nat) (w : World) (hn : n < 4294967296) (ha : a < 4294967296) (hc : c < 4294967296) (h0 : w.cell? ⟨b, 0, none⟩ = some (.int .u32 (a : Int))) (h1 : w.cell? ⟨b, 1, none⟩ = some (.int .u32 (c : Int))) :
    Calls Tryd.prog 67 #[.int .u32 n, .slice (some ⟨b, 0, none⟩) 2 cap] w fun e w' => e = .returned (.int .u32 ((n ^^^ a ^^^ c : Nat) : Int)) ∧ w = w' :=
  turned_any n [a, c] b cap w hn (by simpa using ⟨ha, hc⟩) (by simp) (fun i hi => by
    rcases (show i = 0 ∨ i = 1 by simp at hi; omega) with rfl | rfl
    · exact h0
    · exact h1)

set_option maxHeartbeats 400000 in
theorem past_walk (n c m lo low hi high q4 q8 l4 x : Nat) (w : World) (_hc : c < 256) (hlo : lo < 16) (hhi : hi < 16) (hhigh : high < 4294967296) (hq8 : q8 < 4294967296) (hl4 : l4 < 4294967296)
    (_h0 : 1 < w.heap.size)
    (hm : bits .xor .u32 (n : Int) (c : Int) = (m : Int))
    (hl : bits .and .u32 (m : Int) 15 = (lo : Int)) (hcl : w.cell? ⟨1, lo, none⟩ = some (.int .u32 (low : Int)))
    (h4 : (m : Int) / 16 = (q4 : Int)) (hx : bits .xor .u32 (q4 : Int) (low : Int) = (x : Int))
    (hi1 : bits .and .u32 (x : Int) 15 = (hi : Int)) (hch : w.cell? ⟨1, hi, none⟩ = some (.int .u32 (high : Int)))
    (h8 : (m : Int) / 256 = (q8 : Int)) (h4l : (low : Int) / 16 = (l4 : Int)) :
    Calls Tryd.prog 68 #[.int .u32 n, .int .u8 c] w fun e w' => e = .returned (.int .u32 ((q8 ^^^ l4 ^^^ high : Nat) : Int)) ∧ Below w.heap.size w w' := by
  go_enter Tryd.func68, Tryd.ntmps68
  go_wp2_with (go_at_call 67; go_must (refine (turned_two q8 l4 high _ _ _ hq8 hl4 hhigh (by simp [go_sem]) (by simp [go_sem])).mono ?_); rintro e w' ⟨rfl, rfl⟩)

  go_ret
  exact ⟨rfl, (Below.refl _ _).alloc (Nat.le_refl _) _⟩

theorem past_any (n c : Nat) (w : World) (hf : Fours w) (hn : n < 4294967296) (hc : c < 256) :
    Calls Tryd.prog 68 #[.int .u32 n, .int .u8 c] w fun e w' => e = .returned (.int .u32 ((Plain.byte n c : Nat) : Int)) ∧ Below w.heap.size w w' := by
  rw [Plain.byte_table]
  have hm : n ^^^ c < 4294967296 := Plain.xor_lt hn (by omega)
  have hL := Plain.table_lt ((n ^^^ c) % 16) (by omega)
  have hx : (n ^^^ c) / 16 ^^^ Plain.table.getD ((n ^^^ c) % 16) 0 < 4294967296 := Plain.xor_lt (by omega) hL
  have hH := Plain.table_lt (((n ^^^ c) / 16 ^^^ Plain.table.getD ((n ^^^ c) % 16) 0) % 16) (by omega)
  refine past_walk n c (n ^^^ c) ((n ^^^ c) % 16) _ (((n ^^^ c) / 16 ^^^ Plain.table.getD ((n ^^^ c) % 16) 0) % 16) _ ((n ^^^ c) / 16) ((n ^^^ c) / 256) _ _ w hc (by omega) (by omega) hH (by omega) (by omega) hf.1
    (u32_xor_nat n c hn (by omega)) ?_ (hf.2 _ (by omega)) (by omega) (u32_xor_nat _ _ (by omega) hL) ?_ (hf.2 _ (by omega)) (by omega) (by omega)
  · have := u32_and_nat (n ^^^ c) 15 hm (by omega)
    rw [nat_mask4] at this
    exact this
  · have := u32_and_nat _ 15 hx (by omega)
    rw [nat_mask4] at this
    exact this

set_option maxHeartbeats 400000 in
theorem more_any (n : Nat) (s : ByteArray) (w : World) (hf : Fours w) (hn : n < 4294967296) (hs : s.size ≤ maxLen) :
    Calls Tryd.prog 61 #[.int .u32 n, .string s] w fun e w' => e = .returned (.int .u32 ((Plain.more n s.data.toList : Nat) : Int)) ∧ Below w.heap.size w w' := by
  unfold maxLen at hs
  have h1 : n ^^^ 4294967295 < 4294967296 := Plain.xor_lt hn (by omega)
  go_enter Tryd.func61, Tryd.ntmps61
  go_wp2_with (go_at_call 67; go_must (refine (turned_one n 4294967295 _ _ _ hn (by omega) (by simp [go_sem])).mono ?_); rintro e w' ⟨rfl, rfl⟩)
  go_loopw [5, 12] (fun v i wr => ∃ k m : Nat, k ≤ s.size ∧ m < 4294967296 ∧ i = .int .i64 k ∧ v = .int .u32 m ∧ Plain.run (Plain.turned n) (s.data.toList.take k) = m ∧ Below w.heap.size w wr) (fun _ i _ => s.size - (intOf i).toNat)
  case atStart => exact ⟨0, _, Nat.zero_le _, h1, rfl, rfl, by rw [Plain.turned_comm]; rfl, (Below.refl _ _).alloc (Nat.le_refl _) _⟩
  case round =>
    obtain ⟨k, m, hk, hm, rfl, rfl, hr, hb⟩ := hrel
    have HR := Lib.hid hr; clear hr
    by_cases hlt : k < s.size
    · have hby : s[k].toNat < 256 := s[k].toNat_lt
      have hF := hf.below hb
      go_wp2_with (go_at_call 68; go_must (refine (past_any m s[k].toNat _ hF hm hby).mono ?_); rintro e w' ⟨rfl, hb'⟩)
      go_roundw
      case rel => exact ⟨k + 1, Plain.byte m s[k].toNat, by omega, Plain.byte_lt hm hby, by go_num, rfl, by rw [take_snoc s k hlt, Plain.run_snoc, HR.out], hb.trans (hb'.mono hb.size)⟩
      case measure => simp [intOf]; omega
    · have hsz := hb.size
      go_wp2_with (go_at_call 67; go_must (refine (turned_one m 4294967295 _ _ _ hm (by omega) (by simp [go_sem])).mono ?_); rintro e w' ⟨rfl, rfl⟩)
      go_ret
      exact ⟨ret_nat (by rw [Plain.turned_comm, ← HR.out, show k = s.size by omega, take_all]; rfl), hb.alloc hb.size _⟩

theorem sum_any (s : ByteArray) (w : World) (hf : Fours w) (hs : s.size ≤ maxLen) :
    Calls Tryd.prog 45 #[.string s] w fun e w' => e = .returned (.int .u32 ((Plain.sum s.data.toList : Nat) : Int)) ∧ Below w.heap.size w w' := by
  go_enter Tryd.func45, Tryd.ntmps45
  go_wp2_with (go_at_call 61; go_must (refine (more_any 0 s _ hf (by omega) hs).mono ?_); rintro e w' ⟨rfl, hb⟩)
  go_ret
  exact ⟨rfl, hb⟩

/-- Sums, seals of constants. -/
theorem sum_const (s : ByteArray) (n : Nat) (hn : Plain.sum s.data.toList = n) (hs : s.size ≤ maxLen) (w : World) (hf : Fours w) :
    Calls Tryd.prog 45 #[.string s] w fun e w' => e = .returned (.int .u32 (n : Int)) ∧ Below w.heap.size w w' := hn ▸ sum_any s w hf hs

theorem more_const (n : Nat) (s : ByteArray) (m : Nat) (hm : Plain.more n s.data.toList = m) (hn : n < 4294967296) (hs : s.size ≤ maxLen) (w : World) (hf : Fours w) :
    Calls Tryd.prog 61 #[.int .u32 n, .string s] w fun e w' => e = .returned (.int .u32 (m : Int)) ∧ Below w.heap.size w w' := hm ▸ more_any n s w hf hn hs

theorem more_lit (x : Int) (n : Nat) (s : ByteArray) (m : Nat) (hx : (n : Int) = x) (hm : Plain.more n s.data.toList = m) (hn : n < 4294967296) (hs : s.size ≤ maxLen) (w : World) (hf : Fours w) :
    Calls Tryd.prog 61 #[.int .u32 x, .string s] w fun e w' => e = .returned (.int .u32 (m : Int)) ∧ Below w.heap.size w w' := hx ▸ more_const n s m hm hn hs w hf

theorem sum_four {u a b v : List UInt8} (ha : a.length = 4) (hb : b.length = 4) : Plain.sum (u ++ a ++ v) = Plain.sum (u ++ b ++ v) ↔ a = b := by
  constructor
  · intro h
    unfold Plain.sum Plain.more at h
    have h1 := congrArg Plain.turned h
    rw [Plain.turned_turned, Plain.turned_turned, Plain.run_append, Plain.run_append _ (u ++ b), Plain.run_append, Plain.run_append] at h1
    have hr : Plain.run (Plain.turned 0) u < 4294967296 := Plain.run_lt u (Plain.turned_lt (by omega))
    have h2 := Plain.run_inj v (Plain.run_lt a hr) (Plain.run_lt b hr) h1
    rw [Plain.run_four _ _ ha, Plain.run_four _ _ hb] at h2
    have h3 := Plain.many_inj 32 (Plain.xor_lt hr (Plain.num_four_lt a ha)) (Plain.xor_lt hr (Plain.num_four_lt b hb)) h2
    apply Plain.num_inj (by rw [ha, hb])
    have h4 := congrArg (Plain.run (Plain.turned 0) u ^^^ ·) h3
    simpa only [Plain.xor_back] using h4
  · rintro rfl
    rfl

theorem sum_eq (l : List UInt8) : Plain.sum l = Plain.turned (Plain.run 4294967295 l) := by
  unfold Plain.sum Plain.more
  rw [Plain.turned_eq 0, Nat.xor_zero]

end Go.Proofs.YtnndabjhdhnleaaDoor

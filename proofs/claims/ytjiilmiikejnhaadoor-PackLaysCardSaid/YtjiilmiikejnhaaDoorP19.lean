/-
  The walks of package crc, its sums: what each function answers, in whatever memory that holds the table. The walk of strings.Clone. The walks of package crc, its seals. The walks of the reference for layer 1.
-/
import Derived.Test.YtjiilmiikejnhaaDoorP04
import Derived.Test.YtjiilmiikejnhaaDoorP18
import Derived.WalkKit
import Derived.WalkSpells
import Derived.WalkLawsBesides
import Derived.Lib.Hide
import Derived.Shelf.Pu.Clone
import Derived.Deep.QuietTactic
import Derived.BigQuiet
import Derived.Lib.QuietBelow
import Derived.Lib.ConvBytes
set_option linter.unusedVariables false
set_option linter.unusedSimpArgs false
namespace Go.Proofs.YtjiilmiikejnhaaDoor
open Go.RowKit

/-- The table lies in block 0. -/
def Fours (w : World) : Prop := 1 < w.heap.size ∧ ∀ i, i < 16 → w.cell? ⟨1, i, none⟩ = some (.int .u32 ((Plain.table.getD i 0 : Nat) : Int))

theorem Fours.below {w w' : World} (h : Fours w) (hb : Below w.heap.size w w') : Fours w' :=
  ⟨Nat.lt_of_lt_of_le h.1 hb.size, fun i hi => (hb.cell (p := ⟨1, i, none⟩) h.1).trans (h.2 i hi)⟩

set_option maxHeartbeats 400000 in
theorem turned_any (n : Nat) (zs : List Nat) (b : Nat) (cap : Nat) (w : World) (hn : n < 4294967296) (hz : ∀ z ∈ zs, z < 4294967296) (hl : zs.length ≤ 2)
    (hc : ∀ i, i < zs.length → w.cell? ⟨b, i, none⟩ = some (.int .u32 ((zs.getD i 0 : Nat) : Int))) :
    Calls Tryd.prog 86 #[.int .u32 n, .slice (some ⟨b, 0, none⟩) zs.length cap] w fun e w' => e = .returned (.int .u32 ((zs.foldl (· ^^^ ·) n : Nat) : Int)) ∧ w = w' := by
  go_enter Tryd.func86, Tryd.ntmps86
  go_wp2
  go_loop [0, 9] (fun v i => ∃ k m : Nat, k ≤ zs.length ∧ m < 4294967296 ∧ i = .int .i64 k ∧ v = .int .u32 m ∧ (zs.take k).foldl (· ^^^ ·) n = m) (fun _ i => zs.length - (intOf i).toNat)
  case atStart => exact ⟨0, n, Nat.zero_le _, hn, rfl, rfl, rfl⟩
  case round =>
    obtain ⟨k, m, hk, hm, rfl, rfl, hf⟩ := hrel
    have HF := Lib.hid hf; clear hf
    by_cases hlt : k < zs.length
    · have hck := hc k hlt
      have hzk : zs[k] < 4294967296 := hz _ (List.getElem_mem _)
      have hx := u32_xor_nat m zs[k] hm hzk
      have hb : m ^^^ zs[k] < 4294967296 := Nat.xor_lt_two_pow (n := 32) hm hzk
      clear hc hz
      go_wp2
      go_round
      case rel => exact ⟨k + 1, m ^^^ zs[k], by omega, hb, by go_num, rfl, by rw [List.take_succ_eq_append_getElem hlt, List.foldl_append, HF.out]; rfl⟩
      case measure => simp [intOf]; omega
    · clear hc hz
      go_wp2
      go_ret
      exact ⟨ret_nat (by rw [← HF.out, List.take_of_length_le (by omega)]), rfl⟩

theorem turned_one (n a : Nat) (b cap : Nat) (w : World) (hn : n < 4294967296) (ha : a < 4294967296) (hc : w.cell? ⟨b, 0, none⟩ = some (.int .u32 (a : Int))) :
    Calls Tryd.prog 86 #[.int .u32 n, .slice (some ⟨b, 0, none⟩) 1 cap] w fun e w' => e = .returned (.int .u32 ((n ^^^ a : Nat) : Int)) ∧ w = w' :=
  turned_any n [a] b cap w hn (by simpa using ha) (by simp) (fun i hi => by
    obtain rfl : i = 0 := by simp at hi; omega
    exact hc)

theorem turned_two (n a c : Nat) (b cap : Nat) (w : World) (hn : n < 4294967296) (ha : a < 4294967296) (hc : c < 4294967296) (h0 : w.cell? ⟨b, 0, none⟩ = some (.int .u32 (a : Int))) (h1 : w.cell? ⟨b, 1, none⟩ = some (.int .u32 (c : Int))) :
    Calls Tryd.prog 86 #[.int .u32 n, .slice (some ⟨b, 0, none⟩) 2 cap] w fun e w' => e = .returned (.int .u32 ((n ^^^ a ^^^ c : Nat) : Int)) ∧ w = w' :=
  turned_any n [a, c] b cap w hn (by simpa using ⟨ha, hc⟩) (by simp) (fun i hi => by
    rcases (show i = 0 ∨ i = 1 by simp at hi; omega) with rfl | rfl
    · exact h0
    · exact h1)

set_option maxHeartbeats 400000 in
theorem past_walk (n c m lo low hi high q4 q8 l4 x : Nat) (w : World) (_hc : c < 256) (hlo : lo < 16) (hhi : hi < 16) (hhigh : high < 4294967296) (hq8 : q8 < 4294967296) (hl4 : l4 < 4294967296)
    (_h0 : 1 < w.heap.size)
    (hm : bits .xor .u32 (n : Int) (c : Int) = (m : Int))
    (hl : bits .and .u32 (m : Int) 15 = (lo : Int)) (hcl : w.cell? ⟨1, lo, none⟩ = some (.int .u32 (low : Int)))
    (h4 : (m : Int) / 16 = (q4 : Int)) (hx : bits .xor .u32 (q4 : Int) (low : Int) = (x : Int))
    (hi1 : bits .and .u32 (x : Int) 15 = (hi : Int)) (hch : w.cell? ⟨1, hi, none⟩ = some (.int .u32 (high : Int)))
    (h8 : (m : Int) / 256 = (q8 : Int)) (h4l : (low : Int) / 16 = (l4 : Int)) :
    Calls Tryd.prog 87 #[.int .u32 n, .int .u8 c] w fun e w' => e = .returned (.int .u32 ((q8 ^^^ l4 ^^^ high : Nat) : Int)) ∧ Below w.heap.size w w' := by
  go_enter Tryd.func87, Tryd.ntmps87
  go_wp2_with (go_at_call 86; go_must (refine (turned_two q8 l4 high _ _ _ hq8 hl4 hhigh (by simp [go_sem]) (by simp [go_sem])).mono ?_); rintro e w' ⟨rfl, rfl⟩)

  go_ret
  exact ⟨rfl, (Below.refl _ _).alloc (Nat.le_refl _) _⟩

theorem past_any (n c : Nat) (w : World) (hf : Fours w) (hn : n < 4294967296) (hc : c < 256) :
    Calls Tryd.prog 87 #[.int .u32 n, .int .u8 c] w fun e w' => e = .returned (.int .u32 ((Plain.byte n c : Nat) : Int)) ∧ Below w.heap.size w w' := by
  rw [Plain.byte_table]
  have hm : n ^^^ c < 4294967296 := Plain.xor_lt hn (by omega)
  have hL := Plain.table_lt ((n ^^^ c) % 16) (by omega)
  have hx : (n ^^^ c) / 16 ^^^ Plain.table.getD ((n ^^^ c) % 16) 0 < 4294967296 := Plain.xor_lt (by omega) hL
  have hH := Plain.table_lt (((n ^^^ c) / 16 ^^^ Plain.table.getD ((n ^^^ c) % 16) 0) % 16) (by omega)
  refine past_walk n c (n ^^^ c) ((n ^^^ c) % 16) _ (((n ^^^ c) / 16 ^^^ Plain.table.getD ((n ^^^ c) % 16) 0) % 16) _ ((n ^^^ c) / 16) ((n ^^^ c) / 256) _ _ w hc (by omega) (by omega) hH (by omega) (by omega) hf.1
    (u32_xor_nat n c hn (by omega)) ?_ (hf.2 _ (by omega)) (by omega) (u32_xor_nat _ _ (by omega) hL) ?_ (hf.2 _ (by omega)) (by omega) (by omega)
  · have := u32_and_nat (n ^^^ c) 15 hm (by omega)
    rw [nat_mask4] at this
    exact this
  · have := u32_and_nat _ 15 hx (by omega)
    rw [nat_mask4] at this
    exact this

set_option maxHeartbeats 400000 in
theorem more_any (n : Nat) (s : ByteArray) (w : World) (hf : Fours w) (hn : n < 4294967296) (hs : s.size ≤ maxLen) :
    Calls Tryd.prog 61 #[.int .u32 n, .string s] w fun e w' => e = .returned (.int .u32 ((Plain.more n s.data.toList : Nat) : Int)) ∧ Below w.heap.size w w' := by
  unfold maxLen at hs
  have h1 : n ^^^ 4294967295 < 4294967296 := Plain.xor_lt hn (by omega)
  go_enter Tryd.func61, Tryd.ntmps61
  go_wp2_with (go_at_call 86; go_must (refine (turned_one n 4294967295 _ _ _ hn (by omega) (by simp [go_sem])).mono ?_); rintro e w' ⟨rfl, rfl⟩)
  go_loopw [5, 12] (fun v i wr => ∃ k m : Nat, k ≤ s.size ∧ m < 4294967296 ∧ i = .int .i64 k ∧ v = .int .u32 m ∧ Plain.run (Plain.turned n) (s.data.toList.take k) = m ∧ Below w.heap.size w wr) (fun _ i _ => s.size - (intOf i).toNat)
  case atStart => exact ⟨0, _, Nat.zero_le _, h1, rfl, rfl, by rw [Plain.turned_comm]; rfl, (Below.refl _ _).alloc (Nat.le_refl _) _⟩
  case round =>
    obtain ⟨k, m, hk, hm, rfl, rfl, hr, hb⟩ := hrel
    have HR := Lib.hid hr; clear hr
    by_cases hlt : k < s.size
    · have hby : s[k].toNat < 256 := s[k].toNat_lt
      have hF := hf.below hb
      go_wp2_with (go_at_call 87; go_must (refine (past_any m s[k].toNat _ hF hm hby).mono ?_); rintro e w' ⟨rfl, hb'⟩)
      go_roundw
      case rel => exact ⟨k + 1, Plain.byte m s[k].toNat, by omega, Plain.byte_lt hm hby, by go_num, rfl, by rw [take_snoc s k hlt, Plain.run_snoc, HR.out], hb.trans (hb'.mono hb.size)⟩
      case measure => simp [intOf]; omega
    · have hsz := hb.size
      go_wp2_with (go_at_call 86; go_must (refine (turned_one m 4294967295 _ _ _ hm (by omega) (by simp [go_sem])).mono ?_); rintro e w' ⟨rfl, rfl⟩)
      go_ret
      exact ⟨ret_nat (by rw [Plain.turned_comm, ← HR.out, show k = s.size by omega, take_all]; rfl), hb.alloc hb.size _⟩

theorem sum_any (s : ByteArray) (w : World) (hf : Fours w) (hs : s.size ≤ maxLen) :
    Calls Tryd.prog 42 #[.string s] w fun e w' => e = .returned (.int .u32 ((Plain.sum s.data.toList : Nat) : Int)) ∧ Below w.heap.size w w' := by
  go_enter Tryd.func42, Tryd.ntmps42
  go_wp2_with (go_at_call 61; go_must (refine (more_any 0 s _ hf (by omega) hs).mono ?_); rintro e w' ⟨rfl, hb⟩)
  go_ret
  exact ⟨rfl, hb⟩

/-- Sums, seals of constants. -/
theorem sum_const (s : ByteArray) (n : Nat) (hn : Plain.sum s.data.toList = n) (hs : s.size ≤ maxLen) (w : World) (hf : Fours w) :
    Calls Tryd.prog 42 #[.string s] w fun e w' => e = .returned (.int .u32 (n : Int)) ∧ Below w.heap.size w w' := hn ▸ sum_any s w hf hs

theorem more_const (n : Nat) (s : ByteArray) (m : Nat) (hm : Plain.more n s.data.toList = m) (hn : n < 4294967296) (hs : s.size ≤ maxLen) (w : World) (hf : Fours w) :
    Calls Tryd.prog 61 #[.int .u32 n, .string s] w fun e w' => e = .returned (.int .u32 (m : Int)) ∧ Below w.heap.size w w' := hm ▸ more_any n s w hf hn hs

theorem more_lit (x : Int) (n : Nat) (s : ByteArray) (m : Nat) (hx : (n : Int) = x) (hm : Plain.more n s.data.toList = m) (hn : n < 4294967296) (hs : s.size ≤ maxLen) (w : World) (hf : Fours w) :
    Calls Tryd.prog 61 #[.int .u32 x, .string s] w fun e w' => e = .returned (.int .u32 (m : Int)) ∧ Below w.heap.size w w' := hx ▸ more_const n s m hm hn hs w hf

theorem sum_four {u a b v : List UInt8} (ha : a.length = 4) (hb : b.length = 4) : Plain.sum (u ++ a ++ v) = Plain.sum (u ++ b ++ v) ↔ a = b := by
  constructor
  · intro h
    unfold Plain.sum Plain.more at h
    have h1 := congrArg Plain.turned h
    rw [Plain.turned_turned, Plain.turned_turned, Plain.run_append, Plain.run_append _ (u ++ b), Plain.run_append, Plain.run_append] at h1
    have hr : Plain.run (Plain.turned 0) u < 4294967296 := Plain.run_lt u (Plain.turned_lt (by omega))
    have h2 := Plain.run_inj v (Plain.run_lt a hr) (Plain.run_lt b hr) h1
    rw [Plain.run_four _ _ ha, Plain.run_four _ _ hb] at h2
    have h3 := Plain.many_inj 32 (Plain.xor_lt hr (Plain.num_four_lt a ha)) (Plain.xor_lt hr (Plain.num_four_lt b hb)) h2
    apply Plain.num_inj (by rw [ha, hb])
    have h4 := congrArg (Plain.run (Plain.turned 0) u ^^^ ·) h3
    simpa only [Plain.xor_back] using h4
  · rintro rfl
    rfl

theorem sum_eq (l : List UInt8) : Plain.sum l = Plain.turned (Plain.run 4294967295 l) := by
  unfold Plain.sum Plain.more
  rw [Plain.turned_eq 0, Nat.xor_zero]

end Go.Proofs.YtjiilmiikejnhaaDoor
namespace Go.Proofs.YtjiilmiikejnhaaDoor
open Go.RowKit

/-- The numbers that strings.Clone's own text bears in this program. -/
def cloneNames : Go.Shelf.Ren := { f := fun _ => 93, t := fun k => if k = 37 then 43 else if k = 47 then 173 else if k = 9 then 9 else if k = 5 then 5 else if k = 4 then 4 else k, g := fun k => k }

theorem cloneLays : LaysPu.n25 Tryd.prog cloneNames := {
  mixed := by kernel_rfl
  f25 := by kernel_rfl
  t0 := by kernel_rfl
  a0 := fun _ => by kernel_rfl
  z0 := fun _ => by kernel_rfl
  v0 := fun _ => by kernel_rfl
  i0 := by kernel_rfl
  t3 := by kernel_rfl
  a3 := fun _ => by kernel_rfl
  z3 := fun _ => by kernel_rfl
  v3 := fun _ => by kernel_rfl
  i3 := by kernel_rfl
  t4 := by kernel_rfl
  a4 := fun _ => by kernel_rfl
  z4 := fun _ => by kernel_rfl
  v4 := fun _ => by kernel_rfl
  i4 := by kernel_rfl
  t5 := by kernel_rfl
  a5 := fun _ => by kernel_rfl
  z5 := fun _ => by kernel_rfl
  v5 := fun _ => by kernel_rfl
  i5 := by kernel_rfl
  t9 := by kernel_rfl
  a9 := fun _ => by kernel_rfl
  z9 := fun _ => by kernel_rfl
  v9 := fun _ => by kernel_rfl
  i9 := by kernel_rfl
  t37 := by kernel_rfl
  a37 := fun _ => by kernel_rfl
  z37 := fun _ => by kernel_rfl
  v37 := fun _ => by kernel_rfl
  i37 := by kernel_rfl
  t47 := by kernel_rfl
  a47 := fun _ => by kernel_rfl
  z47 := fun _ => by kernel_rfl
  v47 := fun _ => by kernel_rfl
  i47 := by kernel_rfl }

theorem clone24 (s : ByteArray) (w : World) (hs : s.size ≤ 281474976710656) :
    Calls Tryd.prog 93 #[.string s] w fun e w' => e = .returned (.string s) ∧ Below w.heap.size w w' := AnyPu.stringslite_Clone cloneLays s w hs

theorem clone_any (s : ByteArray) (w : World) (hs : s.size ≤ 281474976710656) :
    Calls Tryd.prog 78 #[.string s] w fun e w' => e = .returned (.string s) ∧ Below w.heap.size w w' := by
  go_enter Tryd.func78, Tryd.ntmps78
  go_wp2_with (go_at_call 93; go_must (refine (clone24 s _ hs).mono ?_); rintro e w' ⟨rfl, hb⟩)
  go_ret
  exact ⟨rfl, hb⟩

end Go.Proofs.YtjiilmiikejnhaaDoor
namespace Go.Proofs.YtjiilmiikejnhaaDoor
open Go.RowKit

theorem four_str (n : Nat) (hn : n < 4294967296) : strOfNums [(n : Int) % 256, (n : Int) / 256 % 256, (n : Int) / 65536 % 256, (n : Int) / 16777216] = ⟨(Plain.four n).toArray⟩ := by
  have e : ((n : Int) / 16777216).toNat = n / 16777216 % 256 := by omega
  have e1 : ((n : Int) / 65536 % 256).toNat = n / 65536 % 256 := by omega
  have e2 : ((n : Int) / 256 % 256).toNat = n / 256 % 256 := by omega
  have e3 : ((n : Int) % 256).toNat = n % 256 := by omega
  simp [strOfNums, Plain.four, e, e1, e2, e3]

def tailCells (n : Nat) : Nat → Array Value
  | 0 => #[.int .u8 0, .int .u8 0, .int .u8 0, .int .u8 0]
  | 1 => #[.int .u8 ((n : Int) % 256), .int .u8 0, .int .u8 0, .int .u8 0]
  | 2 => #[.int .u8 ((n : Int) % 256), .int .u8 ((n : Int) / 256 % 256), .int .u8 0, .int .u8 0]
  | 3 => #[.int .u8 ((n : Int) % 256), .int .u8 ((n : Int) / 256 % 256), .int .u8 ((n : Int) / 65536 % 256), .int .u8 0]
  | _ => #[.int .u8 ((n : Int) % 256), .int .u8 ((n : Int) / 256 % 256), .int .u8 ((n : Int) / 65536 % 256), .int .u8 ((n : Int) / 16777216)]

def TailRel (n : Nat) (w : World) (i : Value) (wr : World) : Prop := ∃ k : Nat, k ≤ 4 ∧ i = .int .i64 k ∧ wr = w.alloc (.cells (tailCells n k) 118)

set_option maxHeartbeats 400000 in
theorem tail_any (n : Nat) (w : World) (hn : n < 4294967296) :
    Calls Tryd.prog 41 #[.int .u32 n] w fun e w' => e = .returned (.string ⟨(Plain.four n).toArray⟩) ∧ Below w.heap.size w w' := by
  have hcv := run_convert_bytes_arg (P := Tryd.prog) _ 43 5 Tryd.underlying43 Tryd.underlying5 w.heap.size 0 4 4 [(n : Int) % 256, (n : Int) / 256 % 256, (n : Int) / 65536 % 256, (n : Int) / 16777216] rfl (four_cells w _ _ _ _ 118) 9 Tryd.underlying9
  rw [four_str n hn] at hcv
  go_enter Tryd.func41, Tryd.ntmps41
  go_wp2_with fail
  go_loopw [5] (fun i wr => TailRel n w i wr) (fun i _ => 4 - (intOf i).toNat)
  case atStart => exact ⟨0, by omega, rfl, rfl⟩
  case round =>
    obtain ⟨k, hk, rfl, rfl⟩ := hrel
    rcases (show k = 4 ∨ k < 4 by omega) with rfl | hk4
    · simp only [tailCells]
      go_wp2
      go_ret
      exact ⟨rfl, (Below.refl _ _).alloc (Nat.le_refl _) _⟩
    · rcases (show k = 0 ∨ k = 1 ∨ k = 2 ∨ k = 3 by omega) with rfl | rfl | rfl | rfl <;> simp only [tailCells]
      all_goals
        go_wp2
        go_roundw
        case rel => first | exact ⟨1, by omega, rfl, rfl⟩ | exact ⟨2, by omega, rfl, rfl⟩ | exact ⟨3, by omega, rfl, rfl⟩ | exact ⟨4, by omega, rfl, rfl⟩
        case measure => simp [intOf]

/-- Sealed. -/
def sealed (s : ByteArray) : ByteArray := s ++ ⟨(Plain.four (Plain.sum s.data.toList)).toArray⟩

set_option maxHeartbeats 400000 in
theorem seal_any (s : ByteArray) (w : World) (hf : Fours w) (hs : s.size ≤ 281474976710656) :
    Calls Tryd.prog 20 #[.string s] w fun e w' => e = .returned (.string (sealed s)) ∧ Below w.heap.size w w' := by
  have hm : s.size ≤ maxLen := by unfold maxLen; omega
  have hcat : s.size + (Plain.four (Plain.sum s.data.toList)).length ≤ 9223372036854775807 := by rw [Plain.four_length]; omega
  go_enter Tryd.func20, Tryd.ntmps20
  go_wp2_with (first | (go_at_call 42; go_must (refine (sum_any s _ hf hm).mono ?_); rintro e w1 ⟨rfl, hb1⟩) | (go_at_call 41; go_must (refine (tail_any _ _ (Plain.sum_lt _)).mono ?_); rintro e w2 ⟨rfl, hb2⟩))
  go_ret
  exact ⟨rfl, below_two hb1 hb2⟩

/-- What is ahead of the last four bytes; these. -/
def body (s : ByteArray) : ByteArray := s.extract 0 (s.size - 4)

def last (s : ByteArray) : ByteArray := s.extract (s.size - 4) s.size

def fourOf (s : ByteArray) : ByteArray := ⟨(Plain.four (Plain.sum s.data.toList)).toArray⟩

def isSeal (s : ByteArray) : Bool := decide (4 ≤ s.size) && decide (last s = fourOf (body s))

def opened (s : ByteArray) : ByteArray := if isSeal s = true then body s else ⟨#[]⟩

set_option maxHeartbeats 400000 in
theorem open_short (s : ByteArray) (w : World) (h : s.size < 4) :
    Calls Tryd.prog 58 #[.string s] w fun e w' => e = .returned (.tuple #[.string ⟨#[]⟩, .bool false]) ∧ Below w.heap.size w w' := by
  have h1 : (s.size : Int) - 4 < 0 := by omega
  have h2 : (s.size : Int) < 4 := by omega
  go_enter Tryd.func58, Tryd.ntmps58
  go_wp2
  go_quiet (fail)
  go_wp2
  go_ret2
  exact ⟨rfl, below_drewN (Below.refl _ _) _⟩

set_option maxHeartbeats 400000 in
theorem open_walk (s B L F : ByteArray) (k N : Nat) (w : World) (h1 : (s.size : Int) - 4 = (k : Int)) (_h2 : k ≤ s.size) (_h3 : k ≤ 281474976710656) (hB : s.extract 0 k = B) (hL : s.extract k s.size = L) (b : Bool) (hb : (L.toList == F.toList) = b)
    (cS : ∀ d os, Calls Tryd.prog 42 #[.string B] (Sort.grow (redrawn w d) os) fun e w'' => e = .returned (.int .u32 (N : Int)) ∧ ∃ p : Regrown, w'' = Sort.grow (redrawn w p.d) p.os)
    (cT : ∀ d os, Calls Tryd.prog 41 #[.int .u32 (N : Int)] (Sort.grow (redrawn w d) os) fun e w'' => e = .returned (.string F) ∧ ∃ p : Regrown, w'' = Sort.grow (redrawn w p.d) p.os)
    (cC : ∀ d os, Calls Tryd.prog 78 #[.string B] (Sort.grow (redrawn w d) os) fun e w'' => e = .returned (.string B) ∧ ∃ p : Regrown, w'' = Sort.grow (redrawn w p.d) p.os) :
    Calls Tryd.prog 58 #[.string s] w fun e w' => e = .returned (.tuple #[.string (if b = true then B else ⟨#[]⟩), .bool b]) ∧ Below w.heap.size w w' := by
  go_enter Tryd.func58, Tryd.ntmps58
  go_wp2
  refine wp_region_quiet_below (by kernel_rfl) (by kernel_rfl) ?_
  repeat (quiet_step (first | (go_at_call 42; with_reducible exact cS _ _) | (go_at_call 41; with_reducible exact cT _ _)))
  refine wpQuiet_nil ?_
  intro _ hw'
  obtain ⟨⟨dq, osq⟩, hw''⟩ := hw'
  subst hw''
  cases b
  · go_wp2_with fail
    · go_ret2
      exact ⟨rfl, below_regrown w dq osq⟩
    · have h : 0 ≤ (k : Int) ∧ (!false) = false := by assumption
      exact absurd h.2 (by decide)
  · go_wp2_with (go_at_call 78; go_must (refine (cC _ _).mono ?_); rintro e w' ⟨rfl, ⟨⟨dq2, osq2⟩, rfl⟩⟩)
    · have h : (k : Int) < 0 ∨ (!true) = true := by assumption
      rcases h with h | h
      · omega
      · exact absurd h (by decide)
    · go_ret2
      exact ⟨rfl, below_regrown w dq2 osq2⟩

theorem open_any (s : ByteArray) (w : World) (hf : Fours w) (hs : s.size ≤ 281474976710656) :
    Calls Tryd.prog 58 #[.string s] w fun e w' => e = .returned (.tuple #[.string (opened s), .bool (isSeal s)]) ∧ Below w.heap.size w w' := by
  by_cases h : s.size < 4
  · have h1 : isSeal s = false := by unfold isSeal; simp; omega
    unfold opened
    rw [h1]
    exact open_short s w h
  · have h1 : isSeal s = decide (last s = fourOf (body s)) := by unfold isSeal; rw [decide_eq_true (by omega), Bool.true_and]
    have hb : (body s).size ≤ maxLen := by unfold body maxLen; rw [ByteArray.size_extract]; omega
    have hc : (body s).size ≤ 281474976710656 := by unfold body; rw [ByteArray.size_extract]; omega
    exact open_walk s (body s) (last s) (fourOf (body s)) (s.size - 4) (Plain.sum (body s).data.toList) w (by omega) (by omega) (by omega) rfl rfl (isSeal s) (by rw [h1, toList_beq])
      (quiet_call fun w0 hb0 => sum_any (body s) w0 (hf.below hb0) hb)
      (quiet_call fun w0 _ => tail_any (Plain.sum (body s).data.toList) w0 (Plain.sum_lt _))
      (quiet_call fun w0 _ => clone_any (body s) w0 hc)

theorem open_const (s t : ByteArray) (b : Bool) (hb : isSeal s = b) (ht : opened s = t) (hs : s.size ≤ 281474976710656) (w : World) (hf : Fours w) :
    Calls Tryd.prog 58 #[.string s] w fun e w' => e = .returned (.tuple #[.string t, .bool b]) ∧ Below w.heap.size w w' := hb ▸ ht ▸ open_any s w hf hs

theorem seal_const (s t : ByteArray) (ht : sealed s = t) (hs : s.size ≤ 281474976710656) (w : World) (hf : Fours w) :
    Calls Tryd.prog 20 #[.string s] w fun e w' => e = .returned (.string t) ∧ Below w.heap.size w w' := ht ▸ seal_any s w hf hs

theorem sealed_list (s : ByteArray) : (sealed s).data.toList = s.data.toList ++ Plain.four (Plain.sum s.data.toList) := by unfold sealed; rw [ba_append]

theorem sealed_size (s : ByteArray) : (sealed s).size = s.size + 4 := by
  rw [← ba_length, sealed_list, List.length_append, Plain.four_length, ba_length]

theorem body_sealed (s : ByteArray) : body (sealed s) = s := by
  apply ba_ext
  unfold body
  rw [ba_extract, sealed_size, sealed_list]
  simp

theorem last_sealed (s : ByteArray) : last (sealed s) = fourOf s := by
  apply ba_ext
  unfold last
  rw [ba_extract, sealed_size, sealed_list]
  have h := Plain.four_length (Plain.sum s.data.toList)
  simp only [fourOf]
  rw [show s.size + 4 - 4 = s.data.toList.length by simp, List.drop_left, List.take_of_length_le (by rw [h]; simp)]

theorem isSeal_sealed (s : ByteArray) : isSeal (sealed s) = true := by
  unfold isSeal
  rw [last_sealed, body_sealed, sealed_size]
  simp

theorem opened_sealed (s : ByteArray) : opened (sealed s) = s := by
  unfold opened
  rw [if_pos (isSeal_sealed s), body_sealed]

theorem body_last (x : ByteArray) (h : 4 ≤ x.size) : x.data.toList = (body x).data.toList ++ (last x).data.toList ∧ (last x).data.toList.length = 4 := by
  constructor
  · unfold body last
    rw [cut_join]
  · unfold last
    rw [ba_length, ByteArray.size_extract]
    omega

theorem isSeal_run (x : ByteArray) (h : isSeal x = true) : Plain.run 4294967295 x.data.toList = Plain.many 32 4294967295 := by
  unfold isSeal at h
  rw [Bool.and_eq_true, decide_eq_true_eq, decide_eq_true_eq] at h
  obtain ⟨h4, he⟩ := h
  obtain ⟨e1, e2⟩ := body_last x h4
  rw [e1]
  apply (Plain.seal_run _ _ e2).1
  rw [he]
  rfl

theorem seal_split (u a : ByteArray) (ha : a.size = 4) : isSeal (u ++ a) = decide (sealed u = u ++ a) ∧ (isSeal (u ++ a) = true → opened (u ++ a) = u) := by
  have hs : (u ++ a).size = u.size + 4 := by rw [← ba_length, ba_append, List.length_append, ba_length, ba_length, ha]
  have hbody : body (u ++ a) = u := by
    apply ba_ext
    unfold body
    rw [ba_extract, hs, ba_append]
    simp
  have hlast : last (u ++ a) = a := by
    apply ba_ext
    unfold last
    rw [ba_extract, hs, ba_append]
    rw [show u.size + 4 - 4 = u.data.toList.length by simp, List.drop_left, List.take_of_length_le (by rw [ba_length, ba_length, ha]; omega)]
  constructor
  · unfold isSeal
    rw [hbody, hlast, hs, decide_eq_true (by omega), Bool.true_and]
    rw [Bool.eq_iff_iff, decide_eq_true_eq, decide_eq_true_eq]
    constructor
    · intro h
      rw [h]
      rfl
    · intro h
      apply ba_ext
      have e := congrArg (fun x : ByteArray => x.data.toList) h
      simp only [sealed_list, ba_append] at e
      exact (List.append_cancel_left e).symm
  · intro h
    unfold opened
    rw [if_pos h, hbody]

end Go.Proofs.YtjiilmiikejnhaaDoor
namespace Go.Proofs.YtjiilmiikejnhaaDoor
open Go.RowKit

set_option maxHeartbeats 400000 in
theorem four_any (n : Nat) (w : World) (hn : n < 4294967296) :
    Calls Tryd.prog 35 #[.int .u32 n] w fun e w' => e = .returned (.string ⟨(Plain.four n).toArray⟩) ∧ Below w.heap.size w w' := by
  have hcv := run_convert_bytes_arg (P := Tryd.prog) _ 43 5 Tryd.underlying43 Tryd.underlying5 w.heap.size 0 4 4 [(n : Int) % 256, (n : Int) / 256 % 256, (n : Int) / 65536 % 256, (n : Int) / 16777216] rfl (four_cells w _ _ _ _ 5) 9 Tryd.underlying9
  rw [four_str n hn] at hcv
  go_enter Tryd.func35, Tryd.ntmps35
  go_wp2
  go_ret
  exact ⟨rfl, (Below.refl _ _).alloc (Nat.le_refl _) _⟩

set_option maxHeartbeats 400000 in
theorem bit_any (n b : Nat) (w : World) (hn : n < 4294967296) (hb : b ≤ 1) :
    Calls Tryd.prog 54 #[.int .u32 n, .int .u32 b] w fun e w' => e = .returned (.int .u32 ((Plain.one (n ^^^ b) : Nat) : Int)) ∧ w = w' := by
  rw [← Plain.refBit_one n b hb]
  unfold Plain.refBit
  by_cases h : n % 2 = b
  · have h' : ((n : Int) % 2 != (b : Int)) = false := by simp; omega
    rw [if_pos h]
    clear h
    go_enter Tryd.func54, Tryd.ntmps54
    go_wp2
    go_ret
    exact ⟨rfl, rfl⟩
  · have h' : ((n : Int) % 2 != (b : Int)) = true := by simp; omega
    obtain ⟨q, hq⟩ : ∃ q : Nat, q = n / 2 := ⟨_, rfl⟩
    have hx : bits .xor .u32 (q : Int) 3988292384 = ((q ^^^ 3988292384 : Nat) : Int) := u32_xor_nat q 3988292384 (by omega) (by omega)
    have h2 : (n : Int) / 2 = (q : Int) := by omega
    rw [if_neg h, ← hq]
    clear h hq
    go_enter Tryd.func54, Tryd.ntmps54
    go_wp2
    go_ret
    exact ⟨rfl, rfl⟩

theorem refTurned_any (n : Nat) (w : World) (hn : n < 4294967296) :
    Calls Tryd.prog 53 #[.int .u32 n] w fun e w' => e = .returned (.int .u32 ((Plain.turned n : Nat) : Int)) ∧ w = w' := by
  rw [← Plain.turned_sub hn]
  have h : (4294967295 : Int) - (n : Int) = ((4294967295 - n : Nat) : Int) := by omega
  go_enter Tryd.func53, Tryd.ntmps53
  go_wp2
  go_ret
  exact ⟨rfl, rfl⟩

theorem feed_bound {j d d2 : Nat} (hj : j < 8) (h : d < 2 ^ (8 - j)) (h2 : d2 = d / 2) : d2 < 2 ^ (8 - (j + 1)) := by
  rw [show 8 - j = (8 - (j + 1)) + 1 by omega, Nat.pow_succ] at h
  omega

theorem feed_next {j m b d d2 n c : Nat} (hj : j < 8) (hb : b = d % 2) (h2 : d2 = d / 2) (h : Plain.feed (8 - j) m d = Plain.feed 8 n c) : Plain.feed (8 - (j + 1)) (Plain.one (m ^^^ b)) d2 = Plain.feed 8 n c := by
  rw [show 8 - j = (8 - (j + 1)) + 1 by omega] at h
  subst hb h2
  exact h

theorem feed_end {j m d n c : Nat} (hj : j ≤ 8) (hj8 : ¬ j < 8) (hc : c < 256) (h : Plain.feed (8 - j) m d = Plain.feed 8 n c) : Plain.byte n c = m := by
  rw [show 8 - j = 0 by omega, Plain.feed_many 8 n c hc] at h
  exact h.symm

def FeedRel (n0 c0 : Nat) (n c k : Value) : Prop := ∃ j m d : Nat, j ≤ 8 ∧ m < 4294967296 ∧ d < 2 ^ (8 - j) ∧ k = .int .i64 j ∧ n = .int .u32 m ∧ c = .int .u32 d ∧ Plain.feed (8 - j) m d = Plain.feed 8 n0 c0

def RefRel (s : ByteArray) (n i : Value) : Prop := ∃ k m : Nat, k ≤ s.size ∧ m < 4294967296 ∧ i = .int .i64 k ∧ n = .int .u32 m ∧ Plain.run (Plain.turned 0) (s.data.toList.take k) = m

set_option maxHeartbeats 1000000 in
theorem refSum_any (s : ByteArray) (w : World) (hs : s.size ≤ maxLen) :
    Calls Tryd.prog 36 #[.string s] w fun e w' => e = .returned (.int .u32 ((Plain.sum s.data.toList : Nat) : Int)) ∧ w = w' := by
  unfold maxLen at hs
  go_enter Tryd.func36, Tryd.ntmps36
  go_wp2_with (go_at_call 53; go_must (refine (refTurned_any 0 _ (by omega)).mono ?_); rintro e w' ⟨rfl, rfl⟩)
  go_loop [3, 4] (fun n i => RefRel s n i) (fun _ i => s.size - (intOf i).toNat)
  case atStart => exact ⟨0, _, Nat.zero_le _, Plain.turned_lt (by omega), rfl, rfl, rfl⟩
  case round =>
    obtain ⟨k, m, hk, hm, rfl, rfl, hr⟩ := hrel
    have HR := Lib.hid hr; clear hr
    by_cases hlt : k < s.size
    · have hby : s[k].toNat < 256 := s[k].toNat_lt
      go_wp2_with fail
      go_loop [3, 5, 6] (fun n c i => FeedRel m s[k].toNat n c i) (fun _ _ i => 8 - (intOf i).toNat)
      case atStart => exact ⟨0, m, _, by omega, hm, hby, rfl, rfl, rfl, rfl⟩
      case round =>
        obtain ⟨j, m', d, hj, hm', hd, rfl, rfl, rfl, hfeed⟩ := hrel
        have HF := Lib.hid hfeed; clear hfeed
        have HD := Lib.hid hd; clear hd
        by_cases hj8 : j < 8
        · obtain ⟨b, hb⟩ : ∃ b : Nat, b = d % 2 := ⟨_, rfl⟩
          obtain ⟨d2, hd2⟩ : ∃ d2 : Nat, d2 = d / 2 := ⟨_, rfl⟩
          have e1 : (d : Int) % 2 = (b : Int) := by omega
          have e2 : (d : Int) / 2 = (d2 : Int) := by omega
          have hb1 : b ≤ 1 := by omega
          have h256 : d < 256 := Nat.lt_of_lt_of_le HD.out (Nat.pow_le_pow_right (by omega) (by omega : 8 - j ≤ 8))
          have h256' : d2 < 256 := by omega
          have HB := Lib.hid hb; clear hb
          have HD2 := Lib.hid hd2; clear hd2
          go_wp2_with (go_at_call 54; go_must (refine (bit_any m' b _ hm' hb1).mono ?_); rintro e w' ⟨rfl, rfl⟩)
          go_round
          case rel => exact ⟨j + 1, _, d2, by omega, Plain.one_lt (Plain.xor_lt hm' (by omega)), feed_bound hj8 HD.out HD2.out, by go_num, rfl, rfl, feed_next hj8 HB.out HD2.out HF.out⟩
          case measure => simp [intOf]; omega
        · go_wp2_with fail
          go_round
          case rel => exact ⟨k + 1, m', by omega, hm', by go_num, rfl, by rw [take_snoc s k hlt, Plain.run_snoc, HR.out]; exact feed_end hj hj8 hby HF.out⟩
          case measure => simp [intOf]; omega
    · go_wp2_with (go_at_call 53; go_must (refine (refTurned_any m _ hm).mono ?_); rintro e w' ⟨rfl, rfl⟩)
      go_ret
      exact ⟨ret_nat (by rw [← HR.out, show k = s.size by omega, take_all]; rfl), rfl⟩

theorem refSum_below (s : ByteArray) (w : World) (hs : s.size ≤ maxLen) :
    Calls Tryd.prog 36 #[.string s] w fun e w' => e = .returned (.int .u32 ((Plain.sum s.data.toList : Nat) : Int)) ∧ Below w.heap.size w w' :=
  (refSum_any s w hs).mono fun _ _ ⟨he, hw⟩ => ⟨he, hw ▸ Below.refl _ _⟩

set_option maxHeartbeats 400000 in
theorem refSeal_any (s : ByteArray) (w : World) (hs : s.size ≤ 281474976710656) :
    Calls Tryd.prog 17 #[.string s] w fun e w' => e = .returned (.string (sealed s)) ∧ Below w.heap.size w w' := by
  have hm : s.size ≤ maxLen := by unfold maxLen; omega
  have hcat : s.size + (Plain.four (Plain.sum s.data.toList)).length ≤ 9223372036854775807 := by rw [Plain.four_length]; omega
  go_enter Tryd.func17, Tryd.ntmps17
  go_wp2_with (first | (go_at_call 36; go_must (refine (refSum_any s _ hm).mono ?_); rintro e w1 ⟨rfl, rfl⟩) | (go_at_call 35; go_must (refine (four_any _ _ (Plain.sum_lt _)).mono ?_); rintro e w2 ⟨rfl, hb2⟩))
  go_ret
  exact ⟨rfl, hb2⟩

set_option maxHeartbeats 400000 in
theorem refOpen_short (s : ByteArray) (w : World) (h : s.size < 4) :
    Calls Tryd.prog 15 #[.string s] w fun e w' => e = .returned (.tuple #[.string ⟨#[]⟩, .bool false]) ∧ Below w.heap.size w w' := by
  have h1 : (s.size : Int) - 4 < 0 := by omega
  have h2 : (s.size : Int) < 4 := by omega
  go_enter Tryd.func15, Tryd.ntmps15
  go_wp2
  go_quiet (fail)
  go_wp2
  go_ret2
  exact ⟨rfl, below_drewN (Below.refl _ _) _⟩

set_option maxHeartbeats 400000 in
theorem refOpen_walk (s B L F : ByteArray) (k N : Nat) (w : World) (h1 : (s.size : Int) - 4 = (k : Int)) (_h2 : k ≤ s.size) (_h3 : k ≤ 281474976710656) (hB : s.extract 0 k = B) (hL : s.extract k s.size = L) (b : Bool) (hb : (L.toList == F.toList) = b)
    (cS : ∀ d os, Calls Tryd.prog 36 #[.string B] (Sort.grow (redrawn w d) os) fun e w'' => e = .returned (.int .u32 (N : Int)) ∧ ∃ p : Regrown, w'' = Sort.grow (redrawn w p.d) p.os)
    (cT : ∀ d os, Calls Tryd.prog 35 #[.int .u32 (N : Int)] (Sort.grow (redrawn w d) os) fun e w'' => e = .returned (.string F) ∧ ∃ p : Regrown, w'' = Sort.grow (redrawn w p.d) p.os) :
    Calls Tryd.prog 15 #[.string s] w fun e w' => e = .returned (.tuple #[.string (if b = true then B else ⟨#[]⟩), .bool b]) ∧ Below w.heap.size w w' := by
  go_enter Tryd.func15, Tryd.ntmps15
  go_wp2
  refine wp_region_quiet_below (by kernel_rfl) (by kernel_rfl) ?_
  repeat (quiet_step (first | (go_at_call 36; with_reducible exact cS _ _) | (go_at_call 35; with_reducible exact cT _ _)))
  refine wpQuiet_nil ?_
  intro _ hw'
  obtain ⟨⟨dq, osq⟩, hw''⟩ := hw'
  subst hw''
  cases b
  · go_wp2_with fail
    · go_ret2
      exact ⟨rfl, below_regrown w dq osq⟩
    · have h : 0 ≤ (k : Int) ∧ (!false) = false := by assumption
      exact absurd h.2 (by decide)
  · go_wp2_with fail
    · have h : (k : Int) < 0 ∨ (!true) = true := by assumption
      rcases h with h | h
      · omega
      · exact absurd h (by decide)
    · go_ret2
      exact ⟨rfl, below_regrown w dq osq⟩

theorem refOpen_any (s : ByteArray) (w : World) (hs : s.size ≤ 281474976710656) :
    Calls Tryd.prog 15 #[.string s] w fun e w' => e = .returned (.tuple #[.string (opened s), .bool (isSeal s)]) ∧ Below w.heap.size w w' := by
  by_cases h : s.size < 4
  · have h1 : isSeal s = false := by unfold isSeal; simp; omega
    unfold opened
    rw [h1]
    exact refOpen_short s w h
  · have h1 : isSeal s = decide (last s = fourOf (body s)) := by unfold isSeal; rw [decide_eq_true (by omega), Bool.true_and]
    have hb : (body s).size ≤ maxLen := by unfold body maxLen; rw [ByteArray.size_extract]; omega
    exact refOpen_walk s (body s) (last s) (fourOf (body s)) (s.size - 4) (Plain.sum (body s).data.toList) w (by omega) (by omega) (by omega) rfl rfl (isSeal s) (by rw [h1, toList_beq])
      (quiet_call fun w0 _ => refSum_below (body s) w0 hb)
      (quiet_call fun w0 _ => four_any (Plain.sum (body s).data.toList) w0 (Plain.sum_lt _))

end Go.Proofs.YtjiilmiikejnhaaDoor

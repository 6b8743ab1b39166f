/-
  The walk of VaryTells.
-/
import Derived.Test.YtnndabjhdhnleaaVTells
namespace Go.Proofs.Ytnndabjhdhnleaa
open Go.RowKit

theorem put_enc (n : Nat) (hn : n < 18446744073709551616) (B : ByteArray) (hB : B.data.toList = Plain.enc n) (w : World) :
    Calls Try.prog 6 #[.slice (some ⟨w.heap.size, 0, none⟩) 1 1] (w.alloc (.cells #[.int .u64 n] 25)) fun e w' => e = .returned (.string B) ∧ Below w.heap.size w w' :=
  put_one n n B hn rfl (by rw [hB]; simp [Plain.encs]) w

theorem cut_mod (cut : Int) (z : Nat) (h0 : 0 < z) (hz : z ≤ 1000000) : ∃ N : Nat, (wrap64 (cut.tmod z + z)).tmod z = (N : Int) ∧ N < z := by
  have hz' : (0 : Int) < z := by omega
  have h1 := Int.tmod_lt_of_pos cut hz'
  have h2 : -(z : Int) < cut.tmod z := by
    have := Int.neg_tmod cut (z : Int)
    have h3 := Int.tmod_lt_of_pos (-cut) hz'
    omega
  have e : wrap64 (cut.tmod z + z) = cut.tmod z + z := by unfold wrap64; omega
  rw [e, Int.tmod_eq_emod_of_nonneg (by omega)]
  have h4 := Int.emod_nonneg (cut.tmod z + z) (by omega : (z : Int) ≠ 0)
  have h5 := Int.emod_lt_of_pos (cut.tmod z + z) hz'
  exact ⟨((cut.tmod z + z) % z).toNat, by omega, by omega⟩

/-- One number: its bytes, and how many. -/
def OneTells (y : Nat) : Prop := ∃ (B : ByteArray) (sz : Nat), B.size = sz ∧ 1 ≤ sz ∧ sz ≤ 9 ∧
  (∀ w, Calls Try.prog 6 #[.slice (some ⟨w.heap.size, 0, none⟩) 1 1] (w.alloc (.cells #[.int .u64 y] 25)) fun e w' => e = .returned (.string B) ∧ Below w.heap.size w w') ∧
  (∀ w, Calls Try.prog 7 #[.int .u64 y] w fun e w' => e = .returned (.string B) ∧ Below w.heap.size w w') ∧
  (∀ w, Calls Try.prog 8 #[.int .u64 y] w fun e w' => e = .returned (.int .i64 (sz : Int)) ∧ w = w')

theorem oneTells (y : Nat) (hy : y < 18446744073709551616) : OneTells y :=
  ⟨⟨(Plain.enc y).toArray⟩, Plain.size y, by rw [← ba_length, Plain.enc_length], (Plain.size_bounds hy).1, (Plain.size_bounds hy).2, fun w => put_enc y hy _ rfl w, fun w => refPut_any y w hy, fun w => size_any y w hy⟩

set_option maxRecDepth 100000 in
set_option maxHeartbeats 4000000 in
theorem tells_walk (l : List Nat) (ad : Option Addr) (n m c : Nat) (a : Int) (s S : ByteArray) (k100 : Nat) (w : World) (hl : ∀ n ∈ l, n < 18446744073709551616) (hm40 : m ≤ 40) (hml : l.length = m)
    (hnc : n ≤ c) (hc : c ≤ 9223372036854775807) (hm : min (n : Int) 40 = (m : Int)) (hs : s.size ≤ 9223372036854775807) (hmin : min (s.size : Int) 100 = (k100 : Int)) (hS : s.extract 0 k100 = S) (hSs : S.size = k100)
    (hnum : Nums w (.slice ad m c) l) :
    Calls Try.prog 3 #[.slice ad n c, .string s, .int .i64 a] w fun e w' => e = .returned (.bool true) ∧ Below w.heap.size w w' := by
  obtain ⟨B, hB⟩ : ∃ B : ByteArray, B = ⟨(Plain.encs l).toArray⟩ := ⟨_, rfl⟩
  have hBs : B.size ≤ 9 * m := by
    have := encs_length_le l hl
    rw [hB, ← ba_length]
    show (Plain.encs l).length ≤ _
    omega
  have hk100 : k100 ≤ 100 := by omega
  have hksz : (k100 : Int) ≤ s.size := by omega
  have q4 := quiet_call (w := w) fun w1 _ => (few_walk ad n c m w1 hnc hc hm).mono fun e w' ⟨he, hw⟩ => ⟨he, hw ▸ Below.refl _ _⟩
  go_enter Try.func3, Try.ntmps3
  go_wp2
  refine wp_region_quiet_below (by kernel_rfl) (by kernel_rfl) ?_
  repeat (quiet_step (first | (go_at_call 4; with_reducible exact q4 _ _)))
  refine wpQuiet_nil ?_
  intro _ hw'
  obtain ⟨⟨dq, osq⟩, hw''⟩ := hw'
  subst hw''
  have hb := below_regrown w dq osq
  generalize Sort.grow (redrawn w dq) osq = w1 at hb ⊢
  clear q4
  have hnum1 := hnum.below hb
  have p5 : Calls Try.prog 5 #[.slice ad m c] w1 fun e w' => e = .returned (.string B) ∧ Below w1.heap.size w1 w' := hB ▸ refAll_any l _ w1 hnum1 hl (by omega)
  have p6 : ∀ w2, Below w.heap.size w w2 → Calls Try.prog 6 #[.slice ad m c] w2 fun e w' => e = .returned (.string B) ∧ Below w2.heap.size w2 w' := fun w2 h2 => hB ▸ put_any l _ w2 (hnum.below h2) hl (by omega)
  clear hB
  obtain ⟨_, _, _, hnumc⟩ : ∃ ad' c', (Value.slice ad m c = .slice ad' m c') ∧ ∀ i, i < l.length → ∃ b o, ad = some ⟨b, o, none⟩ ∧ w.cell? ⟨b, o + i, none⟩ = some (.int .u64 ((l.getD i 0 : Nat) : Int)) := by
    obtain ⟨ad', c', hv, hx⟩ := hnum
    cases hv
    exact ⟨ad, c, rfl, hx⟩
  go_wp2_with (go_at_call 5; refine p5.mono ?_; rintro e w2 ⟨rfl, hb2⟩)
  have hb3 := Below.next hb hb2
  clear p5 hb2 hb hnum1
  go_loopw [8, 9, 10] (fun i _ _ wr => ∃ k : Nat, k ≤ m ∧ i = .int .i64 k ∧ Below w.heap.size w wr) (fun i _ _ _ => m - (intOf i).toNat)
  case atStart => exact ⟨0, Nat.zero_le _, rfl, hb3⟩
  case round =>
    obtain ⟨k, hk, rfl, hbr⟩ := hrel
    by_cases hlt : k < m
    · have hkl : k < l.length := by omega
      obtain ⟨b, o, rfl, hcell⟩ := hnumc k hkl
      have hx : l.getD k 0 < 18446744073709551616 := hl _ (by simp [List.getD, hkl])
      obtain ⟨x, hxe⟩ : ∃ x, x = l.getD k 0 := ⟨_, rfl⟩
      rw [← hxe] at hcell hx
      obtain ⟨wo, hwo⟩ : ∃ wo : World, wo = wr := ⟨_, rfl⟩
      rw [← hwo] at hbr
      clear hxe hkl hnumc hb3 hl hnum p6 hml hS hSs hmin hs hksz hBs hm hnc
      rw [← hwo]
      clear hwo
      go_wp2
      go_loopw [9, 10] (fun i _ wr => ∃ j : Nat, j ≤ 70 ∧ i = .int .i64 j ∧ Below w.heap.size w wr) (fun i _ _ => 70 - (intOf i).toNat)
      case atStart => exact ⟨0, by omega, rfl, hbr⟩
      case round =>
        obtain ⟨j, hj, rfl, hbj⟩ := hrel
        by_cases hlj : j < 64
        · have hcell' : wr.cell? ⟨b, o + k, none⟩ = some (.int .u64 (x : Int)) := by rw [hbj.cell (p := ⟨b, o + k, none⟩) (block_lt_of_cell hcell)]; exact hcell
          obtain ⟨y, hy⟩ : ∃ y : Nat, (x : Int) / 2 ^ j = (y : Int) := ⟨x / 2 ^ j, by rw [Int.natCast_ediv]; simp⟩
          have hy64 : y < 18446744073709551616 := by
            have : y = x / 2 ^ j := by rw [show (2 : Int) ^ j = ((2 ^ j : Nat) : Int) by simp, ← Int.natCast_ediv] at hy; omega
            have := Nat.div_le_self x (2 ^ j)
            omega
          obtain ⟨Y, sz, hYs, h1, h9, c6, c7, c8⟩ := oneTells y hy64
          clear hy64 hcell
          go_wp2_with (first
            | (go_at_call 6; go_must (with_reducible refine (c6 _).mono ?_); rintro e w3 ⟨rfl, hb4⟩; replace hbj := Below.next hbj hb4; clear hb4)
            | (go_at_call 7; go_must (with_reducible refine (c7 _).mono ?_); rintro e w3 ⟨rfl, hb4⟩; replace hbj := Below.next hbj hb4; clear hb4)
            | (go_at_call 8; go_must (with_reducible refine (c8 _).mono ?_); rintro e w3 ⟨rfl, rfl⟩))
          exact ⟨⟨j + 5, by omega, by go_num, hbj⟩, by simp [intOf]; omega⟩
        · go_wp2
          exact ⟨⟨k + 1, by omega, by go_num, hbj⟩, by simp [intOf]; omega⟩
    · obtain rfl : k = m := by omega
      obtain ⟨N, hN, hN120⟩ := cut_mod a 120 (by omega) (by omega)
      have hcat : B.size + S.size ≤ 9223372036854775807 := by omega
      have hBS : (B ++ S).size ≤ 1000000 := by rw [ba_size_append]; omega
      have hB6 : B.size ≤ 1000000 := by omega
      have hS6 : S.size ≤ 1000000 := by omega
      obtain ⟨T, hT⟩ : ∃ T, B ++ S = T := ⟨_, rfl⟩
      rw [hT] at hBS
      have c9 : ∀ (x : ByteArray) (p many : Int) w0, x.size ≤ 1000000 → many ≤ 1000000 → Calls Try.prog 9 #[.string x, .int .i64 p, .int .i64 many] w0 fun e w' => e = .returned (.bool true) ∧ Below w0.heap.size w0 w' := fun x p many w0 h1 h2 => reads_any x p many w0 h1 h2
      have c10 := works_any
      have p6' := p6 wr hbr
      have HC := Lib.hid c9
      clear c9 p6 hnumc hnum hl hml hm hnc hc hs hmin hS hSs hb3 hksz hBs
      push_cast at hN
      go_wp2_with (first
        | (go_at_call 6; go_must (with_reducible refine p6'.mono ?_); rintro e w3 ⟨rfl, hb4⟩; replace hbr := Below.next hbr hb4; clear hb4)
        | (go_at_call 9; go_must (with_reducible refine (HC.out _ _ _ _ (by assumption) (by omega)).mono ?_); rintro e w3 ⟨rfl, hb4⟩; replace hbr := Below.next hbr hb4; clear hb4)
        | (go_at_call 10; go_must (with_reducible refine (c10 _).mono ?_); rintro e w3 ⟨rfl, hb4⟩; replace hbr := Below.next hbr hb4; clear hb4))
      go_ret
      exact ⟨rfl, hbr⟩
end Go.Proofs.Ytnndabjhdhnleaa

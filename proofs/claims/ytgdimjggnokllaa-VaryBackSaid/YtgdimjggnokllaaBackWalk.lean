/-
  The walk of VaryBack.
-/
import Derived.Test.YtgdimjggnokllaaWorks
import Derived.Test.YtgdimjggnokllaaSmall
import Derived.Test.YtgdimjggnokllaaRow
import Derived.Deep.RegionHeld
namespace Go.Proofs.Ytgdimjggnokllaa
open Go.RowKit

theorem take_split {l : List Nat} {k : Nat} (h : k < l.length) : l.take k ++ l.getD k 0 :: l.drop (k + 1) = l := by
  conv => rhs; rw [← List.take_append_drop k l, List.drop_eq_getElem_cons h]
  simp [List.getD, h]

/-- The place of a number in the bytes of a row. -/
def placeIn (l : List Nat) (k : Nat) : Nat := (Plain.encs (l.take k)).length

theorem placeIn_succ {l : List Nat} {k : Nat} (h : k < l.length) : placeIn l (k + 1) = placeIn l k + Plain.size (l.getD k 0) := by
  unfold placeIn
  rw [encs_take_succ h, List.length_append, Plain.enc_length]

theorem back_get {l : List Nat} {k : Nat} (hl : ∀ n ∈ l, n < 18446744073709551616) (h : k < l.length) : Plain.get (Plain.encs l) (placeIn l k : Int) = (l.getD k 0, (placeIn l (k + 1) : Int), 0) := by
  have hx : l.getD k 0 < 18446744073709551616 := hl _ (by simp [List.getD, h])
  have := Plain.get_encs (a := l.take k) (b := l.drop (k + 1)) hx []
  rw [List.append_nil, take_split h] at this
  rw [placeIn_succ h]
  exact this

theorem back_cut {l : List Nat} {k N : Nat} (hl : ∀ n ∈ l, n < 18446744073709551616) (h : k < l.length) (h1 : placeIn l k ≤ N) (h2 : N < placeIn l (k + 1)) : Plain.row ((Plain.encs l).take N) 0 (l.length : Int) = ([], (placeIn l k : Int), 3) := by
  rw [placeIn_succ h] at h2
  have := Plain.row_cut (a := l.take k) (b := l.drop (k + 1)) (n := l.getD k 0) (k := N) (by rw [take_split h]; exact hl) h1 h2
  rw [take_split h] at this
  exact this

theorem placeIn_all (l : List Nat) : placeIn l l.length = (Plain.encs l).length := by unfold placeIn; rw [List.take_length]

theorem placeIn_le (l : List Nat) (hl : ∀ n ∈ l, n < 18446744073709551616) (k : Nat) : placeIn l k ≤ 9 * l.length := by
  have := encs_length_le (l.take k) (fun n hn => hl n (List.mem_of_mem_take hn))
  rw [List.length_take] at this
  unfold placeIn
  omega

theorem wrap64_nat (n : Nat) (h : n ≤ 1000000) : wrap64 (n : Int) = (n : Int) := by unfold wrap64; omega
theorem wrap64_succ (n : Nat) (h : n ≤ 1000000) : wrap64 ((n : Int) + 1) = (n : Int) + 1 := by unfold wrap64; omega

theorem put_at (n : Nat) (B : ByteArray) (hn : n < 18446744073709551616) (hB : Plain.enc n = B.data.toList) (b : Nat) (W : World) (hW : W.cell? ⟨b, 0, none⟩ = some (.int .u64 (n : Int))) :
    Calls Try.prog 9 #[.slice (some ⟨b, 0, none⟩) 1 1] W fun e w' => e = .returned (.string B) ∧ Below W.heap.size W w' := by
  refine (put_walk [n] (some ⟨b, 0, none⟩) 1 _ (by simpa using hn) (by simp) ?_).mono ?_
  · intro i hi
    obtain rfl : i = 0 := by simp at hi; omega
    exact ⟨_, _, rfl, hW⟩
  · rintro e w' ⟨rfl, hb⟩
    refine ⟨?_, hb⟩
    rw [Plain.encs_cons, hB]
    simp [Plain.encs]

theorem cut_mod (cut : Int) (z : Nat) (h0 : 0 < z) (hz : z ≤ 1000000) : ∃ N : Nat, (wrap64 (cut.tmod z + z)).tmod z = (N : Int) ∧ N < z := by
  have hz' : (0 : Int) < z := by omega
  have h1 := Int.tmod_lt_of_pos cut hz'
  have h2 : -(z : Int) < cut.tmod z := by
    have := Int.neg_tmod cut (z : Int)
    have h3 := Int.tmod_lt_of_pos (-cut) hz'
    omega
  have e : wrap64 (cut.tmod z + z) = cut.tmod z + z := by unfold wrap64; omega
  rw [e, Int.tmod_eq_emod_of_nonneg (by omega)]
  have h4 := Int.emod_nonneg (cut.tmod z + z) (by omega : (z : Int) ≠ 0)
  have h5 := Int.emod_lt_of_pos (cut.tmod z + z) hz'
  exact ⟨((cut.tmod z + z) % z).toNat, by omega, by omega⟩

set_option maxRecDepth 100000 in
set_option maxHeartbeats 4000000 in
theorem back_walk (l : List Nat) (ad : Option Addr) (n m c : Nat) (cut : Int) (s S : ByteArray) (k100 : Nat) (w : World) (hl : ∀ n ∈ l, n < 18446744073709551616) (hm40 : m ≤ 40) (hml : l.length = m)
    (hnc : n ≤ c) (hc : c ≤ 9223372036854775807) (hm : min (n : Int) 40 = (m : Int)) (hs : s.size ≤ 9223372036854775807) (hmin : min (s.size : Int) 100 = (k100 : Int)) (hS : s.extract 0 k100 = S) (hSs : S.size = k100) (_hcut : -9223372036854775808 ≤ cut) (_hcut' : cut ≤ 9223372036854775807)
    (hnum : Nums w (.slice ad m c) l) :
    Calls Try.prog 4 #[.slice ad n c, .int .i64 cut, .string s] w fun e w' => e = .returned (.bool true) ∧ Below w.heap.size w w' := by
  obtain ⟨B, hB⟩ : ∃ B : ByteArray, B.data.toList = Plain.encs l := ⟨⟨(Plain.encs l).toArray⟩, by simp⟩
  have hk100 : k100 ≤ 100 := by omega
  have hksz : (k100 : Int) ≤ s.size := by omega
  go_enter Try.func4, Try.ntmps4
  go_wp2_with (go_at_call 13; go_must (refine (works_any _).mono ?_); rintro e w0 ⟨rfl, hb⟩)
  have q7 := quiet_call (w := w0) fun w1 _ => (few_walk ad n c m w1 hnc hc hm).mono fun e w' ⟨he, hw⟩ => ⟨he, hw ▸ Below.refl _ _⟩
  refine wp_region_quiet_below (by kernel_rfl) (by kernel_rfl) ?_
  repeat (quiet_step (first | (go_at_call 7; with_reducible exact q7 _ _)))
  refine wpQuiet_nil ?_
  intro _ hw'
  obtain ⟨⟨dq, osq⟩, hw''⟩ := hw'
  subst hw''
  replace hb := Below.next hb (below_regrown w0 dq osq)
  generalize Sort.grow (redrawn w0 dq) osq = w1 at hb ⊢
  clear q7
  have hnum1 := hnum.below hb
  have p9 : Calls Try.prog 9 #[.slice ad m c] w1 fun e w' => e = .returned (.string B) ∧ Below w1.heap.size w1 w' := (put_any l _ w1 hnum1 hl (by omega)).mono fun e w' ⟨he, hw⟩ => ⟨by rw [he, ← hB], hw⟩
  have hBs : B.size ≤ 9 * m := by
    have := encs_length_le l hl
    rw [← hB, ba_length] at this
    omega
  have hBm : B.size ≤ maxLen := by unfold maxLen; omega
  obtain ⟨_, _, _, hnumc⟩ : ∃ ad' c', (Value.slice ad m c = .slice ad' m c') ∧ ∀ i, i < l.length → ∃ b o, ad = some ⟨b, o, none⟩ ∧ w.cell? ⟨b, o + i, none⟩ = some (.int .u64 ((l.getD i 0 : Nat) : Int)) := by
    obtain ⟨ad', c', hv, hx⟩ := hnum
    cases hv
    exact ⟨ad, c, rfl, hx⟩
  by_cases h0 : 0 < B.size
  · obtain ⟨N, hN, hNlt⟩ := cut_mod cut B.size h0 (by omega)
    go_wp2_with (go_at_call 9; refine p9.mono ?_; rintro e w2 ⟨rfl, hb2⟩)
    have hb3 := Below.next hb hb2
    clear p9 hb2
    go_loopw [8, 10] (fun a i wr => ∃ k : Nat, k ≤ m ∧ i = .int .i64 k ∧ a = .int .i64 (placeIn l k : Int) ∧ Below w.heap.size w wr) (fun _ i _ => m - (intOf i).toNat)
    case atStart => exact ⟨0, Nat.zero_le _, rfl, rfl, hb3⟩
    case round =>
      obtain ⟨k, hk, rfl, rfl, hbr⟩ := hrel
      by_cases hlt : k < m
      · have hkl : k < l.length := by omega
        have hget := back_get hl hkl
        have hcutf := fun h1 h2 => back_cut (N := N) hl hkl h1 h2
        have hplace := placeIn_succ hkl
        have hpl1 := placeIn_le l hl (k + 1)
        have hx : l.getD k 0 < 18446744073709551616 := hl _ (by simp [List.getD, hkl])
        obtain ⟨b, o, rfl, hcell⟩ := hnumc k hkl
        have hcell' : wr.cell? ⟨b, o + k, none⟩ = some (.int .u64 ((l.getD k 0 : Nat) : Int)) := by rw [hbr.cell (p := ⟨b, o + k, none⟩) (block_lt_of_cell hcell)]; exact hcell
        obtain ⟨x, hxe⟩ : ∃ x, x = l.getD k 0 := ⟨_, rfl⟩
        obtain ⟨sz, hsz⟩ : ∃ sz, sz = Plain.size x := ⟨_, rfl⟩
        obtain ⟨A, hA⟩ : ∃ A, A = placeIn l k := ⟨_, rfl⟩
        obtain ⟨A1, hA1⟩ : ∃ A1, A1 = placeIn l (k + 1) := ⟨_, rfl⟩
        rw [← hA]
        have q14 : ∀ w0, Calls Try.prog 14 #[.string B, .int .i64 A] w0 fun e w' => e = .returned (.tuple #[.int .u64 x, .int .i64 A1, .int .i64 0]) ∧ w0 = w' := fun w0 => by
          rw [hA]
          refine (get_any B (placeIn l k : Int) w0 hBm).mono fun e w' ⟨he, hw⟩ => ⟨?_, hw⟩
          rw [he, hB, hget, hxe, hA1]
          rfl
        have q11 : ∀ w0, Calls Try.prog 11 #[.int .u64 x] w0 fun e w' => e = .returned (.int .i64 (sz : Int)) ∧ w0 = w' := fun w0 => hsz ▸ size_any x w0 (hxe ▸ hx)
        rw [← hA1, ← hA, ← hxe, ← hsz] at hplace
        rw [← hxe] at hcell'
        have hadd : (A : Int) + (sz : Int) = (A1 : Int) := by omega
        rw [← hA1] at hpl1
        have hA1b : A1 ≤ 1000 := Nat.le_trans hpl1 (by omega)
        have hszb := Plain.size_bounds (hxe ▸ hx : x < 18446744073709551616)
        rw [← hsz] at hszb
        by_cases hin : A ≤ N ∧ N < A1
        · have i1 : (A : Int) ≤ (N : Int) := by omega
          have i2 : (N : Int) < (A1 : Int) := by omega
          have i3 : 0 < B.size := by omega
          have i4 : (N : Int) ≤ (B.size : Int) := by omega
          have hrow := hcutf (by omega) (by omega)
          obtain ⟨T, hT⟩ : ∃ T, B.extract 0 N = T := ⟨_, rfl⟩
          have hTl : T.data.toList = (Plain.encs l).take N := by rw [← hT, ba_extract, List.drop_zero, Nat.sub_zero, hB]
          rw [hml] at hrow
          have q15 : ∀ w0, Calls Try.prog 15 #[.string T, .int .i64 0, .int .i64 m] w0 fun e w' => ∃ v, e = .returned (.tuple #[v, .int .i64 A, .int .i64 3]) ∧ Nums w' v [] ∧ Below w0.heap.size w0 w' := fun w0 => by
            refine (row_any T 0 m w0 (by rw [← ba_length, hTl, List.length_take]; omega)).mono fun e w' ⟨v, he, hn, hw⟩ => ⟨v, ?_, ?_, hw⟩
            · rw [he, hTl, hrow, hA]; rfl
            · rw [hTl, hrow] at hn; exact hn
          have HA := Lib.hid hA1; clear hA1
          have hk40 : k ≤ 40 := Nat.le_trans hk hm40
          clear hcutf hget hTl hrow hxe hsz hA hcell hpl1 hx hl hnumc hnum hnum1 hB hBs hb hb3 hin hplace hszb hkl _hcut _hcut' hS hSs hksz hm hnc hc hs
          go_wp2_with (first | (go_at_call 14; go_must (with_reducible refine (q14 _).mono ?_); rintro e w' ⟨rfl, rfl⟩) | (go_at_call 11; go_must (with_reducible refine (q11 _).mono ?_); rintro e w' ⟨rfl, rfl⟩) | (go_at_call 15; go_must (with_reducible refine (q15 _).mono ?_); rintro e w4 ⟨v, rfl, ⟨ad4, c4, rfl, _⟩, hb4⟩))
          exact ⟨⟨k + 1, by omega, by go_num, by rw [HA.out], Below.next hbr hb4⟩, by simp [intOf]; omega⟩
        · have HA := Lib.hid hA1; clear hA1
          clear hcutf hget hxe hsz hA hcell hpl1 hx hl hnumc hnum hnum1 hB hBs hb hb3 hplace hszb hkl _hcut _hcut' hS hSs hksz hm hnc hc hs
          by_cases j1 : A ≤ N
          · have i1 : (A : Int) ≤ (N : Int) := by omega
            have i2 : ¬ (N : Int) < (A1 : Int) := by omega
            clear hin
            have hk40 : k ≤ 40 := Nat.le_trans hk hm40
            go_wp2_with (first | (go_at_call 14; go_must (with_reducible refine (q14 _).mono ?_); rintro e w' ⟨rfl, rfl⟩) | (go_at_call 11; go_must (with_reducible refine (q11 _).mono ?_); rintro e w' ⟨rfl, rfl⟩))
            exact ⟨⟨k + 1, by omega, by go_num, by rw [HA.out], hbr⟩, by simp [intOf]; omega⟩
          · have i1 : ¬ (A : Int) ≤ (N : Int) := by omega
            clear hin
            have hk40 : k ≤ 40 := Nat.le_trans hk hm40
            go_wp2_with (first | (go_at_call 14; go_must (with_reducible refine (q14 _).mono ?_); rintro e w' ⟨rfl, rfl⟩) | (go_at_call 11; go_must (with_reducible refine (q11 _).mono ?_); rintro e w' ⟨rfl, rfl⟩))
            exact ⟨⟨k + 1, by omega, by go_num, by rw [HA.out], hbr⟩, by simp [intOf]; omega⟩
      · obtain rfl : k = m := by omega
        have hall : placeIn l k = B.size := by rw [← hml, placeIn_all, ← hB, ba_length]
        have hrow := Plain.row_encs hl
        rw [hml, ← hB, ba_length] at hrow
        have q15 : ∀ w0, Calls Try.prog 15 #[.string B, .int .i64 0, .int .i64 k] w0 fun e w' => ∃ v, e = .returned (.tuple #[v, .int .i64 B.size, .int .i64 0]) ∧ Nums w' v l ∧ Below w0.heap.size w0 w' := fun w0 => by
          refine (row_any B 0 k w0 (by omega)).mono fun e w' ⟨v, he, hn, hw⟩ => ⟨v, ?_, ?_, hw⟩
          · rw [he, hrow]; rfl
          · rw [hrow] at hn; exact hn
        have hnumr := hnum.below hbr
        rw [hall]
        clear hrow hnumc hb3 hb _hcut _hcut' hk hS hm hnc hc hs hB hnum hnum1
        go_wp2_with (go_at_call 15; go_must (with_reducible refine (q15 _).mono ?_); rintro e w4 ⟨v, rfl, hv4, hb4⟩; replace hnumr := hnumr.below hb4; replace hbr := Below.next hbr hb4; clear hb4 q15)
        have hsame := same_any l v (.slice ad k c) w4 (by omega) hv4 hnumr
        have hS100 : S.size ≤ 100 := by omega
        clear hv4 hnumr hl hBs hN hNlt hmin hm40 hml hall hSs hk100 hksz
        go_wp2_with (go_at_call 16; go_must (refine hsame.mono ?_); rintro e w5 ⟨rfl, hb5⟩)
        replace hbr := Below.next hbr hb5
        clear hsame hb5
        go_loopw [20] (fun i wr => ∃ p : Nat, p ≤ S.size ∧ i = .int .i64 p ∧ Below w.heap.size w wr) (fun i _ => S.size - (intOf i).toNat)
        case atStart => exact ⟨0, Nat.zero_le _, rfl, hbr⟩
        case round =>
          obtain ⟨p, hp, rfl, hbp⟩ := hrel
          by_cases hltp : p < S.size
          · obtain ⟨r, hr⟩ : ∃ r, Plain.get S.data.toList (p : Int) = r := ⟨_, rfl⟩
            have g14 := fun w0 => get_any S (p : Int) w0 (by unfold maxLen; omega)
            obtain ⟨n9, p9, e9⟩ := r
            rw [hr] at g14
            by_cases he : e9 = 0
            · obtain ⟨k', u, hpk, hnx, hu, hku, henc, h64⟩ := Plain.get_ok (s := S.data.toList) (p := (p : Int)) (by rw [hr]; exact he)
              obtain rfl : k' = p := by omega
              rw [hr] at hnx henc h64
              dsimp only at hnx henc h64
              rw [ba_length] at hku
              obtain ⟨nx, hnxe⟩ : ∃ nx, nx = k' + u := ⟨_, rfl⟩
              rw [← hnxe] at hnx
              subst hnx he
              obtain ⟨T, hT⟩ : ∃ T, S.extract k' nx = T := ⟨_, rfl⟩
              have hTl : Plain.enc n9 = T.data.toList := by rw [henc, ← hT, ba_extract, hnxe, Nat.add_sub_cancel_left]
              have pput := put_at n9 T h64 hTl
              have q14 : ∀ w0, Calls Try.prog 14 #[.string S, .int .i64 k'] w0 fun e w' => e = .returned (.tuple #[.int .u64 n9, .int .i64 nx, .int .i64 0]) ∧ w0 = w' := fun w0 => g14 w0
              have i1 : ¬ (nx : Int) ≤ (k' : Int) := by omega
              have i2 : ¬ (S.size : Int) < (nx : Int) := by omega
              have d1 : decide (nx ≤ k') = false := by simp; omega
              have d2 : decide (S.size < nx) = false := by simp; omega
              have i3 : (k' : Int) ≤ (nx : Int) := by omega
              have i4 : (nx : Int) ≤ (S.size : Int) := by omega
              clear g14 hr hpk hu hku henc h64 hnxe hTl
              go_wp2_with (go_at_call 14; go_must (with_reducible refine (q14 _).mono ?_); rintro e w' ⟨rfl, rfl⟩)
              have hy : Go.yielded.match_1 (motive := fun _ => Option Bool) (some undef) (fun b => some b) (fun _ => none) = none := rfl
              first
                | (go_region_held (fun w' => Below w.heap.size w w') (first | assumption | exact Below.drew (by assumption) | exact Below.alloc (by assumption) (Below.size (by assumption)) _ | exact Below.next (by assumption) (by assumption)) (first | (go_at_call 9; refine (pput _ _ (by simp [go_sem])).mono ?_; rintro e w1 ⟨rfl, hb1⟩)))
                | fail
              all_goals go_wp2
              all_goals exact ⟨⟨k' + 1, by omega, by go_num, by first | assumption | exact Below.next (by assumption) (by assumption) | exact Below.drew (by assumption)⟩, by simp [intOf]; omega⟩
            · obtain ⟨hn0, hp0⟩ := Plain.get_bad (s := S.data.toList) (p := (p : Int)) (by rw [hr]; exact he)
              rw [hr] at hn0 hp0
              dsimp only at hn0 hp0
              subst hn0 hp0
              have he2 : ((e9 : Int) == 0) = false := by simp; omega
              have he3 : ((e9 : Int) != 0) = true := by simp; omega
              have q14 : ∀ w0, Calls Try.prog 14 #[.string S, .int .i64 p] w0 fun e w' => e = .returned (.tuple #[.int .u64 0, .int .i64 p, .int .i64 e9]) ∧ w0 = w' := fun w0 => g14 w0
              clear g14 hr
              go_wp2_with (go_at_call 14; go_must (with_reducible refine (q14 _).mono ?_); rintro e w' ⟨rfl, rfl⟩)
              go_region
              all_goals go_wp2
              all_goals exact ⟨⟨p + 1, by omega, by go_num, by first | assumption | exact Below.next (by assumption) (by assumption) | exact Below.drew (by assumption)⟩, by simp [intOf]; omega⟩
          · go_wp2
            go_ret
            exact ⟨rfl, hbp⟩
  · have hl0 : l = [] := by
      cases l with
      | nil => rfl
      | cons x l' =>
        have h1 := Plain.size_bounds (hl x (by simp))
        have h2 : B.size = Plain.size x + (Plain.encs l').length := by rw [← ba_length, hB, Plain.encs_cons, List.length_append, Plain.enc_length]
        omega
    have hm0 : m = 0 := by rw [← hml, hl0]; rfl
    have HM := Lib.hid hm0
    clear hm0 hl0
    go_wp2_with (go_at_call 9; refine p9.mono ?_; rintro e w2 ⟨rfl, hb2⟩)
    have hb3 := Below.next hb hb2
    clear p9 hb2
    go_loopw [8, 10] (fun a i wr => ∃ k : Nat, k ≤ m ∧ i = .int .i64 k ∧ a = .int .i64 (placeIn l k : Int) ∧ Below w.heap.size w wr) (fun _ i _ => m - (intOf i).toNat)
    case atStart => exact ⟨0, Nat.zero_le _, rfl, rfl, hb3⟩
    case round =>
      obtain ⟨k, hk, rfl, rfl, hbr⟩ := hrel
      by_cases hlt : k < m
      · have := HM.out; omega
      · obtain rfl : k = m := by omega
        have hall : placeIn l k = B.size := by rw [← hml, placeIn_all, ← hB, ba_length]
        have hrow := Plain.row_encs hl
        rw [hml, ← hB, ba_length] at hrow
        have q15 : ∀ w0, Calls Try.prog 15 #[.string B, .int .i64 0, .int .i64 k] w0 fun e w' => ∃ v, e = .returned (.tuple #[v, .int .i64 B.size, .int .i64 0]) ∧ Nums w' v l ∧ Below w0.heap.size w0 w' := fun w0 => by
          refine (row_any B 0 k w0 (by omega)).mono fun e w' ⟨v, he, hn, hw⟩ => ⟨v, ?_, ?_, hw⟩
          · rw [he, hrow]; rfl
          · rw [hrow] at hn; exact hn
        have hnumr := hnum.below hbr
        rw [hall]
        clear hrow hnumc hb3 hb _hcut _hcut' hk hS hm hnc hc hs hB hnum hnum1
        go_wp2_with (go_at_call 15; go_must (with_reducible refine (q15 _).mono ?_); rintro e w4 ⟨v, rfl, hv4, hb4⟩; replace hnumr := hnumr.below hb4; replace hbr := Below.next hbr hb4; clear hb4 q15)
        have hsame := same_any l v (.slice ad k c) w4 (by omega) hv4 hnumr
        have hS100 : S.size ≤ 100 := by omega
        clear hv4 hnumr hl hBs hmin hm40 hml hall hSs hk100 hksz
        go_wp2_with (go_at_call 16; go_must (refine hsame.mono ?_); rintro e w5 ⟨rfl, hb5⟩)
        replace hbr := Below.next hbr hb5
        clear hsame hb5
        go_loopw [20] (fun i wr => ∃ p : Nat, p ≤ S.size ∧ i = .int .i64 p ∧ Below w.heap.size w wr) (fun i _ => S.size - (intOf i).toNat)
        case atStart => exact ⟨0, Nat.zero_le _, rfl, hbr⟩
        case round =>
          obtain ⟨p, hp, rfl, hbp⟩ := hrel
          by_cases hltp : p < S.size
          · obtain ⟨r, hr⟩ : ∃ r, Plain.get S.data.toList (p : Int) = r := ⟨_, rfl⟩
            have g14 := fun w0 => get_any S (p : Int) w0 (by unfold maxLen; omega)
            obtain ⟨n9, p9, e9⟩ := r
            rw [hr] at g14
            by_cases he : e9 = 0
            · obtain ⟨k', u, hpk, hnx, hu, hku, henc, h64⟩ := Plain.get_ok (s := S.data.toList) (p := (p : Int)) (by rw [hr]; exact he)
              obtain rfl : k' = p := by omega
              rw [hr] at hnx henc h64
              dsimp only at hnx henc h64
              rw [ba_length] at hku
              obtain ⟨nx, hnxe⟩ : ∃ nx, nx = k' + u := ⟨_, rfl⟩
              rw [← hnxe] at hnx
              subst hnx he
              obtain ⟨T, hT⟩ : ∃ T, S.extract k' nx = T := ⟨_, rfl⟩
              have hTl : Plain.enc n9 = T.data.toList := by rw [henc, ← hT, ba_extract, hnxe, Nat.add_sub_cancel_left]
              have pput := put_at n9 T h64 hTl
              have q14 : ∀ w0, Calls Try.prog 14 #[.string S, .int .i64 k'] w0 fun e w' => e = .returned (.tuple #[.int .u64 n9, .int .i64 nx, .int .i64 0]) ∧ w0 = w' := fun w0 => g14 w0
              have i1 : ¬ (nx : Int) ≤ (k' : Int) := by omega
              have i2 : ¬ (S.size : Int) < (nx : Int) := by omega
              have d1 : decide (nx ≤ k') = false := by simp; omega
              have d2 : decide (S.size < nx) = false := by simp; omega
              have i3 : (k' : Int) ≤ (nx : Int) := by omega
              have i4 : (nx : Int) ≤ (S.size : Int) := by omega
              clear g14 hr hpk hu hku henc h64 hnxe hTl
              go_wp2_with (go_at_call 14; go_must (with_reducible refine (q14 _).mono ?_); rintro e w' ⟨rfl, rfl⟩)
              have hy : Go.yielded.match_1 (motive := fun _ => Option Bool) (some undef) (fun b => some b) (fun _ => none) = none := rfl
              first
                | (go_region_held (fun w' => Below w.heap.size w w') (first | assumption | exact Below.drew (by assumption) | exact Below.alloc (by assumption) (Below.size (by assumption)) _ | exact Below.next (by assumption) (by assumption)) (first | (go_at_call 9; refine (pput _ _ (by simp [go_sem])).mono ?_; rintro e w1 ⟨rfl, hb1⟩)))
                | fail
              all_goals go_wp2
              all_goals exact ⟨⟨k' + 1, by omega, by go_num, by first | assumption | exact Below.next (by assumption) (by assumption) | exact Below.drew (by assumption)⟩, by simp [intOf]; omega⟩
            · obtain ⟨hn0, hp0⟩ := Plain.get_bad (s := S.data.toList) (p := (p : Int)) (by rw [hr]; exact he)
              rw [hr] at hn0 hp0
              dsimp only at hn0 hp0
              subst hn0 hp0
              have he2 : ((e9 : Int) == 0) = false := by simp; omega
              have he3 : ((e9 : Int) != 0) = true := by simp; omega
              have q14 : ∀ w0, Calls Try.prog 14 #[.string S, .int .i64 p] w0 fun e w' => e = .returned (.tuple #[.int .u64 0, .int .i64 p, .int .i64 e9]) ∧ w0 = w' := fun w0 => g14 w0
              clear g14 hr
              go_wp2_with (go_at_call 14; go_must (with_reducible refine (q14 _).mono ?_); rintro e w' ⟨rfl, rfl⟩)
              go_region
              all_goals go_wp2
              all_goals exact ⟨⟨p + 1, by omega, by go_num, by first | assumption | exact Below.next (by assumption) (by assumption) | exact Below.drew (by assumption)⟩, by simp [intOf]; omega⟩
          · go_wp2
            go_ret
            exact ⟨rfl, hbp⟩
end Go.Proofs.Ytgdimjggnokllaa

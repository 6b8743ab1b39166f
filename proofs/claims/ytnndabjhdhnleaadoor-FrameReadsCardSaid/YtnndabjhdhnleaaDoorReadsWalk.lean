/-
  The walk of FrameReads.
-/
import Derived.Test.YtnndabjhdhnleaaDoorFAlike
namespace Go.Proofs.YtnndabjhdhnleaaDoor
open Go.RowKit

/-- What a Turn's block holds. -/
def TurnAt (b a c y : Nat) (q : Int) (w : World) : Prop :=
  w.cell? ⟨b, 0, none⟩ = some (.int .u16 (a : Int)) ∧ w.cell? ⟨b, 1, none⟩ = some (.int .u16 (c : Int)) ∧ w.cell? ⟨b, 2, none⟩ = some (.int .u8 (y : Int)) ∧ w.cell? ⟨b, 3, none⟩ = some (.int .i64 q)

theorem turnAt_new (w : World) (a c y : Nat) (q : Int) : TurnAt w.heap.size a c y q (w.alloc (.cells #[.int .u16 (a : Int), .int .u16 (c : Int), .int .u8 (y : Int), .int .i64 q] 25)) := by
  refine ⟨?_, ?_, ?_, ?_⟩ <;> simp [go_sem]

theorem TurnAt.below {b a c y : Nat} {q : Int} {w w' : World} (h : TurnAt b a c y q w) (hb : Below w.heap.size w w') : TurnAt b a c y q w' :=
  ⟨(hb.cell (p := ⟨b, 0, none⟩) (block_lt_of_cell h.1)).trans h.1, (hb.cell (p := ⟨b, 1, none⟩) (block_lt_of_cell h.2.1)).trans h.2.1, (hb.cell (p := ⟨b, 2, none⟩) (block_lt_of_cell h.2.2.1)).trans h.2.2.1, (hb.cell (p := ⟨b, 3, none⟩) (block_lt_of_cell h.2.2.2)).trans h.2.2.2⟩

set_option maxRecDepth 100000 in
set_option maxHeartbeats 8000000 in
theorem reads_walk (s R A : ByteArray) (l : List ByteArray) (v : Value) (k1 a c y : Nat) (q : Int) (e8 : Int) (w : World) (hF : Fours w) (_hs : s.size ≤ 9223372036854775807) (ha : a < 65536) (hc : c < 65536) (hy : y < 256) (_hq1 : -9223372036854775808 ≤ q) (_hq2 : q ≤ 9223372036854775807)
    (m1 : min (s.size : Int) 310 = (k1 : Int)) (b1 : (k1 : Int) ≤ (s.size : Int)) (hR : s.extract 0 k1 = R) (sR : R.size ≤ 310) (_sA : A.size ≤ 313) (hv : Strs w v l)
    (p8 : ∀ w, Fours w → Calls Tryd.prog 8 #[.string R] w fun e w' => e = .returned (.tuple #[.string A, .int .i64 e8]) ∧ Below w.heap.size w w')
    (p9 : ∀ w, Calls Tryd.prog 9 #[.string R] w fun e w' => e = .returned (.tuple #[.string A, .int .i64 e8]) ∧ Below w.heap.size w w')
    (p10 : ∀ w, Calls Tryd.prog 10 #[.string R] w fun e w' => e = .returned (.int .i64 (A.size : Int)) ∧ w = w')
    (p11 : ∀ w, Strs w v l → Calls Tryd.prog 11 #[v] w (MadeAns w)) :
    Calls Tryd.prog 3 #[.string s, v, .agg #[.int .u16 (a : Int), .int .u16 (c : Int), .int .u8 (y : Int), .int .i64 q]] w fun e w' => e = .returned (.bool true) ∧ Below w.heap.size w w' := by
  have p13 := fworks_any
  have HC := Lib.hid alike_any
  have HF := Lib.hid hF; clear hF
  have hbr : Below w.heap.size w (w.alloc (.cells #[.int .u16 (a : Int), .int .u16 (c : Int), .int .u8 (y : Int), .int .i64 q] 25)) := (Below.refl _ _).alloc (Nat.le_refl _) _
  have hT := turnAt_new w a c y q
  obtain ⟨W0, hW0⟩ : ∃ W0, W0 = w.alloc (.cells #[.int .u16 (a : Int), .int .u16 (c : Int), .int .u8 (y : Int), .int .i64 q] 25) := ⟨_, rfl⟩
  rw [← hW0] at hT hbr
  have HD := Lib.hid (fun w1 (h : Below W0.heap.size W0 w1) => hT.below h)
  have hbW : Below W0.heap.size W0 W0 := Below.refl _ _
  clear hT
  go_enter Tryd.func3, Tryd.ntmps3
  go_wp2_with fail
  rw [← hW0]
  clear hW0
  go_wp2_with (first
    | (go_at_call 8; go_must (with_reducible refine (p8 _ (HF.out.below hbr)).mono ?_); rintro e' w1 ⟨rfl, hb1⟩; replace hbr := Below.next hbr hb1; replace hbW := Below.next hbW hb1; clear hb1)
    | (go_at_call 9; go_must (with_reducible refine (p9 _).mono ?_); rintro e' w2 ⟨rfl, hb1⟩; replace hbr := Below.next hbr hb1; replace hbW := Below.next hbW hb1; clear hb1)
    | (go_at_call 10; go_must (with_reducible refine (p10 _).mono ?_); rintro e' w3 ⟨rfl, rfl⟩))
  refine (p11 _ (hv.below hbr)).mono ?_
  rintro e' wr ⟨M, rfl, hM, hb1⟩
  replace hbr := Below.next hbr hb1
  replace hbW := Below.next hbW hb1
  clear hb1 p8 p9 p10 p11 hv
  have hM' : M.size ≤ 6260 := hM
  obtain ⟨r, hr⟩ : ∃ r : Nat, r = a % (M.size + 3) := ⟨_, rfl⟩
  have e2 : (a : Int) % ((M.size : Int) + 3) = (r : Int) := by rw [hr]; push_cast; rfl
  have hr3 : r < M.size + 3 := by rw [hr]; exact Nat.mod_lt _ (by omega)
  obtain ⟨z, hz⟩ : ∃ z : Nat, z = c % (M.size + 1) := ⟨_, rfl⟩
  have e3 : (c : Int) % ((M.size : Int) + 1) = (z : Int) := by rw [hz]; push_cast; rfl
  have hzM : z < M.size + 1 := by rw [hz]; exact Nat.mod_lt _ (by omega)
  have i3 : (z : Int) ≤ (M.size : Int) := by omega
  obtain ⟨M5, hM5⟩ : ∃ M5, M.extract 0 z = M5 := ⟨_, rfl⟩
  have sM5 : M5.size ≤ 1000000 := by rw [← hM5, ByteArray.size_extract]; omega
  obtain ⟨M6, hM6⟩ : ∃ M6, M ++ R = M6 := ⟨_, rfl⟩
  have sM6 : M6.size ≤ 1000000 := by rw [← hM6, ba_size_append]; omega
  have sM : M.size ≤ 1000000 := by omega
  have sR' : R.size ≤ 1000000 := by omega
  have hcat : M.size + R.size ≤ 9223372036854775807 := by omega
  have hconv := Lib.run_convert_string_bytes (P := Tryd.prog) wr 9 31 5 M Tryd.underlying9 Tryd.underlying31 Tryd.underlying5
  have hr1 := rowOf_conv wr M
  have hb5 := below_conv wr M
  obtain ⟨w5, hw5⟩ : ∃ w5, Lib.bytesWorld wr 5 M = w5 := ⟨_, rfl⟩
  obtain ⟨gc, hgc⟩ : ∃ gc, grownCap wr M.size 0 5 = gc := ⟨_, rfl⟩
  rw [hw5] at hr1 hb5
  rw [hw5, hgc] at hconv
  obtain ⟨c0, c1, c2, c3⟩ := HD.out _ (Below.next hbW hb5)
  clear hr hz hw5 hgc hM m1 hR
  by_cases hpos : 0 < M.size
  · obtain ⟨ix, hix⟩ : ∃ ix : Nat, ix = a % M.size := ⟨_, rfl⟩
    have e1 : (a : Int) % (M.size : Int) = (ix : Int) := by rw [hix]; push_cast; rfl
    have hixM : ix < M.size := by rw [hix]; exact Nat.mod_lt _ hpos
    obtain ⟨x, hx⟩ : ∃ x : Nat, x = (M.data.toList.getD ix 0).toNat := ⟨_, rfl⟩
    have hx8 : x < 256 := by rw [hx]; exact UInt8.toNat_lt _
    have hcl := hr1.1 ix (by rw [ba_length]; exact hixM)
    have hfz := hr1.2 ix (by rw [ba_length]; exact hixM)
    rw [← hx] at hcl
    obtain ⟨zz, hzz⟩ : ∃ zz : Nat, zz = x ^^^ y := ⟨_, rfl⟩
    have hz8 : zz < 256 := by rw [hzz]; exact Nat.xor_lt_two_pow (n := 8) hx8 hy
    have e4 : bits .xor .u8 (x : Int) (y : Int) = (zz : Int) := by rw [hzz]; exact u8_xor_nat _ _ hx8 hy
    have hr2 := rowOf_set hr1 ix (by rw [ba_length]; exact hixM) (UInt8.ofNat zz)
    rw [show ((UInt8.ofNat zz).toNat : Int) = (zz : Int) by rw [UInt8.toNat_ofNat', Nat.mod_eq_of_lt hz8]] at hr2
    obtain ⟨B, hB⟩ : ∃ B : ByteArray, B = ⟨(M.data.toList.set ix (UInt8.ofNat zz)).toArray⟩ := ⟨_, rfl⟩
    have sB : B.size ≤ 1000000 := by rw [hB, ← ba_length]; show (M.data.toList.set ix _).length ≤ _; rw [List.length_set, ba_length]; omega
    have hV : ∀ W', Below ((w5.setCell ⟨wr.heap.size, ix, none⟩ (.int .u8 (zz : Int))).drew).heap.size ((w5.setCell ⟨wr.heap.size, ix, none⟩ (.int .u8 (zz : Int))).drew) W' → (convert 31 9 (.slice (some ⟨wr.heap.size, 0, none⟩) M.size gc)).run Tryd.prog W' = .ok (.string B) W' := fun W' h => by
      have := rowOf_str (c := gc) (rowOf_below hr2 h)
      rw [List.length_set, ba_length, ← hB] at this
      exact this
    have HV := Lib.hid hV
    have hbr' : Below w.heap.size w ((w5.setCell ⟨wr.heap.size, ix, none⟩ (.int .u8 (zz : Int))).drew) := ((Below.next hbr hb5).setCell (p := ⟨wr.heap.size, ix, none⟩) hbr.size _).drew
    have hbW' : Below W0.heap.size W0 ((w5.setCell ⟨wr.heap.size, ix, none⟩ (.int .u8 (zz : Int))).drew) := ((Below.next hbW hb5).setCell (p := ⟨wr.heap.size, ix, none⟩) hbW.size _).drew
    have hb6 : Below ((w5.setCell ⟨wr.heap.size, ix, none⟩ (.int .u8 (zz : Int))).drew).heap.size ((w5.setCell ⟨wr.heap.size, ix, none⟩ (.int .u8 (zz : Int))).drew) ((w5.setCell ⟨wr.heap.size, ix, none⟩ (.int .u8 (zz : Int))).drew) := Below.refl _ _
    obtain ⟨d0, d1, d2, d3⟩ := HD.out _ hbW'
    clear hix hx hzz hr1 hr2 hB hV hb5 hbr hbW
    have hbr := hbr'
    have hbW := hbW'
    clear hbr' hbW'
    have hposI : (0 : Int) < (M.size : Int) := by omega
    go_wp2_with fail
    clear hconv
    go_region
    clear c0 c1 c2 c3 hcl hfz
    go_wp2_with (first
            | (go_at_call 12; go_must (with_reducible refine (HC.out _ _ _ (HF.out.below hbr) (by first | assumption | omega)).mono ?_); rintro e' w9 ⟨rfl, hb9⟩; replace hbr := Below.next hbr hb9; replace hbW := Below.next hbW hb9; replace hb6 := Below.next hb6 hb9; clear hb9; obtain ⟨d0, d1, d2, d3⟩ := HD.out _ hbW; have hcv := HV.out _ hb6)
            | (go_at_call 13; go_must (with_reducible refine (p13 _ (HF.out.below hbr)).mono ?_); rintro e' w9 ⟨rfl, hb9⟩; replace hbr := Below.next hbr hb9; clear hb9))
    go_ret
    exact ⟨rfl, hbr⟩
  · have hM0 : M.size = 0 := by omega
    have hV : ∀ W', Below w5.heap.size w5 W' → (convert 31 9 (.slice (some ⟨wr.heap.size, 0, none⟩) M.size gc)).run Tryd.prog W' = .ok (.string M) W' := fun W' h => by
      have := rowOf_str (c := gc) (rowOf_below hr1 h)
      rw [ba_length] at this
      exact this
    have HV := Lib.hid hV
    have hbr' := Below.next hbr hb5
    have hbW' := Below.next hbW hb5
    have hb6 : Below w5.heap.size w5 w5 := Below.refl _ _
    have hcv := HV.out _ hb6
    have hpos' : ¬ 0 < (M.size : Int) := by omega
    have HM0 := Lib.hid hM0
    clear hr1 hV hb5 hbr hbW hM0
    have hbr := hbr'
    have hbW := hbW'
    clear hbr' hbW'
    obtain ⟨d0, d1, d2, d3⟩ := HD.out _ hbW
    go_wp2_with (first
            | (go_at_call 12; go_must (with_reducible refine (HC.out _ _ _ (HF.out.below hbr) (by first | assumption | omega)).mono ?_); rintro e' w9 ⟨rfl, hb9⟩; replace hbr := Below.next hbr hb9; replace hbW := Below.next hbW hb9; replace hb6 := Below.next hb6 hb9; clear hb9; obtain ⟨d0, d1, d2, d3⟩ := HD.out _ hbW; have hcv := HV.out _ hb6)
            | (go_at_call 13; go_must (with_reducible refine (p13 _ (HF.out.below hbr)).mono ?_); rintro e' w9 ⟨rfl, hb9⟩; replace hbr := Below.next hbr hb9; clear hb9))
    go_ret
    exact ⟨rfl, hbr⟩

theorem frameReads_any (s : ByteArray) (l : List ByteArray) (ad : Option Addr) (n cp a c y : Nat) (q : Int) (w : World) (hF : Fours w) (hs : s.size ≤ 9223372036854775807) (hll : l.length = n) (hlc : n ≤ cp) (hlm : cp ≤ 9223372036854775807)
    (hlz : ∀ x ∈ l, x.size ≤ 9223372036854775807) (hls : Strs w (.slice ad n cp) l) (ha : a < 65536) (hc : c < 65536) (hy : y < 256) (h1 : -9223372036854775808 ≤ q) (h2 : q ≤ 9223372036854775807) :
    Calls Tryd.prog 3 #[.string s, .slice ad n cp, .agg #[.int .u16 (a : Int), .int .u16 (c : Int), .int .u8 (y : Int), .int .i64 q]] w fun e w' => e = .returned (.bool true) ∧ Below w.heap.size w w' := by
  obtain ⟨R, hR⟩ : ∃ R, s.extract 0 (min s.size 310) = R := ⟨_, rfl⟩
  have sR : R.size ≤ 310 := by rw [← hR, ByteArray.size_extract]; omega
  have sA := frame_some_size R
  have hA : (if fits R.size = true then Plain.size R.size + R.size + 4 else 0) = (if fits R.size = true then frameOf R else ⟨#[]⟩ : ByteArray).size := by
    split
    · rw [frameOf_size]
    · rfl
  refine reads_walk s R (if fits R.size = true then frameOf R else ⟨#[]⟩) l (.slice ad n cp) (min s.size 310) a c y q (if fits R.size = true then 0 else 4) w hF hs ha hc hy h1 h2 (by omega) (by omega) hR sR sA hls
    (fun w1 h1' => fput_any R w1 h1' (by omega)) (fun w1 => refFput_any R w1 (by omega)) (fun w1 => ?_) (fun w1 h1' => made_any l _ w1 h1' hlz (by omega))
  have := fsize_any R w1 (by omega)
  rw [hA] at this
  exact this
end Go.Proofs.YtnndabjhdhnleaaDoor

/-
  The walk of FrameLaid.
-/
import Derived.Test.YtnndabjhdhnleaaDoorFIs
import Derived.Test.YtnndabjhdhnleaaDoorFMath2
namespace Go.Proofs.YtnndabjhdhnleaaDoor
open Go.RowKit

/-- A frame of which one byte behind its length is another one. -/
theorem fget_turned (p B : ByteArray) (h : fits p.size = true) (i : Nat) (b : UInt8) (h1 : Plain.size p.size ≤ i) (h2 : i < (frameOf p).size) (hb : b ≠ (frameOf p)[i]) (hB : B.data.toList = (frameOf p).data.toList.set i b) : fget B 0 = (⟨#[]⟩, 0, 16) := by
  obtain ⟨f1, f2⟩ := fits_true h
  have hfs := frameOf_size p
  have hl : B.data.toList = Plain.enc p.size ++ (p.data.toList ++ Plain.four (Plain.sum (headed p).data.toList)).set (i - Plain.size p.size) b := by
    rw [hB, frameOf_list, List.append_assoc, List.set_append_right _ _ (by rw [Plain.enc_length]; exact h1), Plain.enc_length]
  have hsz : B.size = (frameOf p).size := by rw [← ba_length, hB, List.length_set, ba_length]
  have hg : Plain.get B.data.toList 0 = (p.size, ((Plain.size p.size : Nat) : Int), 0) := by
    have := Plain.get_at (s := B.data.toList) (k := 0) (by rw [ba_length]; omega)
    rw [show ((0 : Nat) : Int) = 0 from rfl, List.drop_zero, hl, Plain.getL_enc (by omega)] at this
    rw [hl, this]
    simp
  have hx : B.extract 0 (Plain.size p.size + p.size + 4) = B := by
    apply ba_ext
    rw [ex_list, List.drop_zero, Nat.sub_zero, List.take_of_length_le (by rw [ba_length]; omega)]
  refine fget_sum (by omega) (by omega) hg h (by rw [Int.toNat_natCast]; omega) ?_
  rw [Int.toNat_natCast]
  show isSeal (ByteArray.extract _ 0 _) = false
  rw [hx]
  exact seal_turned (frameOf p) B i b (by omega) h2 (isSeal_sealed _) hB hb

set_option maxRecDepth 100000 in
set_option maxHeartbeats 4000000 in
theorem laid_walk (s p S P F T : ByteArray) (L : List ByteArray) (k1 k2 G E a c y : Nat) (q e8 : Int) (w : World) (hF : Fours w) (_hs : s.size ≤ 9223372036854775807) (_hp : p.size ≤ 9223372036854775807) (ha : a < 65536) (hy : y < 256)
    (m1 : min (s.size : Int) 600 = (k1 : Int)) (m2 : min (p.size : Int) 300 = (k2 : Int)) (b1 : (k1 : Int) ≤ (s.size : Int)) (b2 : (k2 : Int) ≤ (p.size : Int)) (hS : s.extract 0 k1 = S) (hP : p.extract 0 k2 = P) (hT : F ++ S = T)
    (sF : F.size ≤ 1000) (sS : S.size ≤ 1000) (sP : P.size ≤ 300) (sT : T.size ≤ 2000) (hG : (G : Int) ≤ (T.size : Int)) (hL : frs L = T.data.toList.take G) (hfit : ∀ x ∈ L, fits x.size = true) (hFP : fits P.size = true → F = frameOf P) (hPF : fits P.size = false → P = ⟨#[]⟩)
    (p8 : ∀ w, Fours w → Calls Tryd.prog 8 #[.string P] w fun e w' => e = .returned (.tuple #[.string F, .int .i64 e8]) ∧ Below w.heap.size w w')
    (p14 : ∀ w, Fours w → Calls Tryd.prog 14 #[.string T] w (AllAns w (L, (G : Int), E))) :
    Calls Tryd.prog 5 #[.string s, .string p, .agg #[.int .u16 (a : Int), .int .u16 (c : Int), .int .u8 (y : Int), .int .i64 q]] w fun e w' => e = .returned (.bool true) ∧ Below w.heap.size w w' := by
  have p13 := fworks_any
  have HF := Lib.hid hF; clear hF
  have hb : Below w.heap.size w (w.alloc (.cells #[.int .u16 (a : Int), .int .u16 (c : Int), .int .u8 (y : Int), .int .i64 q] 25)) := (Below.refl _ _).alloc (Nat.le_refl _) _
  have d0 : (w.alloc (.cells #[.int .u16 (a : Int), .int .u16 (c : Int), .int .u8 (y : Int), .int .i64 q] 25)).cell? ⟨w.heap.size, 0, none⟩ = some (.int .u16 (a : Int)) := by simp [go_sem]
  have d2 : (w.alloc (.cells #[.int .u16 (a : Int), .int .u16 (c : Int), .int .u8 (y : Int), .int .i64 q] 25)).cell? ⟨w.heap.size, 2, none⟩ = some (.int .u8 (y : Int)) := by simp [go_sem]
  obtain ⟨W0, hW0⟩ : ∃ W0, W0 = w.alloc (.cells #[.int .u16 (a : Int), .int .u16 (c : Int), .int .u8 (y : Int), .int .i64 q] 25) := ⟨_, rfl⟩
  have hd := fun w1 (h : Below W0.heap.size W0 w1) => (⟨(h.cell (p := ⟨w.heap.size, 0, none⟩) (by rw [hW0]; exact block_lt_of_cell d0)).trans (by rw [hW0]; exact d0), (h.cell (p := ⟨w.heap.size, 2, none⟩) (by rw [hW0]; exact block_lt_of_cell d2)).trans (by rw [hW0]; exact d2)⟩ : w1.cell? ⟨w.heap.size, 0, none⟩ = some (.int .u16 (a : Int)) ∧ w1.cell? ⟨w.heap.size, 2, none⟩ = some (.int .u8 (y : Int)))
  have HD := Lib.hid hd; clear hd d0 d2
  have hbW : Below W0.heap.size W0 W0 := Below.refl _ _
  rw [← hW0] at hb
  go_enter Tryd.func5, Tryd.ntmps5
  go_wp2_with fail
  rw [← hW0]
  clear hW0
  go_wp2_with (go_at_call 13; go_must (with_reducible refine (p13 _ (HF.out.below hb)).mono ?_); rintro e' w1 ⟨rfl, hb1⟩; replace hb := Below.next hb hb1; replace hbW := Below.next hbW hb1; clear hb1)
  go_quiet (fail)
  replace hb := below_drewN hb nq
  replace hbW := below_drewN hbW nq
  generalize w1.drewN nq = w2 at hb hbW ⊢
  go_wp2_with (first
    | (go_at_call 8; go_must (with_reducible refine (p8 _ (HF.out.below hb)).mono ?_); rintro e' w3 ⟨rfl, hb3⟩; replace hb := Below.next hb hb3; replace hbW := Below.next hbW hb3; clear hb3)
    | (go_at_call 14; go_must (with_reducible refine (p14 _ (HF.out.below hb)).mono ?_); rintro e' w4 ⟨v, rfl, hv, hb4⟩; replace hb := Below.next hb hb4; replace hbW := Below.next hbW hb4; clear hb4))
  obtain ⟨ad, cp, rfl, hcells⟩ := hv
  have hfrs : ∀ k, (frs (L.take k)).length ≤ 2000 := fun k => by
    have e : frs L = frs (L.take k) ++ frs (L.drop k) := by rw [← frs_append, List.take_append_drop]
    have := congrArg List.length e
    rw [hL, List.length_append, List.length_take, ba_length] at this
    omega
  have hgood : T.extract 0 G = ⟨(frs L).toArray⟩ := ba_ext (by rw [ex_list, List.drop_zero, Nat.sub_zero, hL])
  have hLl : L.length ≤ 2000 := by
    have h1 := frs_length_le L
    have h2 := hfrs L.length
    rw [List.take_length] at h2
    omega
  have HL := Lib.hid hL
  clear hL p14
  go_loopw [12, 13, 14, 15] (fun g i _ _ wr => ∃ (k : Nat) (R : ByteArray), k ≤ L.length ∧ i = .int .i64 k ∧ g = .string R ∧ R.data.toList = frs (L.take k) ∧ Below w.heap.size w wr ∧ Below W0.heap.size W0 wr ∧ Below w4.heap.size w4 wr) (fun _ i _ _ _ => L.length - (intOf i).toNat)
  case atStart => exact ⟨0, ⟨#[]⟩, Nat.zero_le _, rfl, rfl, by simp [frs], hb, hbW, Below.refl _ _⟩
  case round =>
    obtain ⟨k, R, hk, rfl, rfl, hR, hbr, hbWr, hb4r⟩ := hrel
    by_cases hlt : k < L.length
    · obtain ⟨bb, oo, rfl, hcell⟩ := hcells k hlt
      have hcell' : wr.cell? ⟨bb, oo + k, none⟩ = some (.string (L.getD k ⟨#[]⟩)) := by rw [hb4r.cell (p := ⟨bb, oo + k, none⟩) (block_lt_of_cell hcell)]; exact hcell
      have hxe : L.getD k ⟨#[]⟩ = L[k] := by simp [List.getD, hlt]
      have hxf : fits (L[k]).size = true := hfit _ (List.getElem_mem hlt)
      rw [hxe] at hcell'
      have hnext : frs (L.take (k + 1)) = frs (L.take k) ++ (frameOf L[k]).data.toList := by rw [List.take_succ_eq_append_getElem hlt, frs_append, frs_one]
      have hRs := hfrs k
      rw [← hR, ba_length] at hRs
      obtain ⟨x, hx⟩ : ∃ x, x = L[k] := ⟨_, rfl⟩
      rw [← hx] at hcell' hxf hnext
      have x300 := fits_true hxf
      have hFs : (frameOf x).size ≤ 313 := by
        have := Plain.size_bounds (n := x.size) (by omega)
        rw [frameOf_size]; omega
      have q8 := fun w0 h0 => fput_fits x (frameOf x) (by omega) hxf rfl w0 h0
      obtain ⟨FX, hFX⟩ : ∃ FX, frameOf x = FX := ⟨_, rfl⟩
      rw [hFX] at q8 hnext hFs
      have HR := Lib.hid hR
      have HN := Lib.hid hnext
      clear hR hnext hFX hcell hcells hfrs hgood hxe hx hxf p8 p13 m1 m2 hS hP hT
      go_wp2_with (go_at_call 8; go_must (with_reducible refine (q8 _ (HF.out.below hbr)).mono ?_); rintro e' w5 ⟨rfl, hb5⟩; replace hbr := Below.next hbr hb5; replace hbWr := Below.next hbWr hb5; replace hb4r := Below.next hb4r hb5; clear hb5)
      exact ⟨⟨k + 1, R ++ FX, by omega, by go_num, rfl, by rw [ba_append, HR.out, HN.out], hbr, hbWr, hb4r⟩, by simp [intOf]; omega⟩
    · obtain rfl : k = L.length := by omega
      rw [List.take_length] at hR
      have hRG : T.extract 0 G = R := by rw [hgood, ← hR]
      clear hgood hR hfrs hcells hfit p8 p13 m1 m2 hS hP hT HL hb hbW hb4r
      obtain ⟨c0, c2⟩ := HD.out _ hbWr
      by_cases hPe : fits P.size = true
      · have hFe := hFP hPe
        obtain ⟨g1, g2⟩ := fits_true hPe
        have hPn : ¬ P.toList = [] := fun h => by
          have : P.data.toList = [] := by rw [← ByteArray.toList_eq]; exact h
          rw [← ba_length, this] at g1
          simp at g1
        have hPb : P.toList.isEmpty = false := by
          cases hz : P.toList.isEmpty
          · rfl
          · exact absurd (List.isEmpty_iff.1 hz) hPn
        have HE := Lib.hid hFe
        clear hFe hFP hPF
        by_cases hy0 : y = 0
        · have i1 : ((y : Int) == 0) = true := by simp; omega
          clear hy0
          go_wp2_with fail
          go_ret
          exact ⟨rfl, hbr⟩
        · have i1 : ((y : Int) == 0) = false := by simp; omega
          obtain ⟨hd, hhd⟩ : ∃ hd : Nat, hd = Plain.size P.size := ⟨_, rfl⟩
          have hfs := frameOf_size P
          rw [← HE.out, ← hhd] at hfs
          have e1 : (F.size : Int) - (P.size : Int) - 4 = (hd : Int) := by omega
          obtain ⟨r, hr⟩ : ∃ r : Nat, r = a % (P.size + 4) := ⟨_, rfl⟩
          have e2 : (a : Int) % ((P.size : Int) + 4) = (r : Int) := by rw [hr]; push_cast; rfl
          have hrl : r < P.size + 4 := by rw [hr]; exact Nat.mod_lt _ (by omega)
          obtain ⟨ix, hix⟩ : ∃ ix : Nat, ix = hd + r := ⟨_, rfl⟩
          have e3 : (hd : Int) + (r : Int) = (ix : Int) := by omega
          have hixF : ix < F.size := by omega
          have hconv := Lib.run_convert_string_bytes (P := Tryd.prog) wr 9 31 5 F Tryd.underlying9 Tryd.underlying31 Tryd.underlying5
          have hr1 := rowOf_conv wr F
          have hb1 := below_conv wr F
          obtain ⟨w5, hw5⟩ : ∃ w5, Lib.bytesWorld wr 5 F = w5 := ⟨_, rfl⟩
          obtain ⟨gc, hgc⟩ : ∃ gc, grownCap wr F.size 0 5 = gc := ⟨_, rfl⟩
          rw [hw5] at hr1 hb1
          rw [hw5, hgc] at hconv
          have d0 : w5.cell? ⟨w.heap.size, 0, none⟩ = some (.int .u16 (a : Int)) := (HD.out _ (Below.next hbWr hb1)).1
          have d2 : w5.cell? ⟨w.heap.size, 2, none⟩ = some (.int .u8 (y : Int)) := (HD.out _ (Below.next hbWr hb1)).2
          obtain ⟨x, hx⟩ : ∃ x : Nat, x = (F.data.toList.getD ix 0).toNat := ⟨_, rfl⟩
          have hx8 : x < 256 := by rw [hx]; exact UInt8.toNat_lt _
          have hcl := hr1.1 ix (by rw [ba_length]; exact hixF)
          have hfz := hr1.2 ix (by rw [ba_length]; exact hixF)
          rw [← hx] at hcl
          obtain ⟨z, hz⟩ : ∃ z : Nat, z = x ^^^ y := ⟨_, rfl⟩
          have hz8 : z < 256 := by rw [hz]; exact Nat.xor_lt_two_pow (n := 8) hx8 hy
          have e4 : bits .xor .u8 (x : Int) (y : Int) = (z : Int) := by rw [hz]; exact u8_xor_nat _ _ hx8 hy
          have hzx : z ≠ x := by
            intro h
            rw [hz] at h
            have := congrArg (x ^^^ ·) h
            simp only [← Nat.xor_assoc, Nat.xor_self, Nat.zero_xor] at this
            exact hy0 this
          have hr2 := rowOf_set hr1 ix (by rw [ba_length]; exact hixF) (UInt8.ofNat z)
          rw [show ((UInt8.ofNat z).toNat : Int) = (z : Int) by rw [UInt8.toNat_ofNat', Nat.mod_eq_of_lt hz8]] at hr2
          obtain ⟨B, hB⟩ : ∃ B : ByteArray, B = ⟨(F.data.toList.set ix (UInt8.ofNat z)).toArray⟩ := ⟨_, rfl⟩
          have hcv := rowOf_str (c := gc) hr2
          rw [List.length_set, ba_length, ← hB] at hcv
          have hturn : fget B 0 = (⟨#[]⟩, 0, 16) := by
            have hFe := HE.out
            subst hFe
            refine fget_turned P B hPe ix (UInt8.ofNat z) (by omega) hixF ?_ (by rw [hB])
            intro h
            apply hzx
            rw [hx, byte_getD _ _ hixF, ← h, UInt8.toNat_ofNat', Nat.mod_eq_of_lt hz8]
          have hBs : B.size ≤ 1000000 := by rw [hB, ← ba_length]; show (F.data.toList.set ix _).length ≤ _; rw [List.length_set, ba_length]; omega
          have q17 := freads_lit B 16 16 rfl hBs hturn
          have hbf : Below w.heap.size w ((w5.setCell ⟨wr.heap.size, ix, none⟩ (.int .u8 (z : Int))).drew) := ((Below.next hbr hb1).setCell (p := ⟨wr.heap.size, ix, none⟩) hbr.size _).drew
          clear hr hix hw5 hgc hx hz hzx hr1 hr2 hB hturn hBs hfs hhd hy0 c0 HD HE hb1 hbWr
          go_wp2_with fail
          clear hconv
          go_region
          go_wp2_with (go_at_call 17; go_must (with_reducible refine (q17 _ (HF.out.below hbf)).mono ?_); rintro e' w6 ⟨rfl, hb6⟩; replace hbf := Below.next hbf hb6; clear hb6)
          go_ret
          exact ⟨rfl, hbf⟩
      · have hPe0 := hPF (by simpa using hPe)
        subst hPe0
        clear hFP hPF hPe
        go_wp2_with fail
        go_ret
        exact ⟨rfl, hbr⟩

theorem frame_none_size (P : ByteArray) (h : P.size ≤ 300) : (if fits P.size = true then frameOf P else ⟨#[]⟩ : ByteArray).size ≤ 313 := by
  split
  · have := Plain.size_bounds (n := P.size) (by omega)
    rw [frameOf_size]; omega
  · exact Nat.zero_le _

theorem frameLaid_any (s p : ByteArray) (a c y : Nat) (q : Int) (w : World) (hF : Fours w) (hs : s.size ≤ 9223372036854775807) (hp : p.size ≤ 9223372036854775807) (ha : a < 65536) (_hc : c < 65536) (hy : y < 256) (_h1 : -9223372036854775808 ≤ q) (_h2 : q ≤ 9223372036854775807) :
    Calls Tryd.prog 5 #[.string s, .string p, .agg #[.int .u16 (a : Int), .int .u16 (c : Int), .int .u8 (y : Int), .int .i64 q]] w fun e w' => e = .returned (.bool true) ∧ Below w.heap.size w w' := by
  obtain ⟨S, hS⟩ : ∃ S, s.extract 0 (min s.size 600) = S := ⟨_, rfl⟩
  obtain ⟨P, hP⟩ : ∃ P, p.extract 0 (min p.size 300) = P := ⟨_, rfl⟩
  have sS : S.size ≤ 600 := by rw [← hS, ByteArray.size_extract]; omega
  have sP : P.size ≤ 300 := by rw [← hP, ByteArray.size_extract]; omega
  have sF := frame_none_size P sP
  obtain ⟨F, hFr⟩ : ∃ F, (if fits P.size = true then frameOf P else ⟨#[]⟩ : ByteArray) = F := ⟨_, rfl⟩
  rw [hFr] at sF
  obtain ⟨T, hT⟩ : ∃ T, F ++ S = T := ⟨_, rfl⟩
  have sT : T.size ≤ 913 := by rw [← hT, ba_size_append]; omega
  obtain ⟨G, hG, hGT, hL, hfit⟩ := fall_laid T
  obtain ⟨⟨L, G', E⟩, hr⟩ : ∃ r, fall T = r := ⟨_, rfl⟩
  rw [hr] at hG hL hfit
  dsimp only at hG hL hfit
  subst hG
  refine laid_walk s p S P F T L (min s.size 600) (min p.size 300) G E a c y q (if fits P.size = true then 0 else 4) w hF hs hp ha hy (by omega) (by omega) (by omega) (by omega) hS hP hT (by omega) (by omega) sP (by omega) (by omega) hL hfit
    (fun h => by rw [← hFr, if_pos h]) (fun h => ?_) (fun w1 h1' => hFr ▸ fput_any P w1 h1' (by omega)) (fun w1 h1' => hr ▸ fall_any T w1 h1' (by omega))
  have h0 := fits_false h
  have hz : P.data.toList = [] := List.eq_nil_of_length_eq_zero (by rw [ba_length]; omega)
  exact ba_ext hz
end Go.Proofs.YtnndabjhdhnleaaDoor

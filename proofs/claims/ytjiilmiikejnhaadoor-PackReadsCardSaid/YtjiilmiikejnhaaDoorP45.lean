/-
  PackReads: the walk.
-/
import Derived.Test.YtjiilmiikejnhaaDoorP42
import Derived.Test.YtjiilmiikejnhaaDoorP44
import Derived.Test.YtjiilmiikejnhaaDoorP36
import Derived.RegionTactic
set_option linter.unusedVariables false
set_option linter.unusedSimpArgs false
namespace Go.Proofs.YtjiilmiikejnhaaDoor
open Go.RowKit Go.Shelf Said

theorem six_0 (a b c d e f : Value) (w : World) : (Instr.index 44 (.agg #[a, b, c, d, e, f]) (.int .i64 0)).run Tryd.prog w = .ok a w := by kernel_rfl
theorem six_1 (a b c d e f : Value) (w : World) : (Instr.index 44 (.agg #[a, b, c, d, e, f]) (.int .i64 1)).run Tryd.prog w = .ok b w := by kernel_rfl
theorem six_2 (a b c d e f : Value) (w : World) : (Instr.index 44 (.agg #[a, b, c, d, e, f]) (.int .i64 2)).run Tryd.prog w = .ok c w := by kernel_rfl
theorem six_3 (a b c d e f : Value) (w : World) : (Instr.index 44 (.agg #[a, b, c, d, e, f]) (.int .i64 3)).run Tryd.prog w = .ok d w := by kernel_rfl
theorem six_4 (a b c d e f : Value) (w : World) : (Instr.index 44 (.agg #[a, b, c, d, e, f]) (.int .i64 4)).run Tryd.prog w = .ok e w := by kernel_rfl
theorem six_5 (a b c d e f : Value) (w : World) : (Instr.index 44 (.agg #[a, b, c, d, e, f]) (.int .i64 5)).run Tryd.prog w = .ok f w := by kernel_rfl
set_option maxHeartbeats 4000000 in
set_option maxRecDepth 100000 in
theorem reads_walk {w : World} {s : ByteArray} {va : Value} {la : List DSt} {ia A B C : Nat} (hF : Fours w) (hE : ErrT w) (hs : s.size ≤ maxLen) (h1 : StsC w va la) (ok1 : ∀ s ∈ la, s.ok) (hia : ia < 18446744073709551616) (hA : A < 65536) (hB : B < 65536) (hC : C < 256) :
    Calls Tryd.prog 4 #[.string s, .agg #[va, .int .u64 (ia : Int)], .agg #[.int .u16 (A : Int), .int .u16 (B : Int), .int .u8 (C : Int)]] w fun e w' => e = .returned (.bool true) ∧ Below w.heap.size w w' := by
  have WK : Hid (∀ W, Below w.heap.size w W → Calls Tryd.prog 14 #[] W fun e w' => e = .returned (.bool true) ∧ Below W.heap.size W w') := Lib.hid fun W hb => works_any (hF.below hb) (hE.below hb)
  have RD : Hid (∀ W, Below w.heap.size w W → ∀ y : ByteArray, y.size ≤ 90000 → Calls Tryd.prog 16 #[.string y] W fun e w' => e = .returned (.bool true) ∧ Below W.heap.size W w') := Lib.hid fun W hb y hy => reads_any (hF.below hb) (hE.below hb) hy
  have SL : Hid (∀ W (y : ByteArray), y.size ≤ 80000 → Calls Tryd.prog 17 #[.string y] W fun e w' => e = .returned (.string (sealed y)) ∧ Below W.heap.size W w') := Lib.hid fun W y hy => refSeal_any y W (by omega)
  obtain ⟨F, hF1⟩ : ∃ F, F = formedT la := ⟨_, rfl⟩
  have hFF : Formed F := by rw [hF1]; exact formedT_formed ok1
  obtain ⟨nF, hnF⟩ : ∃ n, F.length = n := ⟨_, rfl⟩
  have FA : Hid (∀ W, Below w.heap.size w W → Calls Tryd.prog 10 #[.agg #[va, .int .u64 (ia : Int)]] W fun e w' => ∃ v, e = .returned v ∧ (∃ ad c, v = .agg #[.slice ad nF c, .int .u64 (ia : Int)] ∧ Sts w' (.slice ad nF c) F) ∧ Below W.heap.size W w') := Lib.hid fun W hb => by
    refine (formed_any (h1.below hb)).mono ?_
    rintro e w' ⟨ad, c, rfl, h2, h3⟩
    rw [← hF1, hnF] at h2
    exact ⟨_, rfl, ⟨ad, c, by rw [← hF1, hnF], h2⟩, h3⟩
  have PU : Hid (∀ W v, (∃ ad c, v = .agg #[.slice ad nF c, .int .u64 (ia : Int)] ∧ Sts W (.slice ad nF c) F) → Calls Tryd.prog 12 #[.int .i64 (A : Int), v] W fun e w' => ∃ v, e = .returned v ∧ (∃ S : ByteArray, v = .tuple #[.string S, .int .i64 0] ∧ S.size ≤ 5000) ∧ Below W.heap.size W w') := Lib.hid fun W v hv => by
    obtain ⟨ad, c, rfl, hst⟩ := hv
    refine (refPack_any hst hFF (by omega) hia).mono ?_
    rintro e w' ⟨⟨S, rfl, h2⟩, h3⟩
    exact ⟨_, rfl, ⟨S, rfl, h2⟩, h3⟩
  obtain ⟨w0, hw0⟩ : ∃ w0, w0 = (w.alloc (.cells #[va, .int .u64 (ia : Int)] 25)).alloc (.cells #[.int .u16 (A : Int), .int .u16 (B : Int), .int .u8 (C : Int)] 40) := ⟨_, rfl⟩
  have hb0 : Below w.heap.size w w0 := by rw [hw0]; exact (below_alloc w _).alloc (by simp) _
  have f0 : FstB w0 w.heap.size va ia := by rw [hw0]; exact (alloc_old _ _ (by simp)).trans (heap_alloc_new w _)
  have f1 : w0.heap[w.heap.size + 1]? = some (.cells #[.int .u16 (A : Int), .int .u16 (B : Int), .int .u8 (C : Int)] 40 (0, 0)) := by rw [hw0]; exact alloc_at _ _ (by simp)
  have HC : Hid (∀ W, Below w0.heap.size w0 W → FstB W w.heap.size va ia ∧ W.cell? ⟨w.heap.size + 1, 0, none⟩ = some (.int .u16 (A : Int)) ∧ W.cell? ⟨w.heap.size + 1, 1, none⟩ = some (.int .u16 (B : Int)) ∧ W.cell? ⟨w.heap.size + 1, 2, none⟩ = some (.int .u8 (C : Int))) := Lib.hid fun W hb => by
    have h2 := (hb.block _ (Array.getElem?_eq_some_iff.1 f1).1).trans f1
    exact ⟨f0.kp (Kp.below (M := fun _ => False) hb) (fun h => h), by rw [cell_of_row W _ 0 _ _ _ h2]; rfl, by rw [cell_of_row W _ 1 _ _ _ h2]; rfl, by rw [cell_of_row W _ 2 _ _ _ h2]; rfl⟩
  have HB0 := Lib.hid hb0
  obtain ⟨kp, hkp⟩ : ∃ kp, kp = min s.size 300 := ⟨_, rfl⟩
  have hkp1 : kp ≤ s.size := by omega
  have hmin : min (s.size : Int) 300 = (kp : Int) := by omega
  obtain ⟨X, hX⟩ : ∃ X, s.extract 0 kp = X := ⟨_, rfl⟩
  have hXs : X.size = kp := by rw [← hX, ByteArray.size_extract]; omega
  have hXm : X.size ≤ 300 := by omega
  have hM1 : Mono (fun v W => ∃ ad c, v = .agg #[.slice ad nF c, .int .u64 (ia : Int)] ∧ Sts W (.slice ad nF c) F) := by
    rintro v W W' hb ⟨ad, c, e, h⟩
    exact ⟨ad, c, e, h.below hb⟩
  have hM2 : Mono (fun v (_ : World) => ∃ S : ByteArray, v = .tuple #[.string S, .int .i64 0] ∧ S.size ≤ 5000) := fun v W W' _ h => h
  have hM3 : Mono (fun v (_ : World) => ∃ S : ByteArray, v = .string S ∧ S.size ≤ 5000) := fun v W W' _ h => h
  have HM := Lib.hid (And.intro hM1 (And.intro hM2 hM3))
  clear h1 ok1 hF hE hF1 hFF hnF hia hb0 f0 f1 hkp hXs hM1 hM2 hM3
  go_enter Tryd.func4, Tryd.ntmps4
  go_upto_region 1 with fail
  rw [← hw0]
  clear hw0
  go_upto_region 2 with fail
  clear hmin hkp1 hX hs
  refine Said.region (by kernel_rfl) (by kernel_rfl) (by kernel_rfl) [.is (.pointer (some ⟨w.heap.size + 1, 0, none⟩)), .is (.int .u16 (A : Int)), .is (.int .i64 (A : Int)), .is (.agg #[va, .int .u64 (ia : Int)]),
    .has (fun v W => ∃ ad c, v = .agg #[.slice ad nF c, .int .u64 (ia : Int)] ∧ Sts W (.slice ad nF c) F), .has (fun v _ => ∃ S : ByteArray, v = .tuple #[.string S, .int .i64 0] ∧ S.size ≤ 5000), .has (fun v _ => ∃ S : ByteArray, v = .tuple #[.string S, .int .i64 0] ∧ S.size ≤ 5000),
    .has (fun v _ => ∃ S : ByteArray, v = .string S ∧ S.size ≤ 5000), .is (.int .i64 0), .has (fun v _ => ∃ S : ByteArray, v = .string S ∧ S.size ≤ 5000), .is (.int .i64 0)] ?_
  simp only [List.toList_toArray]
  iterate 4 (
    refine sq_pure (by rfl) (fun W hb _ => ?_) ?_
    · obtain ⟨y0, y1, y2, y3⟩ := HC.out W hb
      have y4 := y0.at0
      have y5 := y0.at1
      go_simp
      all_goals first | done | exact IntWalk.i64_in _ (by omega)
    simp only [Act.put, List.setIfInBounds_toArray, List.set_cons_zero, List.set_cons_succ])
  refine sq_calls HM.out.1 (f := 10) (args := #[.agg #[va, .int .u64 (ia : Int)]]) (by rfl) (fun W => by go_simp) (fun W hb _ => FA.out W (HB0.out.trans (hb.mono HB0.out.size))) (fun v25 => ?_)
  simp only [Act.put, List.setIfInBounds_toArray, List.set_cons_zero, List.set_cons_succ]
  refine sq_calls HM.out.2.1 (f := 12) (args := #[.int .i64 (A : Int), v25]) (by rfl) (fun W => by go_simp) (fun W hb hf => PU.out W v25 (hf.1 (by kernel_rfl))) (fun v26 => ?_)
  simp only [Act.put, List.setIfInBounds_toArray, List.set_cons_zero, List.set_cons_succ]
  refine sq_has HM.out.2.1 (fun W hb hf => step_value (v := v26) (W' := W) (by rfl) (by go_simp) (Below.refl _ _) (hf.1 (by kernel_rfl))) (fun v20 => ?_)
  simp only [Act.put, List.setIfInBounds_toArray, List.set_cons_zero, List.set_cons_succ]
  refine sq_has HM.out.2.2 (fun W hb hf => ?_) (fun v27 => ?_)
  · obtain ⟨S, rfl, hS⟩ := hf.1 (by kernel_rfl)
    exact step_value (v := .string S) (W' := W) (by rfl) (by go_simp) (Below.refl _ _) ⟨S, rfl, hS⟩
  simp only [Act.put, List.setIfInBounds_toArray, List.set_cons_zero, List.set_cons_succ]
  refine sq_pure (by rfl) (fun W hb hf => ?_) ?_
  · obtain ⟨S, rfl, hS⟩ := hf.2.1 (by kernel_rfl)
    go_simp
  simp only [Act.put, List.setIfInBounds_toArray, List.set_cons_zero, List.set_cons_succ]
  refine sq_has HM.out.2.2 (fun W hb hf => step_value (v := v27) (W' := W) (by rfl) (by go_simp) (Below.refl _ _) (hf.1 (by kernel_rfl))) (fun v7 => ?_)
  simp only [Act.put, List.setIfInBounds_toArray, List.set_cons_zero, List.set_cons_succ]
  refine sq_pure (by rfl) (fun W hb hf => by go_simp) ?_
  simp only [Act.put, List.setIfInBounds_toArray, List.set_cons_zero, List.set_cons_succ]
  refine sq_end (fun w3 hb3 hK3 => ?_)
  obtain ⟨S, rfl, hS⟩ := hK3 _ (List.mem_cons_self ..)
  have H3 := Lib.hid hb3
  clear hK3 hb3
  have hS : S.size ≤ 5000 := hS
  have QO := refOpen_any S w3 (by omega)
  obtain ⟨O, hO⟩ : ∃ O, opened S = O := ⟨_, rfl⟩
  obtain ⟨sl, hsl⟩ : ∃ sl, isSeal S = sl := ⟨_, rfl⟩
  have hOz : O.size ≤ 5000 := by rw [← hO]; exact Nat.le_trans (opened_size S) hS
  rw [hO, hsl] at QO
  have HQ := Lib.hid QO
  have HSZ := Lib.hid hS
  clear QO hO hsl hS
  go_upto_region 5 with (go_at_call 15
                         (with_reducible refine HQ.out.mono ?_)
                         go_loud (
                         rintro e' w4 ⟨rfl, hb4⟩
                         have hconv := Lib.run_convert_string_bytes (P := Tryd.prog) w4 9 43 5 O Tryd.underlying9 Tryd.underlying43 Tryd.underlying5
                         have hr1 := rowOf_conv w4 O
                         have hbc := below_conv w4 O
                         have hb34 := H3.out.trans (hb4.mono H3.out.size)
                         have hb35 := hb34.trans (hbc.mono hb34.size)
                         obtain ⟨w5, hw5⟩ : ∃ w5, Lib.bytesWorld w4 5 O = w5 := ⟨_, rfl⟩
                         obtain ⟨cc, hcc⟩ : ∃ cc, grownCap w4 O.size 0 5 = cc := ⟨_, rfl⟩
                         obtain ⟨b, hb⟩ : ∃ b, w4.heap.size = b := ⟨_, rfl⟩
                         rw [hw5, hb] at hr1
                         rw [hw5, hcc, hb] at hconv
                         rw [hw5] at hb35
                         have H5 := Lib.hid (And.intro hr1 (And.intro hb35 (show w0.heap.size ≤ b by rw [← hb]; exact hb34.size)))
                         clear hw5 hcc hb hb4 hr1 hbc hb34 hb35))
  clear hconv
  rcases Nat.eq_zero_or_pos O.size with hz0 | hz0
  · have dz : decide ((0 : Int) < (O.size : Int)) = false := decide_eq_false (by omega)
    have dz2 : decide (0 < O.size) = false := decide_eq_false (by omega)
    clear hz0
    go_upto_region 7 with fail
    clear dz dz2
    obtain ⟨W6, hW6⟩ : ∃ W6, W6 = w5 := ⟨_, rfl⟩
    have H6 : Hid (∃ l', l'.length = O.size ∧ RowOf W6 b l' ∧ Below w0.heap.size w0 W6) := Lib.hid ⟨_, ba_length O, by rw [hW6]; exact H5.out.1, by rw [hW6]; exact H5.out.2.1⟩
    rw [← hW6]
    clear hW6
    obtain ⟨l', hl', hrow, hbel⟩ := H6.out
    obtain ⟨j, hj⟩ : ∃ j, B % (O.size + 1) = j := ⟨_, rfl⟩
    have hjo : j ≤ O.size := by have := Nat.mod_lt B (show 0 < O.size + 1 by omega); omega
    have hjr : (B : Int) % ((O.size : Int) + 1) = (j : Int) := by rw [← hj]; simp
    have nz2 : ¬ ((O.size : Int) + 1 = 0) := by omega
    obtain ⟨Y, hY⟩ : ∃ Y, O.extract 0 j = Y := ⟨_, rfl⟩
    have hYs : Y.size ≤ 5000 := by rw [← hY, ByteArray.size_extract]; omega
    obtain ⟨Xc, hXc⟩ : ∃ Xc : ByteArray, (⟨#[67, 83, 1]⟩ : ByteArray) ++ X = Xc := ⟨_, rfl⟩
    obtain ⟨P, hP⟩ : ∃ P : ByteArray, Y ++ X = P := ⟨_, rfl⟩
    obtain ⟨R, hR⟩ : ∃ R : ByteArray, O ++ X = R := ⟨_, rfl⟩
    obtain ⟨Z, hZ⟩ : ∃ Z : ByteArray, (⟨l'.toArray⟩ : ByteArray) = Z := ⟨_, rfl⟩
    have hZs : Z.size ≤ 5000 := by rw [← hZ]; show l'.toArray.size ≤ _; rw [List.size_toArray]; omega
    have hXcs : Xc.size ≤ 6000 := by rw [← hXc, ba_size_append]; show 3 + X.size ≤ _; omega
    have hPs : P.size ≤ 6000 := by rw [← hP, ba_size_append]; omega
    have hRs : R.size ≤ 6000 := by rw [← hR, ba_size_append]; omega
    have hcv := rowOf_str (c := cc) hrow
    rw [hl', hZ] at hcv
    have c1 : Y.size + X.size ≤ 9223372036854775807 := by omega
    have c2 : O.size + X.size ≤ 9223372036854775807 := by omega
    obtain ⟨-, -, y2, -⟩ := HC.out W6 hbel
    have HBE := Lib.hid hbel
    have HSS := Lib.hid (And.intro hXm (And.intro hXcs (And.intro hZs (And.intro hYs (And.intro hPs (And.intro hRs hOz))))))
    clear hl' hrow hbel hj hZ hZs hXcs hPs hRs H6
    go_upto_region 9 with fail
    clear hjo hjr nz2 hY hYs hXc hP hR hcv c1 c2 y2 hXm
    have t0 := six_0
    have t1 := six_1
    have t2 := six_2
    have t3 := six_3
    have t4 := six_4
    have t5 := six_5
    go_loopw [74] (fun s74 W => ∃ k : Nat, k ≤ 6 ∧ s74 = .int .i64 k ∧ Hid (Below w0.heap.size w0 W)) (fun s74 _ => 6 - (intOf s74).toNat)
    case atStart => exact ⟨0, by omega, rfl, HBE⟩
    case round =>
      obtain ⟨k, hk, rfl, HK⟩ := hrel
      rcases (show k = 0 ∨ k = 1 ∨ k = 2 ∨ k = 3 ∨ k = 4 ∨ k = 5 ∨ k = 6 by omega) with rfl | rfl | rfl | rfl | rfl | rfl | rfl
      · rw [show ((0 : Nat) : Int) = 0 from rfl]
        have QS := Lib.hid (SL.out wr X (by have := HSS.out; omega))
        have HSE := Lib.hid (show (sealed X).size ≤ 90000 by rw [sealed_size]; have := HSS.out; omega)
        obtain ⟨T, hT⟩ : ∃ T, sealed X = T := ⟨_, rfl⟩
        rw [hT] at QS HSE
        clear hT
        go_wp2_with (first
          | (go_at_call 17
             (with_reducible refine QS.out.mono ?_)
             go_loud (
             rintro e' v1 ⟨rfl, hb1⟩
             have HV1 := Lib.hid (HK.out.trans (hb1.mono HK.out.size))
             clear hb1))
          | (go_at_call 16
             (with_reducible refine (RD.out _ (HB0.out.trans (HV1.out.mono HB0.out.size)) T HSE.out).mono ?_)
             go_loud (
             rintro e' v2 ⟨rfl, hb2⟩
             have HV2 := Lib.hid (HV1.out.trans (hb2.mono HV1.out.size))
             clear hb2)))
        exact ⟨⟨1, by omega, by first | rfl | go_num, HV2⟩, by simp [intOf]⟩
      · rw [show ((1 : Nat) : Int) = 1 from rfl]
        have QS := Lib.hid (SL.out wr Xc (by have := HSS.out; omega))
        have HSE := Lib.hid (show (sealed Xc).size ≤ 90000 by rw [sealed_size]; have := HSS.out; omega)
        obtain ⟨T, hT⟩ : ∃ T, sealed Xc = T := ⟨_, rfl⟩
        rw [hT] at QS HSE
        clear hT
        go_wp2_with (first
          | (go_at_call 17
             (with_reducible refine QS.out.mono ?_)
             go_loud (
             rintro e' v1 ⟨rfl, hb1⟩
             have HV1 := Lib.hid (HK.out.trans (hb1.mono HK.out.size))
             clear hb1))
          | (go_at_call 16
             (with_reducible refine (RD.out _ (HB0.out.trans (HV1.out.mono HB0.out.size)) T HSE.out).mono ?_)
             go_loud (
             rintro e' v2 ⟨rfl, hb2⟩
             have HV2 := Lib.hid (HV1.out.trans (hb2.mono HV1.out.size))
             clear hb2)))
        exact ⟨⟨2, by omega, by first | rfl | go_num, HV2⟩, by simp [intOf]⟩
      · rw [show ((2 : Nat) : Int) = 2 from rfl]
        have QS := Lib.hid (SL.out wr Z (by have := HSS.out; omega))
        have HSE := Lib.hid (show (sealed Z).size ≤ 90000 by rw [sealed_size]; have := HSS.out; omega)
        obtain ⟨T, hT⟩ : ∃ T, sealed Z = T := ⟨_, rfl⟩
        rw [hT] at QS HSE
        clear hT
        go_wp2_with (first
          | (go_at_call 17
             (with_reducible refine QS.out.mono ?_)
             go_loud (
             rintro e' v1 ⟨rfl, hb1⟩
             have HV1 := Lib.hid (HK.out.trans (hb1.mono HK.out.size))
             clear hb1))
          | (go_at_call 16
             (with_reducible refine (RD.out _ (HB0.out.trans (HV1.out.mono HB0.out.size)) T HSE.out).mono ?_)
             go_loud (
             rintro e' v2 ⟨rfl, hb2⟩
             have HV2 := Lib.hid (HV1.out.trans (hb2.mono HV1.out.size))
             clear hb2)))
        exact ⟨⟨3, by omega, by first | rfl | go_num, HV2⟩, by simp [intOf]⟩
      · rw [show ((3 : Nat) : Int) = 3 from rfl]
        have QS := Lib.hid (SL.out wr Y (by have := HSS.out; omega))
        have HSE := Lib.hid (show (sealed Y).size ≤ 90000 by rw [sealed_size]; have := HSS.out; omega)
        obtain ⟨T, hT⟩ : ∃ T, sealed Y = T := ⟨_, rfl⟩
        rw [hT] at QS HSE
        clear hT
        go_wp2_with (first
          | (go_at_call 17
             (with_reducible refine QS.out.mono ?_)
             go_loud (
             rintro e' v1 ⟨rfl, hb1⟩
             have HV1 := Lib.hid (HK.out.trans (hb1.mono HK.out.size))
             clear hb1))
          | (go_at_call 16
             (with_reducible refine (RD.out _ (HB0.out.trans (HV1.out.mono HB0.out.size)) T HSE.out).mono ?_)
             go_loud (
             rintro e' v2 ⟨rfl, hb2⟩
             have HV2 := Lib.hid (HV1.out.trans (hb2.mono HV1.out.size))
             clear hb2)))
        exact ⟨⟨4, by omega, by first | rfl | go_num, HV2⟩, by simp [intOf]⟩
      · rw [show ((4 : Nat) : Int) = 4 from rfl]
        have QS := Lib.hid (SL.out wr P (by have := HSS.out; omega))
        have HSE := Lib.hid (show (sealed P).size ≤ 90000 by rw [sealed_size]; have := HSS.out; omega)
        obtain ⟨T, hT⟩ : ∃ T, sealed P = T := ⟨_, rfl⟩
        rw [hT] at QS HSE
        clear hT
        go_wp2_with (first
          | (go_at_call 17
             (with_reducible refine QS.out.mono ?_)
             go_loud (
             rintro e' v1 ⟨rfl, hb1⟩
             have HV1 := Lib.hid (HK.out.trans (hb1.mono HK.out.size))
             clear hb1))
          | (go_at_call 16
             (with_reducible refine (RD.out _ (HB0.out.trans (HV1.out.mono HB0.out.size)) T HSE.out).mono ?_)
             go_loud (
             rintro e' v2 ⟨rfl, hb2⟩
             have HV2 := Lib.hid (HV1.out.trans (hb2.mono HV1.out.size))
             clear hb2)))
        exact ⟨⟨5, by omega, by first | rfl | go_num, HV2⟩, by simp [intOf]⟩
      · rw [show ((5 : Nat) : Int) = 5 from rfl]
        have QS := Lib.hid (SL.out wr R (by have := HSS.out; omega))
        have HSE := Lib.hid (show (sealed R).size ≤ 90000 by rw [sealed_size]; have := HSS.out; omega)
        obtain ⟨T, hT⟩ : ∃ T, sealed R = T := ⟨_, rfl⟩
        rw [hT] at QS HSE
        clear hT
        go_wp2_with (first
          | (go_at_call 17
             (with_reducible refine QS.out.mono ?_)
             go_loud (
             rintro e' v1 ⟨rfl, hb1⟩
             have HV1 := Lib.hid (HK.out.trans (hb1.mono HK.out.size))
             clear hb1))
          | (go_at_call 16
             (with_reducible refine (RD.out _ (HB0.out.trans (HV1.out.mono HB0.out.size)) T HSE.out).mono ?_)
             go_loud (
             rintro e' v2 ⟨rfl, hb2⟩
             have HV2 := Lib.hid (HV1.out.trans (hb2.mono HV1.out.size))
             clear hb2)))
        exact ⟨⟨6, by omega, by first | rfl | go_num, HV2⟩, by simp [intOf]⟩
      · rw [show ((6 : Nat) : Int) = 6 from rfl]
        have HW1 := Lib.hid (HB0.out.trans (HK.out.mono HB0.out.size))
        go_wp2_with (first
          | (go_at_call 16
             (with_reducible refine (RD.out _ HW1.out X (by have := HSS.out; omega)).mono ?_)
             go_loud (
             rintro e' v1 ⟨rfl, hb1⟩
             have HW2 := Lib.hid (HW1.out.trans (hb1.mono HW1.out.size))
             clear hb1))
          | (go_at_call 16
             (with_reducible refine (RD.out _ HW2.out S (by have := HSZ.out; omega)).mono ?_)
             go_loud (
             rintro e' v2 ⟨rfl, hb2⟩
             have HW3 := Lib.hid (HW2.out.trans (hb2.mono HW2.out.size))
             clear hb2))
          | (go_at_call 16
             (with_reducible refine (RD.out _ HW3.out O (by have := HSS.out; omega)).mono ?_)
             go_loud (
             rintro e' v3 ⟨rfl, hb3⟩
             have HW4 := Lib.hid (HW3.out.trans (hb3.mono HW3.out.size))
             clear hb3))
          | (go_at_call 14
             (with_reducible refine (WK.out _ HW4.out).mono ?_)
             go_loud (
             rintro e' v4 ⟨rfl, hb4⟩
             have HW5 := Lib.hid (HW4.out.trans (hb4.mono HW4.out.size))
             clear hb4)))
        go_ret
        exact ⟨rfl, HW5.out⟩
  · have dz : decide ((0 : Int) < (O.size : Int)) = true := by simp; omega
    have dz2 : decide (0 < O.size) = true := by simp; omega
    have nz : ¬ ((O.size : Int) = 0) := by omega
    obtain ⟨i, hi⟩ : ∃ i, A % O.size = i := ⟨_, rfl⟩
    have hiz : i < O.size := by rw [← hi]; exact Nat.mod_lt _ hz0
    have hir : (A : Int) % (O.size : Int) = (i : Int) := by rw [← hi]; simp
    have ix : (i : Int) < (O.size : Int) := by omega
    have hil : i < O.data.toList.length := by rw [ba_length]; exact hiz
    have hcell := H5.out.1.1 i hil
    have hfr := H5.out.1.2 i hil
    obtain ⟨x, hx⟩ : ∃ x : Nat, ((O.data.toList).getD i 0).toNat = x := ⟨_, rfl⟩
    have hx256 : x < 256 := by rw [← hx]; exact UInt8.toNat_lt _
    rw [hx] at hcell
    obtain ⟨-, y1, -, y3⟩ := HC.out w5 H5.out.2.1
    have wA : IntKind.i64.wrap (A : Int) = (A : Int) := IntWalk.i64_in _ (by omega)
    have HI := Lib.hid (And.intro hil hx256)
    clear hi hx hz0 hil hx256
    go_upto_region 6 with fail
    go_region
    obtain ⟨W6, hW6⟩ : ∃ W6, W6 = (w5.setCell ⟨b, i, none⟩ (.int .u8 (bits .xor .u8 (x : Int) (C : Int)))).drew := ⟨_, rfl⟩
    have H6 : Hid (∃ l', l'.length = O.size ∧ RowOf W6 b l' ∧ Below w0.heap.size w0 W6) := Lib.hid (by
      rw [hW6]
      rw [u8_xor_nat _ _ HI.out.2 hC]
      have hxx : x ^^^ C < 256 := Plain.xor_lt8 HI.out.2 hC
      have := rowOf_set H5.out.1 i HI.out.1 (UInt8.ofNat (x ^^^ C))
      rw [Plain.u8_of hxx] at this
      exact ⟨_, by rw [List.length_set, ba_length], this, (H5.out.2.1.setCell H5.out.2.2 _).drew⟩)
    rw [← hW6]
    clear hW6 dz dz2 nz hiz hir ix hcell hfr y1 y3 wA
    go_upto_region 7 with fail
    obtain ⟨l', hl', hrow, hbel⟩ := H6.out
    obtain ⟨j, hj⟩ : ∃ j, B % (O.size + 1) = j := ⟨_, rfl⟩
    have hjo : j ≤ O.size := by have := Nat.mod_lt B (show 0 < O.size + 1 by omega); omega
    have hjr : (B : Int) % ((O.size : Int) + 1) = (j : Int) := by rw [← hj]; simp
    have nz2 : ¬ ((O.size : Int) + 1 = 0) := by omega
    obtain ⟨Y, hY⟩ : ∃ Y, O.extract 0 j = Y := ⟨_, rfl⟩
    have hYs : Y.size ≤ 5000 := by rw [← hY, ByteArray.size_extract]; omega
    obtain ⟨Xc, hXc⟩ : ∃ Xc : ByteArray, (⟨#[67, 83, 1]⟩ : ByteArray) ++ X = Xc := ⟨_, rfl⟩
    obtain ⟨P, hP⟩ : ∃ P : ByteArray, Y ++ X = P := ⟨_, rfl⟩
    obtain ⟨R, hR⟩ : ∃ R : ByteArray, O ++ X = R := ⟨_, rfl⟩
    obtain ⟨Z, hZ⟩ : ∃ Z : ByteArray, (⟨l'.toArray⟩ : ByteArray) = Z := ⟨_, rfl⟩
    have hZs : Z.size ≤ 5000 := by rw [← hZ]; show l'.toArray.size ≤ _; rw [List.size_toArray]; omega
    have hXcs : Xc.size ≤ 6000 := by rw [← hXc, ba_size_append]; show 3 + X.size ≤ _; omega
    have hPs : P.size ≤ 6000 := by rw [← hP, ba_size_append]; omega
    have hRs : R.size ≤ 6000 := by rw [← hR, ba_size_append]; omega
    have hcv := rowOf_str (c := cc) hrow
    rw [hl', hZ] at hcv
    have c1 : Y.size + X.size ≤ 9223372036854775807 := by omega
    have c2 : O.size + X.size ≤ 9223372036854775807 := by omega
    obtain ⟨-, -, y2, -⟩ := HC.out W6 hbel
    have HBE := Lib.hid hbel
    have HSS := Lib.hid (And.intro hXm (And.intro hXcs (And.intro hZs (And.intro hYs (And.intro hPs (And.intro hRs hOz))))))
    clear hl' hrow hbel hj hZ hZs hXcs hPs hRs H6
    go_upto_region 9 with fail
    clear hjo hjr nz2 hY hYs hXc hP hR hcv c1 c2 y2 hXm
    have t0 := six_0
    have t1 := six_1
    have t2 := six_2
    have t3 := six_3
    have t4 := six_4
    have t5 := six_5
    go_loopw [74] (fun s74 W => ∃ k : Nat, k ≤ 6 ∧ s74 = .int .i64 k ∧ Hid (Below w0.heap.size w0 W)) (fun s74 _ => 6 - (intOf s74).toNat)
    case atStart => exact ⟨0, by omega, rfl, HBE⟩
    case round =>
      obtain ⟨k, hk, rfl, HK⟩ := hrel
      rcases (show k = 0 ∨ k = 1 ∨ k = 2 ∨ k = 3 ∨ k = 4 ∨ k = 5 ∨ k = 6 by omega) with rfl | rfl | rfl | rfl | rfl | rfl | rfl
      · rw [show ((0 : Nat) : Int) = 0 from rfl]
        have QS := Lib.hid (SL.out wr X (by have := HSS.out; omega))
        have HSE := Lib.hid (show (sealed X).size ≤ 90000 by rw [sealed_size]; have := HSS.out; omega)
        obtain ⟨T, hT⟩ : ∃ T, sealed X = T := ⟨_, rfl⟩
        rw [hT] at QS HSE
        clear hT
        go_wp2_with (first
          | (go_at_call 17
             (with_reducible refine QS.out.mono ?_)
             go_loud (
             rintro e' v1 ⟨rfl, hb1⟩
             have HV1 := Lib.hid (HK.out.trans (hb1.mono HK.out.size))
             clear hb1))
          | (go_at_call 16
             (with_reducible refine (RD.out _ (HB0.out.trans (HV1.out.mono HB0.out.size)) T HSE.out).mono ?_)
             go_loud (
             rintro e' v2 ⟨rfl, hb2⟩
             have HV2 := Lib.hid (HV1.out.trans (hb2.mono HV1.out.size))
             clear hb2)))
        exact ⟨⟨1, by omega, by first | rfl | go_num, HV2⟩, by simp [intOf]⟩
      · rw [show ((1 : Nat) : Int) = 1 from rfl]
        have QS := Lib.hid (SL.out wr Xc (by have := HSS.out; omega))
        have HSE := Lib.hid (show (sealed Xc).size ≤ 90000 by rw [sealed_size]; have := HSS.out; omega)
        obtain ⟨T, hT⟩ : ∃ T, sealed Xc = T := ⟨_, rfl⟩
        rw [hT] at QS HSE
        clear hT
        go_wp2_with (first
          | (go_at_call 17
             (with_reducible refine QS.out.mono ?_)
             go_loud (
             rintro e' v1 ⟨rfl, hb1⟩
             have HV1 := Lib.hid (HK.out.trans (hb1.mono HK.out.size))
             clear hb1))
          | (go_at_call 16
             (with_reducible refine (RD.out _ (HB0.out.trans (HV1.out.mono HB0.out.size)) T HSE.out).mono ?_)
             go_loud (
             rintro e' v2 ⟨rfl, hb2⟩
             have HV2 := Lib.hid (HV1.out.trans (hb2.mono HV1.out.size))
             clear hb2)))
        exact ⟨⟨2, by omega, by first | rfl | go_num, HV2⟩, by simp [intOf]⟩
      · rw [show ((2 : Nat) : Int) = 2 from rfl]
        have QS := Lib.hid (SL.out wr Z (by have := HSS.out; omega))
        have HSE := Lib.hid (show (sealed Z).size ≤ 90000 by rw [sealed_size]; have := HSS.out; omega)
        obtain ⟨T, hT⟩ : ∃ T, sealed Z = T := ⟨_, rfl⟩
        rw [hT] at QS HSE
        clear hT
        go_wp2_with (first
          | (go_at_call 17
             (with_reducible refine QS.out.mono ?_)
             go_loud (
             rintro e' v1 ⟨rfl, hb1⟩
             have HV1 := Lib.hid (HK.out.trans (hb1.mono HK.out.size))
             clear hb1))
          | (go_at_call 16
             (with_reducible refine (RD.out _ (HB0.out.trans (HV1.out.mono HB0.out.size)) T HSE.out).mono ?_)
             go_loud (
             rintro e' v2 ⟨rfl, hb2⟩
             have HV2 := Lib.hid (HV1.out.trans (hb2.mono HV1.out.size))
             clear hb2)))
        exact ⟨⟨3, by omega, by first | rfl | go_num, HV2⟩, by simp [intOf]⟩
      · rw [show ((3 : Nat) : Int) = 3 from rfl]
        have QS := Lib.hid (SL.out wr Y (by have := HSS.out; omega))
        have HSE := Lib.hid (show (sealed Y).size ≤ 90000 by rw [sealed_size]; have := HSS.out; omega)
        obtain ⟨T, hT⟩ : ∃ T, sealed Y = T := ⟨_, rfl⟩
        rw [hT] at QS HSE
        clear hT
        go_wp2_with (first
          | (go_at_call 17
             (with_reducible refine QS.out.mono ?_)
             go_loud (
             rintro e' v1 ⟨rfl, hb1⟩
             have HV1 := Lib.hid (HK.out.trans (hb1.mono HK.out.size))
             clear hb1))
          | (go_at_call 16
             (with_reducible refine (RD.out _ (HB0.out.trans (HV1.out.mono HB0.out.size)) T HSE.out).mono ?_)
             go_loud (
             rintro e' v2 ⟨rfl, hb2⟩
             have HV2 := Lib.hid (HV1.out.trans (hb2.mono HV1.out.size))
             clear hb2)))
        exact ⟨⟨4, by omega, by first | rfl | go_num, HV2⟩, by simp [intOf]⟩
      · rw [show ((4 : Nat) : Int) = 4 from rfl]
        have QS := Lib.hid (SL.out wr P (by have := HSS.out; omega))
        have HSE := Lib.hid (show (sealed P).size ≤ 90000 by rw [sealed_size]; have := HSS.out; omega)
        obtain ⟨T, hT⟩ : ∃ T, sealed P = T := ⟨_, rfl⟩
        rw [hT] at QS HSE
        clear hT
        go_wp2_with (first
          | (go_at_call 17
             (with_reducible refine QS.out.mono ?_)
             go_loud (
             rintro e' v1 ⟨rfl, hb1⟩
             have HV1 := Lib.hid (HK.out.trans (hb1.mono HK.out.size))
             clear hb1))
          | (go_at_call 16
             (with_reducible refine (RD.out _ (HB0.out.trans (HV1.out.mono HB0.out.size)) T HSE.out).mono ?_)
             go_loud (
             rintro e' v2 ⟨rfl, hb2⟩
             have HV2 := Lib.hid (HV1.out.trans (hb2.mono HV1.out.size))
             clear hb2)))
        exact ⟨⟨5, by omega, by first | rfl | go_num, HV2⟩, by simp [intOf]⟩
      · rw [show ((5 : Nat) : Int) = 5 from rfl]
        have QS := Lib.hid (SL.out wr R (by have := HSS.out; omega))
        have HSE := Lib.hid (show (sealed R).size ≤ 90000 by rw [sealed_size]; have := HSS.out; omega)
        obtain ⟨T, hT⟩ : ∃ T, sealed R = T := ⟨_, rfl⟩
        rw [hT] at QS HSE
        clear hT
        go_wp2_with (first
          | (go_at_call 17
             (with_reducible refine QS.out.mono ?_)
             go_loud (
             rintro e' v1 ⟨rfl, hb1⟩
             have HV1 := Lib.hid (HK.out.trans (hb1.mono HK.out.size))
             clear hb1))
          | (go_at_call 16
             (with_reducible refine (RD.out _ (HB0.out.trans (HV1.out.mono HB0.out.size)) T HSE.out).mono ?_)
             go_loud (
             rintro e' v2 ⟨rfl, hb2⟩
             have HV2 := Lib.hid (HV1.out.trans (hb2.mono HV1.out.size))
             clear hb2)))
        exact ⟨⟨6, by omega, by first | rfl | go_num, HV2⟩, by simp [intOf]⟩
      · rw [show ((6 : Nat) : Int) = 6 from rfl]
        have HW1 := Lib.hid (HB0.out.trans (HK.out.mono HB0.out.size))
        go_wp2_with (first
          | (go_at_call 16
             (with_reducible refine (RD.out _ HW1.out X (by have := HSS.out; omega)).mono ?_)
             go_loud (
             rintro e' v1 ⟨rfl, hb1⟩
             have HW2 := Lib.hid (HW1.out.trans (hb1.mono HW1.out.size))
             clear hb1))
          | (go_at_call 16
             (with_reducible refine (RD.out _ HW2.out S (by have := HSZ.out; omega)).mono ?_)
             go_loud (
             rintro e' v2 ⟨rfl, hb2⟩
             have HW3 := Lib.hid (HW2.out.trans (hb2.mono HW2.out.size))
             clear hb2))
          | (go_at_call 16
             (with_reducible refine (RD.out _ HW3.out O (by have := HSS.out; omega)).mono ?_)
             go_loud (
             rintro e' v3 ⟨rfl, hb3⟩
             have HW4 := Lib.hid (HW3.out.trans (hb3.mono HW3.out.size))
             clear hb3))
          | (go_at_call 14
             (with_reducible refine (WK.out _ HW4.out).mono ?_)
             go_loud (
             rintro e' v4 ⟨rfl, hb4⟩
             have HW5 := Lib.hid (HW4.out.trans (hb4.mono HW4.out.size))
             clear hb4)))
        go_ret
        exact ⟨rfl, HW5.out⟩
end Go.Proofs.YtjiilmiikejnhaaDoor

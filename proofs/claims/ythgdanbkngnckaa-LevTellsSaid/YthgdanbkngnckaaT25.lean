/-
  LevDist's walk.
-/
import Derived.Test.YthgdanbkngnckaaT24
import Derived.Test.YthgdanbkngnckaaT11
set_option linter.unusedVariables false
set_option linter.unusedSimpArgs false
namespace Go.Proofs.Ythgdanbkngnckaa
open Go.RowKit Go.Shelf Said

theorem row_is (q t : List UInt8) (k : Nat) : IsL q k (capL k (rowT q t)) := ⟨by rw [capL_length, rowT_length], capL_le _ _⟩
theorem cap_with (k L : Nat) : Value.tuple #[.int .i64 ((if cap k L ≤ k then cap k L else 0 : Nat) : Int), .bool (decide (cap k L ≤ k))] = withV k L := by
  unfold withV cap
  by_cases h : L ≤ k
  · rw [Nat.min_eq_left (by omega)]
  · rw [Nat.min_eq_right (by omega), if_neg (by omega), if_neg h, decide_eq_false (by omega), decide_eq_false h]
theorem within_with (a b : List UInt8) (k : Nat) : within a b (k : Int) = withV k (lev a b) := by
  unfold within withV
  by_cases h : lev a b ≤ k
  · rw [if_pos (by omega), if_pos h, decide_eq_true (by omega), decide_eq_true h]
  · rw [if_neg (by omega), if_neg h, decide_eq_false (by omega), decide_eq_false h]
    rfl

set_option maxHeartbeats 4000000 in
set_option maxRecDepth 100000 in
theorem levDist_walk (Q Wt : ByteArray) (K : Int) (w : World) (hK : -128 ≤ K ∧ K ≤ 127) :
    Calls Try.prog 4 #[askA Q Wt K] w fun e w' => e = .returned (.bool true) ∧ Below w.heap.size w w' := by
  obtain ⟨k, hk, hbd⟩ := bound_any K hK
  have QBd := Lib.hid hbd
  have QF : Hid (∀ (s : ByteArray) W, Calls Try.prog 9 #[.string s, .int .i64 80] W fun e w' => e = .returned (.string (fewT s 80)) ∧ Below W.heap.size W w') := Lib.hid fun s W => (few_any s 80 (by omega) W).mono fun e w' h => ⟨h.1, h.2 ▸ Below.refl _ _⟩
  have HK := Lib.hid hk
  clear hbd hK hk
  unfold askA
  have HB0 := Lib.hid (below_alloc w (.cells #[.string Q, .string Wt, .int .i8 K] 24))
  have HC0 : Hid ((w.alloc (.cells #[.string Q, .string Wt, .int .i8 K] 24)).cell? ⟨w.heap.size, 0, none⟩ = some (.string Q) ∧ (w.alloc (.cells #[.string Q, .string Wt, .int .i8 K] 24)).cell? ⟨w.heap.size, 1, none⟩ = some (.string Wt) ∧ (w.alloc (.cells #[.string Q, .string Wt, .int .i8 K] 24)).cell? ⟨w.heap.size, 2, none⟩ = some (.int .i8 K)) := Lib.hid ⟨by simp [go_sem], by simp [go_sem], by simp [go_sem]⟩
  go_enter Try.func4, Try.ntmps4
  obtain ⟨W0, hW0⟩ : ∃ W0, W0 = w.alloc (.cells #[.string Q, .string Wt, .int .i8 K] 24) := ⟨_, rfl⟩
  rw [← hW0] at HB0 HC0
  have QW := Lib.hid (works_any W0)
  go_upto_region 3 with (rw [← hW0]; go_at_call 20; (with_reducible refine QW.out.mono ?_); rintro e w1 ⟨rfl, hB⟩; have H1 := Lib.hid hB; clear hB)
  obtain ⟨q, hq⟩ : ∃ q, fewT Q 80 = q := ⟨_, rfl⟩
  obtain ⟨t, ht⟩ : ∃ t, fewT Wt 80 = t := ⟨_, rfl⟩
  have HQ : Hid (q.size ≤ 80) := Lib.hid (by rw [← hq, fewT_size]; omega)
  have HT : Hid (t.size ≤ 80) := Lib.hid (by rw [← ht, fewT_size]; omega)
  have HX : Hid (∀ W, Below w1.heap.size w1 W → W.cell? ⟨w.heap.size, 0, none⟩ = some (.string Q) ∧ W.cell? ⟨w.heap.size, 1, none⟩ = some (.string Wt) ∧ W.cell? ⟨w.heap.size, 2, none⟩ = some (.int .i8 K)) := Lib.hid fun W hb => by
    have hB := Below.next H1.out hb
    exact ⟨by rw [hB.cell (block_lt_of_cell HC0.out.1)]; exact HC0.out.1, by rw [hB.cell (block_lt_of_cell HC0.out.2.1)]; exact HC0.out.2.1, by rw [hB.cell (block_lt_of_cell HC0.out.2.2)]; exact HC0.out.2.2⟩
  refine Said.region (by kernel_rfl) (by kernel_rfl) (by kernel_rfl) [.is (.pointer (some ⟨w.heap.size, 0, none⟩)), .is (.string Q), .is (.string q), .is (.pointer (some ⟨w.heap.size, 1, none⟩)), .is (.string Wt), .is (.string t), .is (.agg #[.string Q, .string Wt, .int .i8 K]), .is (.int .i64 (k : Int)), .is (.string q), .is (.string t), .is (.int .i64 (k : Int))] ?_
  simp only [List.toList_toArray]
  iterate 2 (
    refine sq_pure (by rfl) (fun W hb _ => ?_) ?_
    · obtain ⟨y1, y2, y3⟩ := HX.out W hb
      go_simp
    simp only [Act.put, List.setIfInBounds_toArray, List.set_cons_zero, List.set_cons_succ])
  refine sq_call (f := 9) (args := #[.string Q, .int .i64 80]) (by rfl) (fun W => by go_simp) (fun W hb _ => by rw [← hq]; exact QF.out Q W) ?_
  simp only [Act.put, List.setIfInBounds_toArray, List.set_cons_zero, List.set_cons_succ]
  iterate 2 (
    refine sq_pure (by rfl) (fun W hb _ => ?_) ?_
    · obtain ⟨y1, y2, y3⟩ := HX.out W hb
      go_simp
    simp only [Act.put, List.setIfInBounds_toArray, List.set_cons_zero, List.set_cons_succ])
  refine sq_call (f := 9) (args := #[.string Wt, .int .i64 80]) (by rfl) (fun W => by go_simp) (fun W hb _ => by rw [← ht]; exact QF.out Wt W) ?_
  simp only [Act.put, List.setIfInBounds_toArray, List.set_cons_zero, List.set_cons_succ]
  refine sq_pure (by rfl) (fun W hb _ => ?_) ?_
  · obtain ⟨y1, y2, y3⟩ := HX.out W hb
    go_simp
  simp only [Act.put, List.setIfInBounds_toArray, List.set_cons_zero, List.set_cons_succ]
  refine sq_call (f := 12) (args := #[.agg #[.string Q, .string Wt, .int .i8 K]]) (by rfl) (fun W => by go_simp) (fun W hb _ => QBd.out Q Wt W) ?_
  simp only [Act.put, List.setIfInBounds_toArray, List.set_cons_zero, List.set_cons_succ]
  iterate 3 (
    refine sq_pure (by rfl) (fun W hb _ => ?_) ?_
    · go_simp
    simp only [Act.put, List.setIfInBounds_toArray, List.set_cons_zero, List.set_cons_succ])
  refine sq_end (fun w2 hb2 hK2 => ?_)
  have H2 := Lib.hid (Below.next HB0.out (Below.next H1.out hb2))
  clear hK2 hb2 hq ht HX QBd QF HB0 HC0 H1 QW hW0
  have QN := Lib.hid (new_any q k w2 (by have := HQ.out; omega) HK.out)
  have QN2 : Hid (∀ W, Calls Try.prog 10 #[.string t, .int .i64 (k : Int)] W fun e w' => e = .returned (.pointer (some ⟨W.heap.size, 0, none⟩)) ∧ AutoAt w' W.heap.size t k ∧ Below W.heap.size W w' ∧ W.heap.size < w'.heap.size) := Lib.hid fun W => new_any t k W (by have := HT.out; omega) HK.out
  go_upto_region 7 with (first
    | (go_at_call 10; (with_reducible refine QN.out.mono ?_); rintro e w3 ⟨rfl, hA, hB, hz⟩; have HA0 := Lib.hid hA; have H3 := Lib.hid (Below.next H2.out hB); clear hA hB hz QN)
    | (go_at_call 10; (with_reducible refine (QN2.out w3).mono ?_); rintro e w4 ⟨rfl, hA, hB, hz⟩; have HA := Lib.hid (And.intro (HA0.out.below hB) hA); have H4 := Lib.hid (Below.next H3.out hB); clear hA hB hz))
  obtain ⟨p, hp⟩ : ∃ p, p = w2.heap.size := ⟨_, rfl⟩
  obtain ⟨p2, hp2⟩ : ∃ p2, p2 = w3.heap.size := ⟨_, rfl⟩
  rw [← hp, ← hp2] at HA
  rw [← hp, ← hp2]
  clear hp hp2 QN2 HA0 H3 H2
  have HQ3 : Hid (q.size ≤ 300) := Lib.hid (by have := HQ.out; omega)
  have HT3 : Hid (t.size ≤ 300) := Lib.hid (by have := HT.out; omega)
  have QS : Hid (∀ W, Below w4.heap.size w4 W → Calls Try.prog 13 #[.pointer (some ⟨p, 0, none⟩)] W fun e w' => e = .returned (.string (bin (startL q.data.toList k))) ∧ Below w4.heap.size w4 w') := Lib.hid fun W hb => (start_st HA.out.1 hb HK.out (by have := HQ.out; omega)).mono fun e w' h => ⟨h.1, Below.next hb h.2⟩
  have QS2 : Hid (∀ W, Below w4.heap.size w4 W → Calls Try.prog 13 #[.pointer (some ⟨p2, 0, none⟩)] W fun e w' => e = .returned (.string (bin (startL t.data.toList k))) ∧ Below w4.heap.size w4 w') := Lib.hid fun W hb => (start_st HA.out.2 hb HK.out (by have := HT.out; omega)).mono fun e w' h => ⟨h.1, Below.next hb h.2⟩
  have QR2 : Hid (∀ W, Below w4.heap.size w4 W → Calls Try.prog 18 #[.pointer (some ⟨p2, 0, none⟩), .string (bin (startL t.data.toList k)), .slice (some ⟨W.heap.size, 0, none⟩) 1 1] (W.alloc (.cells #[.string q] 9)) fun e w' => e = .returned (.string (bin (capL k (rowT t.data.toList q.data.toList)))) ∧ Below w4.heap.size w4 w') := Lib.hid fun W hb => (read_one HA.out.2 hb HK.out HT3.out (startL_is _ _) (by have := HQ.out; omega)).mono fun e w' h => ⟨h.1.trans (by rw [readL_start]), Below.next hb h.2⟩
  have QD : Hid (∀ W i, Below w4.heap.size w4 W → Calls Try.prog 21 #[.pointer (some ⟨p, 0, none⟩), .string (bin (capL k (rowT q.data.toList (t.data.toList.take i))))] W fun e w' => e = .returned (withV k (lev q.data.toList (t.data.toList.take i))) ∧ Below w4.heap.size w4 w') := Lib.hid fun W i hb => (dist_st HA.out.1 hb HK.out HQ3.out (row_is _ _ _)).mono fun e w' h => ⟨h.1.trans (by rw [whole_row, cap_with]), Below.next hb h.2⟩
  have QD2 : Hid (∀ W, Below w4.heap.size w4 W → Calls Try.prog 21 #[.pointer (some ⟨p2, 0, none⟩), .string (bin (capL k (rowT t.data.toList q.data.toList)))] W fun e w' => e = .returned (withV k (lev q.data.toList t.data.toList)) ∧ Below w4.heap.size w4 w') := Lib.hid fun W hb => (dist_st HA.out.2 hb HK.out HT3.out (row_is _ _ _)).mono fun e w' h => ⟨h.1.trans (by rw [whole_row, cap_with, lev_comm]), Below.next hb h.2⟩
  have QWn : Hid (∀ W (u : ByteArray), Below w4.heap.size w4 W → u.size ≤ 1000 → Calls Try.prog 22 #[.string q, .string u, .int .i64 (k : Int)] W fun e w' => e = .returned (withV k (lev q.data.toList u.data.toList)) ∧ Below w4.heap.size w4 w') := Lib.hid fun W u hb hu => (within_any q u k W (by have := HQ3.out; omega) hu).mono fun e w' h => ⟨h.1.trans (by rw [within_with]), Below.next hb h.2⟩
  have QT : Hid (∀ W i (c : UInt8), Below w4.heap.size w4 W → Calls Try.prog 16 #[.pointer (some ⟨p, 0, none⟩), .string (bin (capL k (rowT q.data.toList (t.data.toList.take i)))), .int .u8 (c.toNat : Int)] W fun e w' => e = .returned (.string (bin (capL k (rowT q.data.toList (t.data.toList.take i ++ [c]))))) ∧ Below w4.heap.size w4 w') := Lib.hid fun W i c hb => (step_st c HA.out.1 hb HK.out HQ3.out (row_is _ _ _)).mono fun e w' h => ⟨h.1.trans (by rw [stepL_row]), Below.next hb h.2⟩
  have QC : Hid (∀ W i, Below w4.heap.size w4 W → lev q.data.toList (t.data.toList.take i) ≤ k → Calls Try.prog 23 #[.pointer (some ⟨p, 0, none⟩), .string (bin (capL k (rowT q.data.toList (t.data.toList.take i))))] W fun e w' => e = .returned (.bool true) ∧ Below w4.heap.size w4 w') := Lib.hid fun W i hb hl => (can_st HA.out.1 hb HK.out HQ3.out (row_is _ _ _)).mono fun e w' h => ⟨h.1.trans (by
    have h1 := min_whole (row_is q.data.toList (t.data.toList.take i) k)
    rw [whole_row] at h1
    rw [decide_eq_true (by unfold cap at h1; omega)]), Below.next hb h.2⟩
  have h0 : bin (startL q.data.toList k) = bin (capL k (rowT q.data.toList (t.data.toList.take 0))) := by rw [List.take_zero]; rfl
  rw [h0] at QS
  clear h0
  go_wp2_with (go_at_call 13; (with_reducible refine (QS.out _ (Below.refl _ _)).mono ?_); rintro e w5 ⟨rfl, hB⟩; have H5 := Lib.hid hB; clear hB)
  have hqz := HQ.out
  have htz := HT.out
  go_loopw [8, 9] (fun s8 s9 wr => ∃ i : Nat, i ≤ t.size + 1 ∧ s9 = .int .i64 (i : Int) ∧ s8 = .string (bin (capL k (rowT q.data.toList (t.data.toList.take i)))) ∧ Hid (Below w4.heap.size w4 wr)) (fun _ s9 _ => t.size + 1 - (intOf s9).toNat)
  case atStart => exact ⟨0, Nat.zero_le _, rfl, rfl, H5⟩
  case round =>
    obtain ⟨i, hi, rfl, rfl, HB⟩ := hrel
    by_cases hlt : i ≤ t.size
    · have e1 : decide ((i : Int) ≤ (t.size : Int)) = true := by simp; omega
      have e2 : decide (i ≤ t.size) = true := by simp; omega
      have e3 : (i : Int) ≤ (t.size : Int) := by omega
      have hSz : (bin (capL k (rowT q.data.toList (t.data.toList.take i)))).size = q.size + 1 := by rw [bin_size, (row_is _ _ _).1, ba_length]
      have hSn : ∀ (n : Nat) (h : n < (bin (capL k (rowT q.data.toList (t.data.toList.take i)))).size), ((bin (capL k (rowT q.data.toList (t.data.toList.take i))))[n]'h).toNat = (capL k (rowT q.data.toList (t.data.toList.take i))).getD n 0 := fun n h => by rw [← nums_at _ h, nums_of (row_is _ _ _) HK.out]
      have hnear : ∀ n, n < q.size → (capL k (rowT q.data.toList (t.data.toList.take i))).getD (n + 1) 0 ≤ (capL k (rowT q.data.toList (t.data.toList.take i))).getD n 0 + 1 ∧ (capL k (rowT q.data.toList (t.data.toList.take i))).getD n 0 ≤ (capL k (rowT q.data.toList (t.data.toList.take i))).getD (n + 1) 0 + 1 := fun n h => row_near (by rw [ba_length]; exact h)
      have hcapn := fun n => capL_le k (rowT q.data.toList (t.data.toList.take i)) n
      have hus : (t.extract 0 i).data.toList = t.data.toList.take i := by rw [ba_extract, List.drop_zero, Nat.sub_zero]
      have huz : (t.extract 0 i).size ≤ 1000 := by rw [← ba_length, hus, List.length_take, ba_length]; omega
      have W1 := Lib.hid fun W hb => QWn.out W (t.extract 0 i) hb huz
      rw [hus] at W1
      have D1 := Lib.hid fun W hb => QD.out W i hb
      have T1 := Lib.hid fun W c hb => QT.out W i c hb
      have C1 := Lib.hid fun W hb => QC.out W i hb
      obtain ⟨R, hR⟩ : ∃ R, capL k (rowT q.data.toList (t.data.toList.take i)) = R := ⟨_, rfl⟩
      have HRR := Lib.hid hR
      rw [hR] at hSz hSn hnear hcapn D1 T1 C1 ⊢
      obtain ⟨L, hL⟩ : ∃ L, lev q.data.toList (t.data.toList.take i) = L := ⟨_, rfl⟩
      rw [hL] at W1 D1 C1
      obtain ⟨S, hS⟩ : ∃ S, bin R = S := ⟨_, rfl⟩
      have HSS := Lib.hid hS
      rw [hS] at hSz hSn D1 T1 C1 ⊢
      have HSz := Lib.hid hSz
      have HSn := Lib.hid hSn
      have HNear := Lib.hid hnear
      have HCn := Lib.hid hcapn
      obtain ⟨U, hU⟩ : ∃ U : Int, ((if L ≤ k then L else 0 : Nat) : Int) = U := ⟨_, rfl⟩
      have g1 : ((S.size : Int) == (q.size : Int) + 1) = true := by simp; omega
      have g2 : ((S.size : Int) != (q.size : Int) + 1) = false := by simp; omega
      have g3 : (S.size == q.size + 1) = true := by simp; omega
      have g4 : (S.size != q.size + 1) = false := by simp; omega
      clear hus huz hR hL hS hSn hnear hcapn hSz
      -- both answers are one
      have hb : ∃ b : Bool, withV k L = .tuple #[.int .i64 U, .bool b] ∧ (b = true → L ≤ k) := ⟨decide (L ≤ k), by rw [← hU]; rfl, fun h => of_decide_eq_true h⟩
      obtain ⟨b, hb1, hb2⟩ := hb
      rw [hb1] at W1 D1
      clear hb1 hU
      obtain ⟨wz, hwz⟩ : ∃ wz, wz = wr := ⟨_, rfl⟩
      subst hwz
      cases b
      · clear hb2
        go_wp2_with (first
          | (go_at_call 21; (with_reducible refine (D1.out _ HB.out).mono ?_); rintro e w6 ⟨rfl, hB⟩; have H6 := Lib.hid hB; clear hB)
          | (go_at_call 22; (with_reducible refine (W1.out _ H6.out).mono ?_); rintro e w7 ⟨rfl, hB⟩; have H7 := Lib.hid hB; clear hB))
        go_loopw [14] (fun s14 wr => ∃ n : Nat, n ≤ q.size ∧ s14 = .int .i64 ((n : Int) + 1) ∧ Hid (Below w4.heap.size w4 wr)) (fun s14 _ => S.size - (intOf s14).toNat)
        case atStart => exact ⟨0, Nat.zero_le _, rfl, H7⟩
        case round =>
          obtain ⟨n, hn, rfl, HB2⟩ := hrel
          by_cases hnq : n < q.size
          · have f1 : decide ((n : Int) + 1 < (S.size : Int)) = true := by have := HSz.out; simp; omega
            have f2 : decide (n + 1 < S.size) = true := by have := HSz.out; simp; omega
            have il1 : (n : Int) + 1 < (S.size : Int) := by have := HSz.out; omega
            have il2 : (n : Int) < (S.size : Int) := by have := HSz.out; omega
            have sn1 := HSn.out (n + 1)
            have sn0 := HSn.out n
            have hne := HNear.out n hnq
            have hc1 := HCn.out (n + 1)
            have hc0 := HCn.out n
            have hk3 := HK.out
            obtain ⟨x, hx⟩ : ∃ x, R.getD (n + 1) 0 = x := ⟨_, rfl⟩
            obtain ⟨y, hy⟩ : ∃ y, R.getD n 0 = y := ⟨_, rfl⟩
            rw [hx] at sn1 hne hc1
            rw [hy] at sn0 hne hc0
            have x0 : IntKind.i64.wrap (x : Int) = (x : Int) := IntWalk.i64_in _ (by omega)
            have y0 : IntKind.i64.wrap (y : Int) = (y : Int) := IntWalk.i64_in _ (by omega)
            have x1 : IntKind.i64.wrap ((x : Int) + 1) = (x : Int) + 1 := IntWalk.i64_in _ (by omega)
            have y1 : IntKind.i64.wrap ((y : Int) + 1) = (y : Int) + 1 := IntWalk.i64_in _ (by omega)
            have k1 : IntKind.i64.wrap ((k : Int) + 1) = (k : Int) + 1 := IntWalk.i64_in _ (by omega)
            have n1 : IntKind.i64.wrap (n : Int) = (n : Int) := IntWalk.i64_in _ (by omega)
            have c1 : decide ((y : Int) + 1 < (x : Int)) = false := by simp; omega
            have c2 : decide (y + 1 < x) = false := by simp; omega
            have c3 : decide ((x : Int) + 1 < (y : Int)) = false := by simp; omega
            have c4 : decide (x + 1 < y) = false := by simp; omega
            have c5 : decide ((k : Int) + 1 < (x : Int)) = false := by simp; omega
            have c6 : decide (k + 1 < x) = false := by simp; omega
            clear hx hy hne hc1 hc0 hk3
            go_upto_region 18 with fail
            go_quiet (fail)
            have HB3 := Lib.hid (below_drewN HB2.out nq)
            go_wp2
            go_roundw
            case rel => exact ⟨n + 1, by omega, by go_num, HB3⟩
            case measure => have := HSz.out; simp [intOf]; omega
          · have f1 : decide ((n : Int) + 1 < (S.size : Int)) = false := by have := HSz.out; simp; omega
            have f2 : decide (n + 1 < S.size) = false := by have := HSz.out; simp; omega
            by_cases hit : i < t.size
            · have d1 : decide ((i : Int) < (t.size : Int)) = true := by simp; omega
              have d2 : decide (i < t.size) = true := by simp; omega
              have d3 : (i : Int) < (t.size : Int) := by omega
              have HIt := Lib.hid hit
              clear hit hnq
              go_wp2_with (go_at_call 16; (with_reducible refine (T1.out _ _ HB2.out).mono ?_); rintro e w9 ⟨rfl, hB⟩; have H9 := Lib.hid hB; clear hB)
              go_roundw
              case rel => exact ⟨i + 1, by omega, by go_num, by rw [take_snoc t i HIt.out], H9⟩
              case measure => simp [intOf]; omega
            · have d1 : decide ((i : Int) < (t.size : Int)) = false := by simp; omega
              have d2 : decide (i < t.size) = false := by simp; omega
              have hsame : S = bin (capL k (rowT q.data.toList (t.data.toList.take (i + 1)))) := by
                rw [List.take_of_length_le (by rw [ba_length]; omega), ← HSS.out, ← HRR.out, List.take_of_length_le (by rw [ba_length]; omega)]
              have HSame := Lib.hid hsame
              clear hit hnq hsame
              go_wp2
              go_roundw
              case rel => exact ⟨i + 1, by omega, by go_num, by rw [HSame.out], HB2⟩
              case measure => simp [intOf]; omega
      · have HU := Lib.hid (hb2 rfl)
        clear hb2
        go_wp2_with (first
          | (go_at_call 21; (with_reducible refine (D1.out _ HB.out).mono ?_); rintro e w6 ⟨rfl, hB⟩; have H6 := Lib.hid hB; clear hB)
          | (go_at_call 22; (with_reducible refine (W1.out _ H6.out).mono ?_); rintro e w7 ⟨rfl, hB⟩; have H7 := Lib.hid hB; clear hB)
          | (go_at_call 23; (with_reducible refine (C1.out _ H7.out HU.out).mono ?_); rintro e w8 ⟨rfl, hB⟩; have H8 := Lib.hid hB; clear hB))
        go_loopw [14] (fun s14 wr => ∃ n : Nat, n ≤ q.size ∧ s14 = .int .i64 ((n : Int) + 1) ∧ Hid (Below w4.heap.size w4 wr)) (fun s14 _ => S.size - (intOf s14).toNat)
        case atStart => exact ⟨0, Nat.zero_le _, rfl, H8⟩
        case round =>
          obtain ⟨n, hn, rfl, HB2⟩ := hrel
          by_cases hnq : n < q.size
          · have f1 : decide ((n : Int) + 1 < (S.size : Int)) = true := by have := HSz.out; simp; omega
            have f2 : decide (n + 1 < S.size) = true := by have := HSz.out; simp; omega
            have il1 : (n : Int) + 1 < (S.size : Int) := by have := HSz.out; omega
            have il2 : (n : Int) < (S.size : Int) := by have := HSz.out; omega
            have sn1 := HSn.out (n + 1)
            have sn0 := HSn.out n
            have hne := HNear.out n hnq
            have hc1 := HCn.out (n + 1)
            have hc0 := HCn.out n
            have hk3 := HK.out
            obtain ⟨x, hx⟩ : ∃ x, R.getD (n + 1) 0 = x := ⟨_, rfl⟩
            obtain ⟨y, hy⟩ : ∃ y, R.getD n 0 = y := ⟨_, rfl⟩
            rw [hx] at sn1 hne hc1
            rw [hy] at sn0 hne hc0
            have x0 : IntKind.i64.wrap (x : Int) = (x : Int) := IntWalk.i64_in _ (by omega)
            have y0 : IntKind.i64.wrap (y : Int) = (y : Int) := IntWalk.i64_in _ (by omega)
            have x1 : IntKind.i64.wrap ((x : Int) + 1) = (x : Int) + 1 := IntWalk.i64_in _ (by omega)
            have y1 : IntKind.i64.wrap ((y : Int) + 1) = (y : Int) + 1 := IntWalk.i64_in _ (by omega)
            have k1 : IntKind.i64.wrap ((k : Int) + 1) = (k : Int) + 1 := IntWalk.i64_in _ (by omega)
            have n1 : IntKind.i64.wrap (n : Int) = (n : Int) := IntWalk.i64_in _ (by omega)
            have c1 : decide ((y : Int) + 1 < (x : Int)) = false := by simp; omega
            have c2 : decide (y + 1 < x) = false := by simp; omega
            have c3 : decide ((x : Int) + 1 < (y : Int)) = false := by simp; omega
            have c4 : decide (x + 1 < y) = false := by simp; omega
            have c5 : decide ((k : Int) + 1 < (x : Int)) = false := by simp; omega
            have c6 : decide (k + 1 < x) = false := by simp; omega
            clear hx hy hne hc1 hc0 hk3
            go_upto_region 18 with fail
            go_quiet (fail)
            have HB3 := Lib.hid (below_drewN HB2.out nq)
            go_wp2
            go_roundw
            case rel => exact ⟨n + 1, by omega, by go_num, HB3⟩
            case measure => have := HSz.out; simp [intOf]; omega
          · have f1 : decide ((n : Int) + 1 < (S.size : Int)) = false := by have := HSz.out; simp; omega
            have f2 : decide (n + 1 < S.size) = false := by have := HSz.out; simp; omega
            by_cases hit : i < t.size
            · have d1 : decide ((i : Int) < (t.size : Int)) = true := by simp; omega
              have d2 : decide (i < t.size) = true := by simp; omega
              have d3 : (i : Int) < (t.size : Int) := by omega
              have HIt := Lib.hid hit
              clear hit hnq
              go_wp2_with (go_at_call 16; (with_reducible refine (T1.out _ _ HB2.out).mono ?_); rintro e w9 ⟨rfl, hB⟩; have H9 := Lib.hid hB; clear hB)
              go_roundw
              case rel => exact ⟨i + 1, by omega, by go_num, by rw [take_snoc t i HIt.out], H9⟩
              case measure => simp [intOf]; omega
            · have d1 : decide ((i : Int) < (t.size : Int)) = false := by simp; omega
              have d2 : decide (i < t.size) = false := by simp; omega
              have hsame : S = bin (capL k (rowT q.data.toList (t.data.toList.take (i + 1)))) := by
                rw [List.take_of_length_le (by rw [ba_length]; omega), ← HSS.out, ← HRR.out, List.take_of_length_le (by rw [ba_length]; omega)]
              have HSame := Lib.hid hsame
              clear hit hnq hsame
              go_wp2
              go_roundw
              case rel => exact ⟨i + 1, by omega, by go_num, by rw [HSame.out], HB2⟩
              case measure => simp [intOf]; omega
    · have e1 : decide ((i : Int) ≤ (t.size : Int)) = false := by simp; omega
      have e2 : decide (i ≤ t.size) = false := by simp; omega
      have hend : t.data.toList.take i = t.data.toList := List.take_of_length_le (by rw [ba_length]; omega)
      have D1 := QD.out wr i HB.out
      rw [hend] at D1 ⊢
      have D2 := Lib.hid fun W hb => QD2.out W hb
      obtain ⟨U, b, hU⟩ : ∃ U b, withV k (lev q.data.toList t.data.toList) = .tuple #[.int .i64 U, .bool b] := ⟨_, _, rfl⟩
      rw [hU] at D1 D2
      have DD := Lib.hid D1
      obtain ⟨S, hS⟩ : ∃ S, bin (capL k (rowT q.data.toList t.data.toList)) = S := ⟨_, rfl⟩
      rw [hS] at DD ⊢
      clear hU D1 hend hS hlt
      go_wp2_with (first
        | (go_at_call 13; (with_reducible refine (QS2.out _ H6.out).mono ?_); rintro e w7 ⟨rfl, hB⟩; have H7 := Lib.hid hB; clear hB)
        | (go_at_call 18; (with_reducible refine (QR2.out _ H7.out).mono ?_); rintro e w8 ⟨rfl, hB⟩; have H8 := Lib.hid hB; clear hB)
        | (go_at_call 21; (with_reducible refine (D2.out _ H8.out).mono ?_); rintro e w9 ⟨rfl, hB⟩; have H9 := Lib.hid hB; clear hB)
        | (go_at_call 21; (with_reducible refine DD.out.mono ?_); rintro e w6 ⟨rfl, hB⟩; have H6 := Lib.hid hB; clear hB))
      go_ret
      exact ⟨by simp, Below.next H4.out H9.out⟩
end Go.Proofs.Ythgdanbkngnckaa

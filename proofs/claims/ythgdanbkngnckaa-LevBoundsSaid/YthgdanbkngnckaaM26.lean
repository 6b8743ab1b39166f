/-
  LevBounds' walk.
-/
import Derived.Test.YthgdanbkngnckaaM25
set_option linter.unusedVariables false
set_option linter.unusedSimpArgs false
namespace Go.Proofs.Ythgdanbkngnckaa
open Go.RowKit Go.Shelf Said

theorem cap_cap {k m : Nat} (h : k ≤ m) {l : List Nat} {n : Nat} (hn : n < l.length) : (capL k l).getD n 0 = cap k ((capL m l).getD n 0) := by
  rw [capL_at k hn, capL_at m hn]
  unfold cap
  omega
theorem can_can {k m : Nat} (h : k ≤ m) (l : List Nat) (hl : 0 < l.length) : decide (minT (capL k l) ≤ k) = true → decide (minT (capL m l) ≤ m) = true := fun hc => by
  have hc := of_decide_eq_true hc
  obtain ⟨i, hi, e⟩ := minT_at (l := capL k l) (by rw [capL_length]; exact hl)
  rw [capL_length] at hi
  rw [capL_at k hi] at e
  have h2 := minT_le_at (l := capL m l) (i := i) (by rw [capL_length]; exact hi)
  rw [capL_at m hi] at h2
  refine decide_eq_true ?_
  unfold cap at e h2
  omega
/-- What both automata may say of one distance. -/
theorem cases_b {k m L : Nat} {b1 b2 : Bool} (h : k ≤ m) (hcc : b1 = true → b2 = true) (hcw : L ≤ k → b1 = true) :
    (withV k L = .tuple #[.int .i64 (L : Int), .bool true] ∧ withV m L = .tuple #[.int .i64 (L : Int), .bool true] ∧ decide ((L : Int) ≤ (k : Int)) = true ∧ decide (L ≤ k) = true ∧ b1 = true ∧ b2 = true) ∨
    (withV k L = .tuple #[.int .i64 0, .bool false] ∧ withV m L = .tuple #[.int .i64 (L : Int), .bool true] ∧ decide ((L : Int) ≤ (k : Int)) = false ∧ decide (L ≤ k) = false ∧ b1 = true ∧ b2 = true) ∨
    (withV k L = .tuple #[.int .i64 0, .bool false] ∧ withV m L = .tuple #[.int .i64 (L : Int), .bool true] ∧ decide ((L : Int) ≤ (k : Int)) = false ∧ decide (L ≤ k) = false ∧ b1 = false) ∨
    (withV k L = .tuple #[.int .i64 0, .bool false] ∧ withV m L = .tuple #[.int .i64 0, .bool false] ∧ b1 = true ∧ b2 = true) ∨
    (withV k L = .tuple #[.int .i64 0, .bool false] ∧ withV m L = .tuple #[.int .i64 0, .bool false] ∧ b1 = false) := by
  have yes : ∀ j, L ≤ j → withV j L = .tuple #[.int .i64 (L : Int), .bool true] := fun j hj => by unfold withV; rw [if_pos hj, decide_eq_true hj]
  have no : ∀ j, ¬ L ≤ j → withV j L = .tuple #[.int .i64 0, .bool false] := fun j hj => by unfold withV; rw [if_neg hj, decide_eq_false hj]; rfl
  by_cases h1 : L ≤ k
  · exact .inl ⟨yes k h1, yes m (by omega), decide_eq_true (by omega), decide_eq_true h1, hcw h1, hcc (hcw h1)⟩
  · by_cases h2 : L ≤ m
    · cases hb : b1
      · exact .inr (.inr (.inl ⟨no k h1, yes m h2, decide_eq_false (by omega), decide_eq_false h1, rfl⟩))
      · exact .inr (.inl ⟨no k h1, yes m h2, decide_eq_false (by omega), decide_eq_false h1, rfl, hcc hb⟩)
    · cases hb : b1
      · exact .inr (.inr (.inr (.inr ⟨no k h1, no m h2, rfl⟩)))
      · exact .inr (.inr (.inr (.inl ⟨no k h1, no m h2, rfl, hcc hb⟩)))

set_option maxHeartbeats 8000000 in
set_option maxRecDepth 100000 in
theorem levBounds_walk (Q Wt : ByteArray) (K O : Int) (w : World) (hK : -128 ≤ K ∧ K ≤ 127) (hO : -128 ≤ O) (hO2 : O ≤ 127) :
    Calls Try.prog 6 #[askA Q Wt K, .int .i8 O] w fun e w' => e = .returned (.bool true) ∧ Below w.heap.size w w' := by
  obtain ⟨k1, hk, hbd⟩ := bound_any K hK
  have QBd := Lib.hid hbd
  obtain ⟨k2, hk2, hbd2⟩ := bound_any O ⟨hO, hO2⟩
  have QBd2 := Lib.hid hbd2
  have QF : Hid (∀ (s : ByteArray) W, Calls Try.prog 9 #[.string s, .int .i64 60] W fun e w' => e = .returned (.string (fewT s 60)) ∧ Below W.heap.size W w') := Lib.hid fun s W => (few_any s 60 (by omega) W).mono fun e w' h => ⟨h.1, h.2 ▸ Below.refl _ _⟩
  have HK := Lib.hid (And.intro hk hk2)
  clear hbd hK hk hbd2 hk2 hO hO2
  unfold askA
  have HB0 := Lib.hid (below_alloc w (.cells #[.string Q, .string Wt, .int .i8 K] 24))
  have HC0 : Hid ((w.alloc (.cells #[.string Q, .string Wt, .int .i8 K] 24)).cell? ⟨w.heap.size, 0, none⟩ = some (.string Q) ∧ (w.alloc (.cells #[.string Q, .string Wt, .int .i8 K] 24)).cell? ⟨w.heap.size, 1, none⟩ = some (.string Wt) ∧ (w.alloc (.cells #[.string Q, .string Wt, .int .i8 K] 24)).cell? ⟨w.heap.size, 2, none⟩ = some (.int .i8 K)) := Lib.hid ⟨by simp [go_sem], by simp [go_sem], by simp [go_sem]⟩
  go_enter Try.func6, Try.ntmps6
  obtain ⟨W0, hW0⟩ : ∃ W0, W0 = w.alloc (.cells #[.string Q, .string Wt, .int .i8 K] 24) := ⟨_, rfl⟩
  rw [← hW0] at HB0 HC0
  have QW := Lib.hid (works_any W0)
  go_upto_region 5 with (rw [← hW0]; go_at_call 20; (with_reducible refine QW.out.mono ?_); rintro e w1 ⟨rfl, hB⟩; have H1 := Lib.hid hB; have z1 := (hB.cell (block_lt_of_cell HC0.out.1)).trans HC0.out.1; have z2 := (hB.cell (block_lt_of_cell HC0.out.2.1)).trans HC0.out.2.1; have z3 := (hB.cell (block_lt_of_cell HC0.out.2.2)).trans HC0.out.2.2; clear hB)
  have HX : Hid (∀ W, Below (w1.heap.size + 1) (w1.alloc (.cells #[.string Q, .string Wt, .int .i8 O] 24)) W → W.cell? ⟨w.heap.size, 0, none⟩ = some (.string Q) ∧ W.cell? ⟨w.heap.size, 1, none⟩ = some (.string Wt) ∧ W.cell? ⟨w.heap.size, 2, none⟩ = some (.int .i8 K) ∧ W.cell? ⟨w1.heap.size, 0, none⟩ = some (.string Q) ∧ W.cell? ⟨w1.heap.size, 1, none⟩ = some (.string Wt) ∧ W.cell? ⟨w1.heap.size, 2, none⟩ = some (.int .i8 O)) := Lib.hid fun W hb => by
    have ha : Below w1.heap.size w1 (w1.alloc (.cells #[.string Q, .string Wt, .int .i8 O] 24)) := below_alloc _ _
    have hx := fun (o : Nat) (v : Value) (h : w1.cell? ⟨w.heap.size, o, none⟩ = some v) => ((hb.cell (p := ⟨w.heap.size, o, none⟩) (by have := block_lt_of_cell h; simp only at this ⊢; omega)).trans (ha.cell (p := ⟨w.heap.size, o, none⟩) (block_lt_of_cell h))).trans h
    have hy := fun (o : Nat) (v : Value) (h : (w1.alloc (.cells #[.string Q, .string Wt, .int .i8 O] 24)).cell? ⟨w1.heap.size, o, none⟩ = some v) => (hb.cell (p := ⟨w1.heap.size, o, none⟩) (Nat.lt_succ_self _)).trans h
    exact ⟨hx 0 _ z1, hx 1 _ z2, hx 2 _ z3, hy 0 _ (by simp [go_sem]), hy 1 _ (by simp [go_sem]), hy 2 _ (by simp [go_sem])⟩
  have HB2 : Hid (Below w.heap.size w (w1.alloc (.cells #[.string Q, .string Wt, .int .i8 O] 24))) := Lib.hid (Below.next (Below.next HB0.out H1.out) (below_alloc _ _))
  have hsz : w1.heap.size + 1 = (w1.alloc (.cells #[.string Q, .string Wt, .int .i8 O] 24)).heap.size := by simp
  rw [hsz] at HX
  clear hsz
  obtain ⟨w2, hw2⟩ : ∃ w2, w2 = w1.alloc (.cells #[.string Q, .string Wt, .int .i8 O] 24) := ⟨_, rfl⟩
  rw [← hw2] at HX HB2 ⊢
  clear hw2 z1 z2 z3 QW hW0 HC0
  obtain ⟨k, hkk⟩ : ∃ k, k = min k1 k2 := ⟨_, rfl⟩
  obtain ⟨m, hmm⟩ : ∃ m, m = max k1 k2 := ⟨_, rfl⟩
  have HKM := Lib.hid (And.intro hkk hmm)
  have HK3 : Hid (k ≤ m ∧ m ≤ 3 ∧ k ≤ 3) := Lib.hid (by have := HK.out; omega)
  clear hkk hmm
  refine Said.region (by kernel_rfl) (by kernel_rfl) (by kernel_rfl) [.is (.agg #[.string Q, .string Wt, .int .i8 K]), .is (.int .i64 (k1 : Int)), .is (.agg #[.string Q, .string Wt, .int .i8 O]), .is (.int .i64 (k2 : Int)), .is (.int .i64 (k : Int)), .is (.agg #[.string Q, .string Wt, .int .i8 K]), .is (.int .i64 (k1 : Int)), .is (.agg #[.string Q, .string Wt, .int .i8 O]), .is (.int .i64 (k2 : Int)), .is (.int .i64 (m : Int)), .is (.int .i64 (k : Int)), .is (.int .i64 (m : Int))] ?_
  simp only [List.toList_toArray]
  iterate 1 (
    refine sq_pure (by rfl) (fun W hb _ => ?_) ?_
    · obtain ⟨y1, y2, y3, y4, y5, y6⟩ := HX.out W hb
      go_simp
    simp only [Act.put, List.setIfInBounds_toArray, List.set_cons_zero, List.set_cons_succ])
  refine sq_call (f := 12) (args := #[.agg #[.string Q, .string Wt, .int .i8 K]]) (by rfl) (fun W => by go_simp) (fun W hb _ => QBd.out Q Wt W) ?_
  simp only [Act.put, List.setIfInBounds_toArray, List.set_cons_zero, List.set_cons_succ]
  iterate 1 (
    refine sq_pure (by rfl) (fun W hb _ => ?_) ?_
    · obtain ⟨y1, y2, y3, y4, y5, y6⟩ := HX.out W hb
      go_simp
    simp only [Act.put, List.setIfInBounds_toArray, List.set_cons_zero, List.set_cons_succ])
  refine sq_call (f := 12) (args := #[.agg #[.string Q, .string Wt, .int .i8 O]]) (by rfl) (fun W => by go_simp) (fun W hb _ => QBd2.out Q Wt W) ?_
  simp only [Act.put, List.setIfInBounds_toArray, List.set_cons_zero, List.set_cons_succ]
  refine sq_pure (by rfl) (fun W hb _ => ?_) ?_
  · have hkm := HKM.out.1
    go_simp
    all_goals ((repeat' split) <;> omega)
  simp only [Act.put, List.setIfInBounds_toArray, List.set_cons_zero, List.set_cons_succ]
  iterate 1 (
    refine sq_pure (by rfl) (fun W hb _ => ?_) ?_
    · obtain ⟨y1, y2, y3, y4, y5, y6⟩ := HX.out W hb
      go_simp
    simp only [Act.put, List.setIfInBounds_toArray, List.set_cons_zero, List.set_cons_succ])
  refine sq_call (f := 12) (args := #[.agg #[.string Q, .string Wt, .int .i8 K]]) (by rfl) (fun W => by go_simp) (fun W hb _ => QBd.out Q Wt W) ?_
  simp only [Act.put, List.setIfInBounds_toArray, List.set_cons_zero, List.set_cons_succ]
  iterate 1 (
    refine sq_pure (by rfl) (fun W hb _ => ?_) ?_
    · obtain ⟨y1, y2, y3, y4, y5, y6⟩ := HX.out W hb
      go_simp
    simp only [Act.put, List.setIfInBounds_toArray, List.set_cons_zero, List.set_cons_succ])
  refine sq_call (f := 12) (args := #[.agg #[.string Q, .string Wt, .int .i8 O]]) (by rfl) (fun W => by go_simp) (fun W hb _ => QBd2.out Q Wt W) ?_
  simp only [Act.put, List.setIfInBounds_toArray, List.set_cons_zero, List.set_cons_succ]
  refine sq_pure (by rfl) (fun W hb _ => ?_) ?_
  · have hkm := HKM.out.2
    go_simp
    all_goals ((repeat' split) <;> omega)
  simp only [Act.put, List.setIfInBounds_toArray, List.set_cons_zero, List.set_cons_succ]
  iterate 2 (
    refine sq_pure (by rfl) (fun W hb _ => ?_) ?_
    · obtain ⟨y1, y2, y3, y4, y5, y6⟩ := HX.out W hb
      go_simp
    simp only [Act.put, List.setIfInBounds_toArray, List.set_cons_zero, List.set_cons_succ])
  refine sq_end (fun w3 hb3 hK3 => ?_)
  have H3 := Lib.hid hb3
  clear hK3 hb3
  obtain ⟨q, hq⟩ : ∃ q, fewT Q 60 = q := ⟨_, rfl⟩
  obtain ⟨t, ht⟩ : ∃ t, fewT Wt 60 = t := ⟨_, rfl⟩
  have HQ : Hid (q.size ≤ 60) := Lib.hid (by rw [← hq, fewT_size]; omega)
  have HT : Hid (t.size ≤ 60) := Lib.hid (by rw [← ht, fewT_size]; omega)
  have HX3 : Hid (∀ W, Below w3.heap.size w3 W → W.cell? ⟨w.heap.size, 0, none⟩ = some (.string Q) ∧ W.cell? ⟨w.heap.size, 1, none⟩ = some (.string Wt) ∧ W.cell? ⟨w.heap.size, 2, none⟩ = some (.int .i8 K) ∧ W.cell? ⟨w1.heap.size, 0, none⟩ = some (.string Q) ∧ W.cell? ⟨w1.heap.size, 1, none⟩ = some (.string Wt) ∧ W.cell? ⟨w1.heap.size, 2, none⟩ = some (.int .i8 O)) := Lib.hid fun W hb => HX.out W (Below.next H3.out hb)
  go_upto_region 6 with fail
  refine Said.region (by kernel_rfl) (by kernel_rfl) (by kernel_rfl) [.is (.pointer (some ⟨w.heap.size, 0, none⟩)), .is (.string Q), .is (.string q), .is (.pointer (some ⟨w.heap.size, 1, none⟩)), .is (.string Wt), .is (.string t), .is (.string q), .is (.string t)] ?_
  simp only [List.toList_toArray]
  iterate 2 (
    refine sq_pure (by rfl) (fun W hb _ => ?_) ?_
    · obtain ⟨y1, y2, y3, y4, y5, y6⟩ := HX3.out W hb
      go_simp
    simp only [Act.put, List.setIfInBounds_toArray, List.set_cons_zero, List.set_cons_succ])
  refine sq_call (f := 9) (args := #[.string Q, .int .i64 60]) (by rfl) (fun W => by go_simp) (fun W hb _ => by rw [← hq]; exact QF.out Q W) ?_
  simp only [Act.put, List.setIfInBounds_toArray, List.set_cons_zero, List.set_cons_succ]
  iterate 2 (
    refine sq_pure (by rfl) (fun W hb _ => ?_) ?_
    · obtain ⟨y1, y2, y3, y4, y5, y6⟩ := HX3.out W hb
      go_simp
    simp only [Act.put, List.setIfInBounds_toArray, List.set_cons_zero, List.set_cons_succ])
  refine sq_call (f := 9) (args := #[.string Wt, .int .i64 60]) (by rfl) (fun W => by go_simp) (fun W hb _ => by rw [← ht]; exact QF.out Wt W) ?_
  simp only [Act.put, List.setIfInBounds_toArray, List.set_cons_zero, List.set_cons_succ]
  iterate 2 (
    refine sq_pure (by rfl) (fun W hb _ => ?_) ?_
    · obtain ⟨y1, y2, y3, y4, y5, y6⟩ := HX3.out W hb
      go_simp
    simp only [Act.put, List.setIfInBounds_toArray, List.set_cons_zero, List.set_cons_succ])
  refine sq_end (fun w4 hb4 hK4 => ?_)
  have H4 := Lib.hid (Below.next (Below.next HB2.out H3.out) hb4)
  clear hK4 hb4 hq ht HX HX3 H3 HB2 QBd QBd2 QF HB0 H1
  have QN : Hid (∀ W, Calls Try.prog 10 #[.string q, .int .i64 (k : Int)] W fun e w' => e = .returned (.pointer (some ⟨W.heap.size, 0, none⟩)) ∧ AutoAt w' W.heap.size q k ∧ Below W.heap.size W w' ∧ W.heap.size < w'.heap.size) := Lib.hid fun W => new_any q k W (by have := HQ.out; omega) (by have := HK3.out; omega)
  have QN2 : Hid (∀ W, Calls Try.prog 10 #[.string q, .int .i64 (m : Int)] W fun e w' => e = .returned (.pointer (some ⟨W.heap.size, 0, none⟩)) ∧ AutoAt w' W.heap.size q m ∧ Below W.heap.size W w' ∧ W.heap.size < w'.heap.size) := Lib.hid fun W => new_any q m W (by have := HQ.out; omega) (by have := HK3.out; omega)
  go_upto_region 10 with (first
    | (go_at_call 10; (with_reducible refine (QN.out w4).mono ?_); rintro e w5 ⟨rfl, hA, hB, hz⟩; have HA0 := Lib.hid hA; have H5 := Lib.hid (Below.next H4.out hB); clear hA hB hz QN)
    | (go_at_call 10; (with_reducible refine (QN2.out w5).mono ?_); rintro e w6 ⟨rfl, hA, hB, hz⟩; have HA := Lib.hid (And.intro (HA0.out.below hB) hA); have H6 := Lib.hid (Below.next H5.out hB); clear hA hB hz))
  obtain ⟨p, hp⟩ : ∃ p, p = w4.heap.size := ⟨_, rfl⟩
  obtain ⟨p2, hp2⟩ : ∃ p2, p2 = w5.heap.size := ⟨_, rfl⟩
  rw [← hp, ← hp2] at HA
  rw [← hp, ← hp2]
  clear hp hp2 QN2 HA0 H5 H4
  have HQ3 : Hid (q.size ≤ 300) := Lib.hid (by have := HQ.out; omega)
  have QS : Hid (∀ W, Below w6.heap.size w6 W → Calls Try.prog 13 #[.pointer (some ⟨p, 0, none⟩)] W fun e w' => e = .returned (.string (bin (capL k (rowT q.data.toList (t.data.toList.take 0))))) ∧ Below w6.heap.size w6 w') := Lib.hid fun W hb => (start_st HA.out.1 hb (by have := HK3.out; omega) (by have := HQ.out; omega)).mono fun e w' h => ⟨h.1.trans (by rw [List.take_zero]; rfl), Below.next hb h.2⟩
  have QS2 : Hid (∀ W, Below w6.heap.size w6 W → Calls Try.prog 13 #[.pointer (some ⟨p2, 0, none⟩)] W fun e w' => e = .returned (.string (bin (capL m (rowT q.data.toList (t.data.toList.take 0))))) ∧ Below w6.heap.size w6 w') := Lib.hid fun W hb => (start_st HA.out.2 hb (by have := HK3.out; omega) (by have := HQ.out; omega)).mono fun e w' h => ⟨h.1.trans (by rw [List.take_zero]; rfl), Below.next hb h.2⟩
  have QD : Hid (∀ W i, Below w6.heap.size w6 W → Calls Try.prog 21 #[.pointer (some ⟨p, 0, none⟩), .string (bin (capL k (rowT q.data.toList (t.data.toList.take i))))] W fun e w' => e = .returned (withV k (lev q.data.toList (t.data.toList.take i))) ∧ Below w6.heap.size w6 w') := Lib.hid fun W i hb => (dist_st HA.out.1 hb (by have := HK3.out; omega) HQ3.out (row_is _ _ _)).mono fun e w' h => ⟨h.1.trans (by rw [whole_row, cap_with]), Below.next hb h.2⟩
  have QD2 : Hid (∀ W i, Below w6.heap.size w6 W → Calls Try.prog 21 #[.pointer (some ⟨p2, 0, none⟩), .string (bin (capL m (rowT q.data.toList (t.data.toList.take i))))] W fun e w' => e = .returned (withV m (lev q.data.toList (t.data.toList.take i))) ∧ Below w6.heap.size w6 w') := Lib.hid fun W i hb => (dist_st HA.out.2 hb (by have := HK3.out; omega) HQ3.out (row_is _ _ _)).mono fun e w' h => ⟨h.1.trans (by rw [whole_row, cap_with]), Below.next hb h.2⟩
  have QT : Hid (∀ W i (c : UInt8), Below w6.heap.size w6 W → Calls Try.prog 16 #[.pointer (some ⟨p, 0, none⟩), .string (bin (capL k (rowT q.data.toList (t.data.toList.take i)))), .int .u8 (c.toNat : Int)] W fun e w' => e = .returned (.string (bin (capL k (rowT q.data.toList (t.data.toList.take i ++ [c]))))) ∧ Below w6.heap.size w6 w') := Lib.hid fun W i c hb => (step_st c HA.out.1 hb (by have := HK3.out; omega) HQ3.out (row_is _ _ _)).mono fun e w' h => ⟨h.1.trans (by rw [stepL_row]), Below.next hb h.2⟩
  have QT2 : Hid (∀ W i (c : UInt8), Below w6.heap.size w6 W → Calls Try.prog 16 #[.pointer (some ⟨p2, 0, none⟩), .string (bin (capL m (rowT q.data.toList (t.data.toList.take i)))), .int .u8 (c.toNat : Int)] W fun e w' => e = .returned (.string (bin (capL m (rowT q.data.toList (t.data.toList.take i ++ [c]))))) ∧ Below w6.heap.size w6 w') := Lib.hid fun W i c hb => (step_st c HA.out.2 hb (by have := HK3.out; omega) HQ3.out (row_is _ _ _)).mono fun e w' h => ⟨h.1.trans (by rw [stepL_row]), Below.next hb h.2⟩
  have QC : Hid (∀ W i, Below w6.heap.size w6 W → Calls Try.prog 23 #[.pointer (some ⟨p, 0, none⟩), .string (bin (capL k (rowT q.data.toList (t.data.toList.take i))))] W fun e w' => e = .returned (.bool (decide (minT (capL k (rowT q.data.toList (t.data.toList.take i))) ≤ k))) ∧ Below w6.heap.size w6 w') := Lib.hid fun W i hb => (can_st HA.out.1 hb (by have := HK3.out; omega) HQ3.out (row_is _ _ _)).mono fun e w' h => ⟨h.1, Below.next hb h.2⟩
  have QC2 : Hid (∀ W i, Below w6.heap.size w6 W → Calls Try.prog 23 #[.pointer (some ⟨p2, 0, none⟩), .string (bin (capL m (rowT q.data.toList (t.data.toList.take i))))] W fun e w' => e = .returned (.bool (decide (minT (capL m (rowT q.data.toList (t.data.toList.take i))) ≤ m))) ∧ Below w6.heap.size w6 w') := Lib.hid fun W i hb => (can_st HA.out.2 hb (by have := HK3.out; omega) HQ3.out (row_is _ _ _)).mono fun e w' h => ⟨h.1, Below.next hb h.2⟩
  go_wp2_with (first
    | (go_at_call 13; (with_reducible refine (QS.out _ (Below.refl _ _)).mono ?_); rintro e w7 ⟨rfl, hB⟩; have H7 := Lib.hid hB; clear hB)
    | (go_at_call 13; (with_reducible refine (QS2.out _ H7.out).mono ?_); rintro e w8 ⟨rfl, hB⟩; have H8 := Lib.hid hB; clear hB))
  have hqz := HQ.out
  have htz := HT.out
  go_loopw [12, 13, 14] (fun s12 s13 s14 wr => ∃ i : Nat, i ≤ t.size + 1 ∧ s14 = .int .i64 (i : Int) ∧ s12 = .string (bin (capL k (rowT q.data.toList (t.data.toList.take i)))) ∧ s13 = .string (bin (capL m (rowT q.data.toList (t.data.toList.take i)))) ∧ Hid (Below w6.heap.size w6 wr)) (fun _ _ s14 _ => t.size + 1 - (intOf s14).toNat)
  case atStart => exact ⟨0, Nat.zero_le _, rfl, rfl, rfl, H8⟩
  case round =>
    obtain ⟨i, hi, rfl, rfl, rfl, HB⟩ := hrel
    by_cases hlt : i ≤ t.size
    · have e1 : decide ((i : Int) ≤ (t.size : Int)) = true := by simp; omega
      have e2 : decide (i ≤ t.size) = true := by simp; omega
      have D1 := Lib.hid fun W hb => QD.out W i hb
      have D2 := Lib.hid fun W hb => QD2.out W i hb
      have T1 := Lib.hid fun W c hb => QT.out W i c hb
      have T2 := Lib.hid fun W c hb => QT2.out W i c hb
      have C1 := Lib.hid fun W hb => QC.out W i hb
      have C2 := Lib.hid fun W hb => QC2.out W i hb
      have hz1 : (bin (capL k (rowT q.data.toList (t.data.toList.take i)))).size = q.size + 1 := by rw [bin_size, (row_is _ _ _).1, ba_length]
      have hz2 : (bin (capL m (rowT q.data.toList (t.data.toList.take i)))).size = q.size + 1 := by rw [bin_size, (row_is _ _ _).1, ba_length]
      have hs1 : ∀ (n : Nat) (h : n < (bin (capL k (rowT q.data.toList (t.data.toList.take i)))).size), ((bin (capL k (rowT q.data.toList (t.data.toList.take i))))[n]'h).toNat = cap k ((capL m (rowT q.data.toList (t.data.toList.take i))).getD n 0) := fun n h => by
        rw [← nums_at _ h, nums_of (row_is _ _ _) (by have := HK3.out; omega)]
        rw [hz1] at h
        exact cap_cap HK3.out.1 (by rw [rowT_length, ba_length]; exact h)
      have hs2 : ∀ (n : Nat) (h : n < (bin (capL m (rowT q.data.toList (t.data.toList.take i)))).size), ((bin (capL m (rowT q.data.toList (t.data.toList.take i))))[n]'h).toNat = (capL m (rowT q.data.toList (t.data.toList.take i))).getD n 0 := fun n h => by rw [← nums_at _ h, nums_of (row_is _ _ _) (by have := HK3.out; omega)]
      have hb4 : ∀ n, (capL m (rowT q.data.toList (t.data.toList.take i))).getD n 0 ≤ 4 := fun n => by have := capL_le m (rowT q.data.toList (t.data.toList.take i)) n; have := HK3.out; omega
      have hcc := can_can HK3.out.1 (rowT q.data.toList (t.data.toList.take i)) (by rw [rowT_length]; omega)
      have hcw : lev q.data.toList (t.data.toList.take i) ≤ k → decide (minT (capL k (rowT q.data.toList (t.data.toList.take i))) ≤ k) = true := fun h => by
        have h1 := min_whole (row_is q.data.toList (t.data.toList.take i) k)
        rw [whole_row] at h1
        exact decide_eq_true (by unfold cap at h1; omega)
      obtain ⟨L, hL⟩ : ∃ L, lev q.data.toList (t.data.toList.take i) = L := ⟨_, rfl⟩
      obtain ⟨b1, hb1⟩ : ∃ b, decide (minT (capL k (rowT q.data.toList (t.data.toList.take i))) ≤ k) = b := ⟨_, rfl⟩
      obtain ⟨b2, hb2⟩ : ∃ b, decide (minT (capL m (rowT q.data.toList (t.data.toList.take i))) ≤ m) = b := ⟨_, rfl⟩
      rw [hL] at D1 D2 hcw
      rw [hb1] at C1 hcc hcw
      rw [hb2] at C2 hcc
      clear hL hb1 hb2
      obtain ⟨S, hS⟩ : ∃ S, bin (capL k (rowT q.data.toList (t.data.toList.take i))) = S := ⟨_, rfl⟩
      obtain ⟨S2, hS2⟩ : ∃ S, bin (capL m (rowT q.data.toList (t.data.toList.take i))) = S := ⟨_, rfl⟩
      have HSS := Lib.hid (And.intro hS hS2)
      rw [hS] at hz1 hs1 D1 T1 C1
      rw [hS2] at hz2 hs2 D2 T2 C2
      rw [hS, hS2]
      obtain ⟨R, hR⟩ : ∃ R, capL m (rowT q.data.toList (t.data.toList.take i)) = R := ⟨_, rfl⟩
      rw [hR] at hs1 hs2 hb4
      clear hR
      have g1 : ((S.size : Int) == (S2.size : Int)) = true := by simp; omega
      have g2 : ((S.size : Int) != (S2.size : Int)) = false := by simp; omega
      have g3 : (S.size == S2.size) = true := by simp; omega
      have g4 : (S.size != S2.size) = false := by simp; omega
      have HZ := Lib.hid (And.intro hz1 hz2)
      have HS1 := Lib.hid hs1
      have HS2 := Lib.hid hs2
      have H4b := Lib.hid hb4
      have HC := Lib.hid (And.intro hcc hcw)
      clear hS hS2 hz1 hz2 hs1 hs2 hb4 hcc hcw
      obtain ⟨wz, hwz⟩ : ∃ wz, wz = wr := ⟨_, rfl⟩
      subst hwz
      go_wp2
      go_loopw [15] (fun s15 wr => ∃ n : Nat, n ≤ S.size ∧ s15 = .int .i64 (n : Int) ∧ Hid (Below w6.heap.size w6 wr)) (fun s15 _ => S.size - (intOf s15).toNat)
      case atStart => exact ⟨0, Nat.zero_le _, rfl, HB⟩
      case round =>
        obtain ⟨n, hn, rfl, HB2⟩ := hrel
        have hS61 : S.size ≤ 61 := by have := HZ.out; omega
        by_cases hnq : n < S.size
        · have f1 : decide ((n : Int) < (S.size : Int)) = true := by simp; omega
          have f2 : decide (n < S.size) = true := by simp; omega
          have il1 : (n : Int) < (S.size : Int) := by omega
          have il2 : (n : Int) < (S2.size : Int) := by have := HZ.out; omega
          have sn1 := HS1.out n
          have sn2 := HS2.out n
          have x4 := H4b.out n
          have hk3 := HK3.out
          obtain ⟨x, hx⟩ : ∃ x, R.getD n 0 = x := ⟨_, rfl⟩
          rw [hx] at sn1 sn2 x4
          obtain ⟨y, hy⟩ : ∃ y, cap k x = y := ⟨_, rfl⟩
          rw [hy] at sn1
          have hyx : y = min x (k + 1) := hy.symm
          have x0 : IntKind.i64.wrap (x : Int) = (x : Int) := IntWalk.i64_in _ (by omega)
          have y0 : IntKind.i64.wrap (y : Int) = (y : Int) := IntWalk.i64_in _ (by omega)
          have k1' : IntKind.i64.wrap ((k : Int) + 1) = (k : Int) + 1 := IntWalk.i64_in _ (by omega)
          have hmin : (if (k : Int) + 1 < (x : Int) then (k : Int) + 1 else (x : Int)) = (y : Int) := by split <;> omega
          have hminN : (if k + 1 < x then (k : Int) + 1 else (x : Int)) = (y : Int) := by split <;> omega
          have c1 : ((y : Int) == (y : Int)) = true := by simp
          have c2 : ((y : Int) != (y : Int)) = false := by simp
          clear hx hy hyx hk3
          go_upto_region 19 with fail
          go_quiet (fail)
          have HB3 := Lib.hid (below_drewN HB2.out nq)
          go_wp2
          go_roundw
          case rel => exact ⟨n + 1, by omega, by go_num, HB3⟩
          case measure => simp [intOf]; omega
        · have f1 : decide ((n : Int) < (S.size : Int)) = false := by simp; omega
          have f2 : decide (n < S.size) = false := by simp; omega
          clear hnq
          rcases cases_b HK3.out.1 HC.out.1 HC.out.2 with ⟨hD1, hD2, j1, j2, rfl, rfl⟩ | ⟨hD1, hD2, j1, j2, rfl, rfl⟩ | ⟨hD1, hD2, j1, j2, rfl⟩ | ⟨hD1, hD2, rfl, rfl⟩ | ⟨hD1, hD2, rfl⟩
          · rw [hD1] at D1
            rw [hD2] at D2
            clear hD1 hD2
            by_cases hit : i < t.size
            · have d1 : decide ((i : Int) < (t.size : Int)) = true := by simp; omega
              have d2 : decide (i < t.size) = true := by simp; omega
              have d3 : (i : Int) < (t.size : Int) := by omega
              have HIt := Lib.hid hit
              clear hit
              go_wp2_with (first
                | (go_at_call 21; (with_reducible refine (D1.out _ HB2.out).mono ?_); rintro e w11 ⟨rfl, hB⟩; have G11 := Lib.hid hB; clear hB)
                | (go_at_call 21; (with_reducible refine (D2.out _ G11.out).mono ?_); rintro e w12 ⟨rfl, hB⟩; have G12 := Lib.hid hB; clear hB)
                | (go_at_call 23; (with_reducible refine (C1.out _ G12.out).mono ?_); rintro e w13 ⟨rfl, hB⟩; have G13 := Lib.hid hB; clear hB)
                | (go_at_call 23; (with_reducible refine (C2.out _ G13.out).mono ?_); rintro e w14 ⟨rfl, hB⟩; have G14 := Lib.hid hB; clear hB)
                | (go_at_call 16; (with_reducible refine (T1.out _ _ G14.out).mono ?_); rintro e w15 ⟨rfl, hB⟩; have G15 := Lib.hid hB; clear hB)
                | (go_at_call 16; (with_reducible refine (T2.out _ _ G15.out).mono ?_); rintro e w16 ⟨rfl, hB⟩; have G16 := Lib.hid hB; clear hB))
              go_roundw
              case rel => exact ⟨i + 1, by omega, by go_num, by rw [take_snoc t i HIt.out], by rw [take_snoc t i HIt.out], G16⟩
              case measure => simp [intOf]; omega
            · have d1 : decide ((i : Int) < (t.size : Int)) = false := by simp; omega
              have d2 : decide (i < t.size) = false := by simp; omega
              have hsame : t.data.toList.take (i + 1) = t.data.toList.take i := by
                rw [List.take_of_length_le (by rw [ba_length]; omega), List.take_of_length_le (by rw [ba_length]; omega)]
              have HSame := Lib.hid hsame
              clear hit hsame
              go_wp2_with (first
                | (go_at_call 21; (with_reducible refine (D1.out _ HB2.out).mono ?_); rintro e w11 ⟨rfl, hB⟩; have G11 := Lib.hid hB; clear hB)
                | (go_at_call 21; (with_reducible refine (D2.out _ G11.out).mono ?_); rintro e w12 ⟨rfl, hB⟩; have G12 := Lib.hid hB; clear hB)
                | (go_at_call 23; (with_reducible refine (C1.out _ G12.out).mono ?_); rintro e w13 ⟨rfl, hB⟩; have G13 := Lib.hid hB; clear hB)
                | (go_at_call 23; (with_reducible refine (C2.out _ G13.out).mono ?_); rintro e w14 ⟨rfl, hB⟩; have G14 := Lib.hid hB; clear hB))
              go_roundw
              case rel => exact ⟨i + 1, by omega, by go_num, by rw [HSame.out, ← HSS.out.1], by rw [HSame.out, ← HSS.out.2], G14⟩
              case measure => simp [intOf]; omega
          · rw [hD1] at D1
            rw [hD2] at D2
            clear hD1 hD2
            by_cases hit : i < t.size
            · have d1 : decide ((i : Int) < (t.size : Int)) = true := by simp; omega
              have d2 : decide (i < t.size) = true := by simp; omega
              have d3 : (i : Int) < (t.size : Int) := by omega
              have HIt := Lib.hid hit
              clear hit
              go_wp2_with (first
                | (go_at_call 21; (with_reducible refine (D1.out _ HB2.out).mono ?_); rintro e w11 ⟨rfl, hB⟩; have G11 := Lib.hid hB; clear hB)
                | (go_at_call 21; (with_reducible refine (D2.out _ G11.out).mono ?_); rintro e w12 ⟨rfl, hB⟩; have G12 := Lib.hid hB; clear hB)
                | (go_at_call 23; (with_reducible refine (C1.out _ G12.out).mono ?_); rintro e w13 ⟨rfl, hB⟩; have G13 := Lib.hid hB; clear hB)
                | (go_at_call 23; (with_reducible refine (C2.out _ G13.out).mono ?_); rintro e w14 ⟨rfl, hB⟩; have G14 := Lib.hid hB; clear hB)
                | (go_at_call 16; (with_reducible refine (T1.out _ _ G14.out).mono ?_); rintro e w15 ⟨rfl, hB⟩; have G15 := Lib.hid hB; clear hB)
                | (go_at_call 16; (with_reducible refine (T2.out _ _ G15.out).mono ?_); rintro e w16 ⟨rfl, hB⟩; have G16 := Lib.hid hB; clear hB))
              go_roundw
              case rel => exact ⟨i + 1, by omega, by go_num, by rw [take_snoc t i HIt.out], by rw [take_snoc t i HIt.out], G16⟩
              case measure => simp [intOf]; omega
            · have d1 : decide ((i : Int) < (t.size : Int)) = false := by simp; omega
              have d2 : decide (i < t.size) = false := by simp; omega
              have hsame : t.data.toList.take (i + 1) = t.data.toList.take i := by
                rw [List.take_of_length_le (by rw [ba_length]; omega), List.take_of_length_le (by rw [ba_length]; omega)]
              have HSame := Lib.hid hsame
              clear hit hsame
              go_wp2_with (first
                | (go_at_call 21; (with_reducible refine (D1.out _ HB2.out).mono ?_); rintro e w11 ⟨rfl, hB⟩; have G11 := Lib.hid hB; clear hB)
                | (go_at_call 21; (with_reducible refine (D2.out _ G11.out).mono ?_); rintro e w12 ⟨rfl, hB⟩; have G12 := Lib.hid hB; clear hB)
                | (go_at_call 23; (with_reducible refine (C1.out _ G12.out).mono ?_); rintro e w13 ⟨rfl, hB⟩; have G13 := Lib.hid hB; clear hB)
                | (go_at_call 23; (with_reducible refine (C2.out _ G13.out).mono ?_); rintro e w14 ⟨rfl, hB⟩; have G14 := Lib.hid hB; clear hB))
              go_roundw
              case rel => exact ⟨i + 1, by omega, by go_num, by rw [HSame.out, ← HSS.out.1], by rw [HSame.out, ← HSS.out.2], G14⟩
              case measure => simp [intOf]; omega
          · rw [hD1] at D1
            rw [hD2] at D2
            clear hD1 hD2
            by_cases hit : i < t.size
            · have d1 : decide ((i : Int) < (t.size : Int)) = true := by simp; omega
              have d2 : decide (i < t.size) = true := by simp; omega
              have d3 : (i : Int) < (t.size : Int) := by omega
              have HIt := Lib.hid hit
              clear hit
              go_wp2_with (first
                | (go_at_call 21; (with_reducible refine (D1.out _ HB2.out).mono ?_); rintro e w11 ⟨rfl, hB⟩; have G11 := Lib.hid hB; clear hB)
                | (go_at_call 21; (with_reducible refine (D2.out _ G11.out).mono ?_); rintro e w12 ⟨rfl, hB⟩; have G12 := Lib.hid hB; clear hB)
                | (go_at_call 23; (with_reducible refine (C1.out _ G12.out).mono ?_); rintro e w13 ⟨rfl, hB⟩; have G13 := Lib.hid hB; clear hB)
                | (go_at_call 16; (with_reducible refine (T1.out _ _ G13.out).mono ?_); rintro e w15 ⟨rfl, hB⟩; have G15 := Lib.hid hB; clear hB)
                | (go_at_call 16; (with_reducible refine (T2.out _ _ G15.out).mono ?_); rintro e w16 ⟨rfl, hB⟩; have G16 := Lib.hid hB; clear hB))
              go_roundw
              case rel => exact ⟨i + 1, by omega, by go_num, by rw [take_snoc t i HIt.out], by rw [take_snoc t i HIt.out], G16⟩
              case measure => simp [intOf]; omega
            · have d1 : decide ((i : Int) < (t.size : Int)) = false := by simp; omega
              have d2 : decide (i < t.size) = false := by simp; omega
              have hsame : t.data.toList.take (i + 1) = t.data.toList.take i := by
                rw [List.take_of_length_le (by rw [ba_length]; omega), List.take_of_length_le (by rw [ba_length]; omega)]
              have HSame := Lib.hid hsame
              clear hit hsame
              go_wp2_with (first
                | (go_at_call 21; (with_reducible refine (D1.out _ HB2.out).mono ?_); rintro e w11 ⟨rfl, hB⟩; have G11 := Lib.hid hB; clear hB)
                | (go_at_call 21; (with_reducible refine (D2.out _ G11.out).mono ?_); rintro e w12 ⟨rfl, hB⟩; have G12 := Lib.hid hB; clear hB)
                | (go_at_call 23; (with_reducible refine (C1.out _ G12.out).mono ?_); rintro e w13 ⟨rfl, hB⟩; have G13 := Lib.hid hB; clear hB))
              go_roundw
              case rel => exact ⟨i + 1, by omega, by go_num, by rw [HSame.out, ← HSS.out.1], by rw [HSame.out, ← HSS.out.2], G13⟩
              case measure => simp [intOf]; omega
          · rw [hD1] at D1
            rw [hD2] at D2
            clear hD1 hD2
            by_cases hit : i < t.size
            · have d1 : decide ((i : Int) < (t.size : Int)) = true := by simp; omega
              have d2 : decide (i < t.size) = true := by simp; omega
              have d3 : (i : Int) < (t.size : Int) := by omega
              have HIt := Lib.hid hit
              clear hit
              go_wp2_with (first
                | (go_at_call 21; (with_reducible refine (D1.out _ HB2.out).mono ?_); rintro e w11 ⟨rfl, hB⟩; have G11 := Lib.hid hB; clear hB)
                | (go_at_call 21; (with_reducible refine (D2.out _ G11.out).mono ?_); rintro e w12 ⟨rfl, hB⟩; have G12 := Lib.hid hB; clear hB)
                | (go_at_call 23; (with_reducible refine (C1.out _ G12.out).mono ?_); rintro e w13 ⟨rfl, hB⟩; have G13 := Lib.hid hB; clear hB)
                | (go_at_call 23; (with_reducible refine (C2.out _ G13.out).mono ?_); rintro e w14 ⟨rfl, hB⟩; have G14 := Lib.hid hB; clear hB)
                | (go_at_call 16; (with_reducible refine (T1.out _ _ G14.out).mono ?_); rintro e w15 ⟨rfl, hB⟩; have G15 := Lib.hid hB; clear hB)
                | (go_at_call 16; (with_reducible refine (T2.out _ _ G15.out).mono ?_); rintro e w16 ⟨rfl, hB⟩; have G16 := Lib.hid hB; clear hB))
              go_roundw
              case rel => exact ⟨i + 1, by omega, by go_num, by rw [take_snoc t i HIt.out], by rw [take_snoc t i HIt.out], G16⟩
              case measure => simp [intOf]; omega
            · have d1 : decide ((i : Int) < (t.size : Int)) = false := by simp; omega
              have d2 : decide (i < t.size) = false := by simp; omega
              have hsame : t.data.toList.take (i + 1) = t.data.toList.take i := by
                rw [List.take_of_length_le (by rw [ba_length]; omega), List.take_of_length_le (by rw [ba_length]; omega)]
              have HSame := Lib.hid hsame
              clear hit hsame
              go_wp2_with (first
                | (go_at_call 21; (with_reducible refine (D1.out _ HB2.out).mono ?_); rintro e w11 ⟨rfl, hB⟩; have G11 := Lib.hid hB; clear hB)
                | (go_at_call 21; (with_reducible refine (D2.out _ G11.out).mono ?_); rintro e w12 ⟨rfl, hB⟩; have G12 := Lib.hid hB; clear hB)
                | (go_at_call 23; (with_reducible refine (C1.out _ G12.out).mono ?_); rintro e w13 ⟨rfl, hB⟩; have G13 := Lib.hid hB; clear hB)
                | (go_at_call 23; (with_reducible refine (C2.out _ G13.out).mono ?_); rintro e w14 ⟨rfl, hB⟩; have G14 := Lib.hid hB; clear hB))
              go_roundw
              case rel => exact ⟨i + 1, by omega, by go_num, by rw [HSame.out, ← HSS.out.1], by rw [HSame.out, ← HSS.out.2], G14⟩
              case measure => simp [intOf]; omega
          · rw [hD1] at D1
            rw [hD2] at D2
            clear hD1 hD2
            by_cases hit : i < t.size
            · have d1 : decide ((i : Int) < (t.size : Int)) = true := by simp; omega
              have d2 : decide (i < t.size) = true := by simp; omega
              have d3 : (i : Int) < (t.size : Int) := by omega
              have HIt := Lib.hid hit
              clear hit
              go_wp2_with (first
                | (go_at_call 21; (with_reducible refine (D1.out _ HB2.out).mono ?_); rintro e w11 ⟨rfl, hB⟩; have G11 := Lib.hid hB; clear hB)
                | (go_at_call 21; (with_reducible refine (D2.out _ G11.out).mono ?_); rintro e w12 ⟨rfl, hB⟩; have G12 := Lib.hid hB; clear hB)
                | (go_at_call 23; (with_reducible refine (C1.out _ G12.out).mono ?_); rintro e w13 ⟨rfl, hB⟩; have G13 := Lib.hid hB; clear hB)
                | (go_at_call 16; (with_reducible refine (T1.out _ _ G13.out).mono ?_); rintro e w15 ⟨rfl, hB⟩; have G15 := Lib.hid hB; clear hB)
                | (go_at_call 16; (with_reducible refine (T2.out _ _ G15.out).mono ?_); rintro e w16 ⟨rfl, hB⟩; have G16 := Lib.hid hB; clear hB))
              go_roundw
              case rel => exact ⟨i + 1, by omega, by go_num, by rw [take_snoc t i HIt.out], by rw [take_snoc t i HIt.out], G16⟩
              case measure => simp [intOf]; omega
            · have d1 : decide ((i : Int) < (t.size : Int)) = false := by simp; omega
              have d2 : decide (i < t.size) = false := by simp; omega
              have hsame : t.data.toList.take (i + 1) = t.data.toList.take i := by
                rw [List.take_of_length_le (by rw [ba_length]; omega), List.take_of_length_le (by rw [ba_length]; omega)]
              have HSame := Lib.hid hsame
              clear hit hsame
              go_wp2_with (first
                | (go_at_call 21; (with_reducible refine (D1.out _ HB2.out).mono ?_); rintro e w11 ⟨rfl, hB⟩; have G11 := Lib.hid hB; clear hB)
                | (go_at_call 21; (with_reducible refine (D2.out _ G11.out).mono ?_); rintro e w12 ⟨rfl, hB⟩; have G12 := Lib.hid hB; clear hB)
                | (go_at_call 23; (with_reducible refine (C1.out _ G12.out).mono ?_); rintro e w13 ⟨rfl, hB⟩; have G13 := Lib.hid hB; clear hB))
              go_roundw
              case rel => exact ⟨i + 1, by omega, by go_num, by rw [HSame.out, ← HSS.out.1], by rw [HSame.out, ← HSS.out.2], G13⟩
              case measure => simp [intOf]; omega
    · have e1 : decide ((i : Int) ≤ (t.size : Int)) = false := by simp; omega
      have e2 : decide (i ≤ t.size) = false := by simp; omega
      go_wp2
      go_ret
      exact ⟨rfl, Below.next H6.out HB.out⟩
end Go.Proofs.Ythgdanbkngnckaa

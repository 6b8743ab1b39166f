/-
  LevTells' walk: up to its first loop.
-/
import Derived.Test.YthgdanbkngnckaaT24
import Derived.Test.YthgdanbkngnckaaT25
import Derived.Deep.CutRange
set_option linter.unusedVariables false
set_option linter.unusedSimpArgs false
namespace Go.Proofs.Ythgdanbkngnckaa
open Go.RowKit Go.Shelf Said

theorem ptr_mono : Mono (fun v _ => ∃ p : Nat, v = .pointer (some ⟨p, 0, none⟩)) := fun _ _ _ _ h => h
theorem auto_mono (q : ByteArray) (k b : Nat) : Mono (fun v W => ∃ p : Nat, v = .pointer (some ⟨p, 0, none⟩) ∧ b ≤ p ∧ AutoAt W p q k) := by
  rintro v W W' hb ⟨p, e, h0, h⟩
  exact ⟨p, e, h0, h.below hb⟩
theorem box_mono (b : Nat) : Mono (fun v W => ∃ g : Nat, v = .pointer (some ⟨g, 0, none⟩) ∧ b ≤ g ∧ W.heap[g]? = some (.cells #[.string ⟨#[]⟩, .int .i64 0] 31 (0, 0))) := by
  rintro v W W' hb ⟨g, e, h0, n1⟩
  exact ⟨g, e, h0, by rw [hb.block g (Array.getElem?_eq_some_iff.1 n1).1]; exact n1⟩

/-- A struct's cells are stored in a block's first ones. -/
theorem wpList_store_cells {w : World} {ops : Array Oper} {rest : List Oper} {o : Oper} {a : Act} {Q : Exit → Act → World → Prop} (hgd : o.guard = none) (ty : TypeId) (x y : Operand) (ho : o.op = .store ty x y)
    (g : Nat) (hx : a.eval x = .pointer (some ⟨g, 0, none⟩)) (t : TypeId) (cells cur : Array Value) (hy : a.eval y = .agg cells) (hg : w.heap[g]? = some (.cells cur t (0, 0))) (hi : (Try.prog.info? ty).map (·.size) = some cells.size) (hle : cells.size ≤ cur.size) (h1 : ∀ v ∈ cells.toList, v.oneCell' = true)
    (h : ∀ w', w.grownBy w' (some g) → w'.heap[g]? = some (.cells (cells.toList ++ cur.toList.drop cells.size).toArray t (0, 0)) → w'.heap.size = w.heap.size → wpList Try.prog ops Q rest (a.put o.dst undef) w') : wpList Try.prog ops Q (o :: rest) a w := by
  refine wpList_plain hgd fun K' hK' => ?_
  have hz : (sizeOf ty).run Try.prog w = .ok cells.size w := by
    cases hq : Try.prog.info? ty with
    | none => simp [hq] at hi
    | some i =>
      have hs : i.size = cells.size := by simpa [hq] using hi
      simp [sizeOf, typeInfo, hq, hs, Sem.run_bind]
  have hs := run_storeCells_at (P := Try.prog) g 0 t cells.toList 0 cur w hg (by simpa using hle) h1
  have hrun : (storeVar ty ⟨g, 0, none⟩ (.agg cells)).run Try.prog w = .ok () (w.setRow g (cells.toList ++ cur.toList.drop cells.size).toArray) := by
    unfold storeVar
    simp only [Sem.run_bind, hz, Result.andThen_ok]
    rw [if_neg (by simp [Value.cells])]
    simpa [Value.cells] using hs
  unfold Oper.wp
  simp [execOp, ho, hx, hy, Instr.storeAt, Instr.sureAddr, hrun, Result.andThen]
  exact hK' _ _ (h _ ⟨rfl, rfl, rfl, by simp, fun i _ hn => setRow_other w g i _ (fun e => hn (congrArg some e))⟩ (setRow_heap w g cur _ t _ hg) (by simp))

/-- What a whole struct's store leaves beside it. -/
theorem auto_keep {w w' : World} {p g k : Nat} {q : ByteArray} (h : AutoAt w p q k) (hg : w.heap[g]? = some (.cells #[.string ⟨#[]⟩, .int .i64 0] 31 (0, 0))) (hw : w.grownBy w' (some g)) : AutoAt w' p q k := by
  have hne : p ≠ g := by
    rintro rfl
    have h1 := h.2
    simp [World.cell?, hg] at h1
  have hb : w'.heap[p]? = w.heap[p]? := hw.block p (block_lt_of_cell h.1) (fun e => hne (by injection e))
  refine ⟨?_, ?_⟩
  · have h1 := h.1
    unfold World.cell? at h1 ⊢
    simp only [hb]
    exact h1
  · have h1 := h.2
    unfold World.cell? at h1 ⊢
    simp only [hb]
    exact h1

set_option maxHeartbeats 8000000 in
set_option maxRecDepth 100000 in
theorem levTells_walk (Q Wt raw : ByteArray) (K : Int) (c : UInt8) (w : World) (hK : -128 ≤ K ∧ K ≤ 127) (hraw : raw.size ≤ 140737488355328) :
    Calls Try.prog 3 #[askA Q Wt K, .string raw, .int .u8 (c.toNat : Int)] w fun e w' => e = .returned (.bool true) ∧ Below w.heap.size w w' := by
  obtain ⟨k, hk, hbd⟩ := bound_any K hK
  have QBd := Lib.hid hbd
  have QF : Hid (∀ (s : ByteArray) W, Calls Try.prog 9 #[.string s, .int .i64 60] W fun e w' => e = .returned (.string (fewT s 60)) ∧ Below W.heap.size W w') := Lib.hid fun s W => (few_any s 60 (by omega) W).mono fun e w' h => ⟨h.1, h.2 ▸ Below.refl _ _⟩
  have QF3 : Hid (∀ (s : ByteArray) W, Calls Try.prog 9 #[.string s, .int .i64 300] W fun e w' => e = .returned (.string (fewT s 300)) ∧ Below W.heap.size W w') := Lib.hid fun s W => (few_any s 300 (by omega) W).mono fun e w' h => ⟨h.1, h.2 ▸ Below.refl _ _⟩
  have QF5 : Hid (∀ (s : ByteArray) W, Calls Try.prog 9 #[.string s, .int .i64 50] W fun e w' => e = .returned (.string (fewT s 50)) ∧ Below W.heap.size W w') := Lib.hid fun s W => (few_any s 50 (by omega) W).mono fun e w' h => ⟨h.1, h.2 ▸ Below.refl _ _⟩
  have HK := Lib.hid hk
  have HKK := Lib.hid hK
  have HRaw := Lib.hid hraw
  have kw : IntKind.i64.wrap K = K := IntWalk.i64_in _ (by omega)
  clear hbd hk hK hraw
  unfold askA
  have HB0 := Lib.hid (below_alloc w (.cells #[.string Q, .string Wt, .int .i8 K] 24))
  have HC0 : Hid ((w.alloc (.cells #[.string Q, .string Wt, .int .i8 K] 24)).cell? ⟨w.heap.size, 0, none⟩ = some (.string Q) ∧ (w.alloc (.cells #[.string Q, .string Wt, .int .i8 K] 24)).cell? ⟨w.heap.size, 1, none⟩ = some (.string Wt) ∧ (w.alloc (.cells #[.string Q, .string Wt, .int .i8 K] 24)).cell? ⟨w.heap.size, 2, none⟩ = some (.int .i8 K)) := Lib.hid ⟨by simp [go_sem], by simp [go_sem], by simp [go_sem]⟩
  go_enter Try.func3, Try.ntmps3
  obtain ⟨W0, hW0⟩ : ∃ W0, W0 = w.alloc (.cells #[.string Q, .string Wt, .int .i8 K] 24) := ⟨_, rfl⟩
  rw [← hW0] at HB0 HC0
  have HX : Hid (∀ W, Below W0.heap.size W0 W → W.cell? ⟨w.heap.size, 0, none⟩ = some (.string Q) ∧ W.cell? ⟨w.heap.size, 1, none⟩ = some (.string Wt) ∧ W.cell? ⟨w.heap.size, 2, none⟩ = some (.int .i8 K)) := Lib.hid fun W hb =>
    ⟨by rw [hb.cell (block_lt_of_cell HC0.out.1)]; exact HC0.out.1, by rw [hb.cell (block_lt_of_cell HC0.out.2.1)]; exact HC0.out.2.1, by rw [hb.cell (block_lt_of_cell HC0.out.2.2)]; exact HC0.out.2.2⟩
  go_upto_region 2 with (rw [← hW0]; go_at_call 9; (with_reducible refine (QF3.out Q W0).mono ?_); rintro e w1 ⟨rfl, hB⟩; have H1 := Lib.hid hB; clear hB)
  clear hW0 HC0
  obtain ⟨q3, hq3⟩ : ∃ q, fewT Q 300 = q := ⟨_, rfl⟩
  rw [hq3]
  have HQ3 : Hid (q3.size ≤ 300) := Lib.hid (by rw [← hq3, fewT_size]; omega)
  have QM : Hid (∀ W, Calls Try.prog 11 #[.string q3, .int .i64 K] W fun e w' => e = .returned (.bool (mayB q3 K)) ∧ Below W.heap.size W w') := Lib.hid fun W => (refMay_any q3 K W (by have := HKK.out; omega) (by have := HQ3.out; omega)).mono fun e w' h => ⟨h.1, h.2 ▸ Below.refl _ _⟩
  go_cut [29] from 18 to 29 (fun s29 wx => s29 = .bool false ∧ Hid (Below W0.heap.size W0 wx))
  case first =>
    by_cases hm : mayB q3 K = true
    · have hm3 : q3.size ≤ 255 ∧ 0 ≤ K ∧ K ≤ 3 := by simpa [mayB] using hm
      obtain ⟨j, hj⟩ : ∃ j : Nat, K = (j : Int) := ⟨K.toNat, by omega⟩
      have hj3 : q3.size ≤ 255 ∧ j ≤ 3 := by
        have h : q3.size ≤ 255 ∧ 0 ≤ K ∧ K ≤ 3 := by simpa [mayB] using hm
        omega
      have QN : Hid (∀ W, Calls Try.prog 10 #[.string q3, .int .i64 K] W fun e w' => ∃ v, e = .returned v ∧ (∃ p : Nat, v = .pointer (some ⟨p, 0, none⟩)) ∧ Below W.heap.size W w') := Lib.hid fun W => by
        rw [hj]
        exact (new_any q3 j W hj3.1 hj3.2).mono fun e w' h => ⟨_, h.1, ⟨_, rfl⟩, h.2.2.1⟩
      rw [hm] at QM
      clear hm hm3 hj hj3
      refine Said.region (by kernel_rfl) (by kernel_rfl) (by kernel_rfl) [.is (.string q3), .is (.pointer (some ⟨w.heap.size, 2, none⟩)), .is (.int .i8 K), .is (.int .i64 K), .has (fun v _ => ∃ p : Nat, v = .pointer (some ⟨p, 0, none⟩)), .is (.bool false), .is (.string q3), .is (.pointer (some ⟨w.heap.size, 2, none⟩)), .is (.int .i8 K), .is (.int .i64 K), .is (.bool true), .is (.bool false)] ?_
      simp only [List.toList_toArray]
      iterate 4 (
        refine sq_pure (by rfl) (fun W hb _ => ?_) ?_
        · obtain ⟨y1, y2, y3⟩ := HX.out W (Below.next H1.out hb)
          go_simp
          all_goals first | done | omega
        simp only [Act.put, List.setIfInBounds_toArray, List.set_cons_zero, List.set_cons_succ])
      refine sq_calls (f := 10) (args := #[.string q3, .int .i64 K]) ptr_mono (by rfl) (fun W => by go_simp) (fun W hb _ => QN.out W) (fun v => ?_)
      simp only [Act.put, List.setIfInBounds_toArray, List.set_cons_zero, List.set_cons_succ]
      refine sq_pure (by rfl) (fun W hb hf => ?_) ?_
      · obtain ⟨p, rfl⟩ := hf.1 (by kernel_rfl)
        go_simp
      simp only [Act.put, List.setIfInBounds_toArray, List.set_cons_zero, List.set_cons_succ]
      iterate 4 (
        refine sq_pure (by rfl) (fun W hb _ => ?_) ?_
        · obtain ⟨y1, y2, y3⟩ := HX.out W (Below.next H1.out hb)
          go_simp
          all_goals first | done | omega
        simp only [Act.put, List.setIfInBounds_toArray, List.set_cons_zero, List.set_cons_succ])
      refine sq_call (f := 11) (args := #[.string q3, .int .i64 K]) (by rfl) (fun W => by go_simp) (fun W hb _ => QM.out W) ?_
      simp only [Act.put, List.setIfInBounds_toArray, List.set_cons_zero, List.set_cons_succ]
      refine sq_pure (by rfl) (fun W hb _ => by go_simp) ?_
      simp only [Act.put, List.setIfInBounds_toArray, List.set_cons_zero, List.set_cons_succ]
      refine sq_end (fun w2 hb2 hK2 => ?_)
      have H2 := Lib.hid (Below.next H1.out hb2)
      clear hK2 hb2
      go_wp2_with fail
      go_meet
      exact ⟨rfl, H2⟩
    · have hf : mayB q3 K = false := by simpa using hm
      have QN : Hid (∀ W, Calls Try.prog 10 #[.string q3, .int .i64 K] W fun e w' => e = .returned (.pointer none) ∧ Below W.heap.size W w') := Lib.hid fun W => (new_not q3 K W hf (by have := HKK.out; omega) (by have := HQ3.out; omega)).mono fun e w' h => ⟨h.1, h.2 ▸ Below.refl _ _⟩
      rw [hf] at QM
      clear hm hf
      refine Said.region (by kernel_rfl) (by kernel_rfl) (by kernel_rfl) [.is (.string q3), .is (.pointer (some ⟨w.heap.size, 2, none⟩)), .is (.int .i8 K), .is (.int .i64 K), .is (.pointer none), .is (.bool true), .is (.string q3), .is (.pointer (some ⟨w.heap.size, 2, none⟩)), .is (.int .i8 K), .is (.int .i64 K), .is (.bool false), .is (.bool false)] ?_
      simp only [List.toList_toArray]
      iterate 4 (
        refine sq_pure (by rfl) (fun W hb _ => ?_) ?_
        · obtain ⟨y1, y2, y3⟩ := HX.out W (Below.next H1.out hb)
          go_simp
          all_goals first | done | omega
        simp only [Act.put, List.setIfInBounds_toArray, List.set_cons_zero, List.set_cons_succ])
      refine sq_call (f := 10) (args := #[.string q3, .int .i64 K]) (by rfl) (fun W => by go_simp) (fun W hb _ => QN.out W) ?_
      simp only [Act.put, List.setIfInBounds_toArray, List.set_cons_zero, List.set_cons_succ]
      iterate 5 (
        refine sq_pure (by rfl) (fun W hb _ => ?_) ?_
        · obtain ⟨y1, y2, y3⟩ := HX.out W (Below.next H1.out hb)
          go_simp
          all_goals first | done | omega
        simp only [Act.put, List.setIfInBounds_toArray, List.set_cons_zero, List.set_cons_succ])
      refine sq_call (f := 11) (args := #[.string q3, .int .i64 K]) (by rfl) (fun W => by go_simp) (fun W hb _ => QM.out W) ?_
      simp only [Act.put, List.setIfInBounds_toArray, List.set_cons_zero, List.set_cons_succ]
      refine sq_pure (by rfl) (fun W hb _ => by go_simp) ?_
      simp only [Act.put, List.setIfInBounds_toArray, List.set_cons_zero, List.set_cons_succ]
      refine sq_end (fun w2 hb2 hK2 => ?_)
      have H2 := Lib.hid (Below.next H1.out hb2)
      clear hK2 hb2
      go_wp2_with fail
      go_meet
      exact ⟨rfl, H2⟩
  case rest =>
    obtain ⟨rfl, H2⟩ := hcut
    obtain ⟨q, hq⟩ : ∃ q, fewT q3 60 = q := ⟨_, rfl⟩
    have HQ : Hid (q.size ≤ 60) := Lib.hid (by rw [← hq, fewT_size]; omega)
    go_upto_region 5 with (go_at_call 9; (with_reducible refine (QF.out q3 wc).mono ?_); rintro e w3 ⟨rfl, hB⟩; have H3 := Lib.hid (Below.next H2.out hB); clear hB)
    have HX3 : Hid (∀ W, Below w3.heap.size w3 W → W.cell? ⟨w.heap.size, 0, none⟩ = some (.string Q) ∧ W.cell? ⟨w.heap.size, 1, none⟩ = some (.string Wt) ∧ W.cell? ⟨w.heap.size, 2, none⟩ = some (.int .i8 K)) := Lib.hid fun W hb => HX.out W (Below.next H3.out hb)
    have QN : Hid (∀ W, Below w3.heap.size w3 W → Calls Try.prog 10 #[.string q, .int .i64 (k : Int)] W fun e w' => ∃ v, e = .returned v ∧ (∃ p : Nat, v = .pointer (some ⟨p, 0, none⟩) ∧ w3.heap.size ≤ p ∧ AutoAt w' p q k) ∧ Below W.heap.size W w') := Lib.hid fun W hb => (new_any q k W (by have := HQ.out; omega) HK.out).mono fun e w' h => ⟨_, h.1, ⟨_, rfl, hb.size, h.2.1⟩, h.2.2.1⟩
    clear hq QF3 QM HQ3 HX H1 kw
    refine Said.region_tail (by kernel_rfl) 10 (by kernel_rfl) (by kernel_rfl) (by kernel_rfl) [.is (.string q), .is (.agg #[.string Q, .string Wt, .int .i8 K]), .is (.int .i64 (k : Int)), .has (fun v W => ∃ p : Nat, v = .pointer (some ⟨p, 0, none⟩) ∧ w3.heap.size ≤ p ∧ AutoAt W p q k), .is (.string q), .is (.agg #[.string Q, .string Wt, .int .i8 K]), .is (.int .i64 (k : Int)), .is (.agg #[.string q, .int .i64 (k : Int)]), .has (fun v W => ∃ g : Nat, v = .pointer (some ⟨g, 0, none⟩) ∧ w3.heap.size ≤ g ∧ W.heap[g]? = some (.cells #[.string ⟨#[]⟩, .int .i64 0] 31 (0, 0))), .has (fun v W => ∃ p : Nat, v = .pointer (some ⟨p, 0, none⟩) ∧ w3.heap.size ≤ p ∧ AutoAt W p q k)] ?_
    simp only [List.toList_toArray, List.take_succ_cons, List.take_zero, List.drop_succ_cons, List.drop_zero]
    iterate 2 (
      refine sq_pure (by rfl) (fun W hb _ => ?_) ?_
      · obtain ⟨y1, y2, y3⟩ := HX3.out W hb
        go_simp
        all_goals first | done | omega
      simp only [Act.put, List.setIfInBounds_toArray, List.set_cons_zero, List.set_cons_succ])
    refine sq_call (f := 12) (args := #[.agg #[.string Q, .string Wt, .int .i8 K]]) (by rfl) (fun W => by go_simp) (fun W hb _ => QBd.out Q Wt W) ?_
    simp only [Act.put, List.setIfInBounds_toArray, List.set_cons_zero, List.set_cons_succ]
    refine sq_calls (f := 10) (args := #[.string q, .int .i64 (k : Int)]) (auto_mono q k _) (by rfl) (fun W => by go_simp) (fun W hb _ => QN.out W hb) (fun v => ?_)
    simp only [Act.put, List.setIfInBounds_toArray, List.set_cons_zero, List.set_cons_succ]
    iterate 2 (
      refine sq_pure (by rfl) (fun W hb _ => ?_) ?_
      · obtain ⟨y1, y2, y3⟩ := HX3.out W hb
        go_simp
        all_goals first | done | omega
      simp only [Act.put, List.setIfInBounds_toArray, List.set_cons_zero, List.set_cons_succ])
    refine sq_call (f := 12) (args := #[.agg #[.string Q, .string Wt, .int .i8 K]]) (by rfl) (fun W => by go_simp) (fun W hb _ => QBd.out Q Wt W) ?_
    simp only [Act.put, List.setIfInBounds_toArray, List.set_cons_zero, List.set_cons_succ]
    refine sq_pure (by rfl) (fun W hb _ => by go_simp) ?_
    simp only [Act.put, List.setIfInBounds_toArray, List.set_cons_zero, List.set_cons_succ]
    refine sq_has (box_mono _) (fun W hb _ => step_value (v := .pointer (some ⟨W.heap.size, 0, none⟩)) (W' := W.alloc (.cells #[.string ⟨#[]⟩, .int .i64 0] 31)) (by rfl) (by go_simp) (below_alloc W _) ⟨W.heap.size, rfl, hb.size, heap_alloc_new W _⟩) (fun v9 => ?_)
    simp only [Act.put, List.setIfInBounds_toArray, List.set_cons_zero, List.set_cons_succ]
    refine sq_has (auto_mono q k _) (fun W hb hf => step_value (v := v) (W' := W) (by rfl) (by go_simp) (Below.refl _ _) (hf.2.1 (by kernel_rfl))) (fun v8 => ?_)
    simp only [Act.put, List.setIfInBounds_toArray, List.set_cons_zero, List.set_cons_succ]
    refine sq_end (fun w4 hb4 hK4 => ?_)
    obtain ⟨p, rfl, hp0, hA⟩ := hK4 _ (.head _)
    obtain ⟨g, rfl, hg0, hgc⟩ := hK4 _ (.tail _ (.head _))
    have HA4 := Lib.hid hA
    have HG4 := Lib.hid hg0
    have H4 := Lib.hid hb4
    clear hK4 hb4 hA hp0 hg0
    go_upto_region 6 with (refine wpList_store_cells rfl 31 _ _ rfl g rfl 31 _ _ rfl hgc (by kernel_rfl) (by simp) (by simp [Value.oneCell']; done) ?_; intro w5 g5 h5 z5; have HG5 := Lib.hid g5; have HC5 := Lib.hid h5; clear g5 h5 z5)
    have HA5 := Lib.hid (auto_keep HA4.out hgc HG5.out)
    have H35 : Hid (Below w3.heap.size w3 w5) := Lib.hid (H4.out.grown HG5.out H4.out.size (fun r e => by cases e; exact HG4.out))
    have H5 : Hid (Below w.heap.size w w5) := Lib.hid (Below.next (Below.next HB0.out H3.out) H35.out)
    have HX : Hid (∀ W, Below w5.heap.size w5 W → W.cell? ⟨w.heap.size, 1, none⟩ = some (.string Wt) ∧ W.cell? ⟨g, 0, none⟩ = some (.string q) ∧ W.cell? ⟨g, 1, none⟩ = some (.int .i64 (k : Int))) := Lib.hid fun W hb => by
      have hc := HC5.out
      simp only [List.cons_append, List.nil_append, List.size_toArray, List.length_cons, List.length_nil, Nat.zero_add, Nat.reduceAdd, List.drop_succ_cons, List.drop_zero, List.drop_nil, List.append_nil] at hc
      have h0 : w5.cell? ⟨g, 0, none⟩ = some (.string q) := by simp [World.cell?, hc]
      have h1 : w5.cell? ⟨g, 1, none⟩ = some (.int .i64 (k : Int)) := by simp [World.cell?, hc]
      exact ⟨(HX3.out W (Below.next H35.out hb)).2.1, by rw [hb.cell (block_lt_of_cell h0)]; exact h0, by rw [hb.cell (block_lt_of_cell h1)]; exact h1⟩
    obtain ⟨t, ht⟩ : ∃ t, fewT Wt 50 = t := ⟨_, rfl⟩
    have HT : Hid (t.size ≤ 50) := Lib.hid (by rw [← ht, fewT_size]; omega)
    have QFt : Hid (∀ W, Calls Try.prog 9 #[.string Wt, .int .i64 50] W fun e w' => e = .returned (.string t) ∧ Below W.heap.size W w') := Lib.hid fun W => by rw [← ht]; exact QF5.out Wt W
    have QS : Hid (∀ W, Below w5.heap.size w5 W → Calls Try.prog 13 #[.pointer (some ⟨p, 0, none⟩)] W fun e w' => e = .returned (.string (bin (capL k (rowT q.data.toList (t.data.toList.take 0))))) ∧ Below W.heap.size W w') := Lib.hid fun W hb => (start_st HA5.out hb HK.out (by have := HQ.out; omega)).mono fun e w' h => ⟨h.1.trans (by rw [List.take_zero]; rfl), h.2⟩
    have QRS : Hid (∀ W, Calls Try.prog 14 #[.agg #[.string q, .int .i64 (k : Int)]] W fun e w' => e = .returned (.string (bin (capL k (rowT q.data.toList (t.data.toList.take 0))))) ∧ Below W.heap.size W w') := Lib.hid fun W => (refStart_any q k HK.out W (by have := HQ.out; omega)).mono fun e w' h => ⟨h.1.trans (by rw [List.take_zero]; rfl), h.2⟩
    have QA : Hid (∀ W (s : ByteArray), Below w5.heap.size w5 W → s.size ≤ 100000 → Calls Try.prog 15 #[.pointer (some ⟨p, 0, none⟩), .agg #[.string q, .int .i64 (k : Int)], .string s] W fun e w' => e = .returned (.bool true) ∧ Below W.heap.size W w') := Lib.hid fun W s hb hs => law_state (HA5.out.below hb) HK.out HQ.out hs
    have QT : Hid (∀ W (s : ByteArray) (c : UInt8), Below w5.heap.size w5 W → s.size ≤ 100000 → Calls Try.prog 16 #[.pointer (some ⟨p, 0, none⟩), .string s, .int .u8 (c.toNat : Int)] W fun e w' => e = .returned (.string (StepS q k s c)) ∧ Below W.heap.size W w') := Lib.hid fun W s c hb hs => Step_lev (HA5.out.below hb) HK.out c (by have := HQ.out; omega) (by omega)
    have QRT : Hid (∀ W (s : ByteArray) (c : UInt8), Calls Try.prog 17 #[.agg #[.string q, .int .i64 (k : Int)], .string s, .int .u8 (c.toNat : Int)] W fun e w' => e = .returned (.string (StepS q k s c)) ∧ Below W.heap.size W w') := Lib.hid fun W s c => refStep_any q s k HK.out c W (by have := HQ.out; omega)
    have HSt : Hid (∀ i, (bin (capL k (rowT q.data.toList (t.data.toList.take i)))).size = q.size + 1 ∧ ∀ c, StepS q k (bin (capL k (rowT q.data.toList (t.data.toList.take i)))) c = bin (capL k (rowT q.data.toList (t.data.toList.take i ++ [c])))) := Lib.hid fun i => by
      have hi := row_is q.data.toList (t.data.toList.take i) k
      have hn := nums_of hi HK.out
      refine ⟨by rw [bin_size, hi.1, ba_length], fun c => ?_⟩
      rw [StepS, isS_iff.2 (by rw [hn]; exact hi), hn, stepL_row]
      rfl
    clear ht QF5 QBd QN HX3 HC5 HG5 HA4 HG4 H4 hgc H3 H2 HB0 H35
    have HG0 := Lib.hid (HSt.out 0).1
    obtain ⟨S0, hS0⟩ : ∃ S, bin (capL k (rowT q.data.toList (t.data.toList.take 0))) = S := ⟨_, rfl⟩
    rw [hS0] at QS QRS HG0
    refine Said.region (by kernel_rfl) (by kernel_rfl) (by kernel_rfl) [.is (.pointer (some ⟨p, 0, none⟩)), .is (.bool false), .is (.bool false), .is (.pointer (some ⟨p, 0, none⟩)), .is (.string S0), .is (.agg #[.string q, .int .i64 (k : Int)]), .is (.string S0), .is (.bool false), .is (.bool false)] ?_
    simp only [List.toList_toArray]
    iterate 4 (
      refine sq_pure (by rfl) (fun W hb _ => ?_) ?_
      · obtain ⟨y1, y2, y3⟩ := HX.out W hb
        go_simp
        all_goals first | done | omega
      simp only [Act.put, List.setIfInBounds_toArray, List.set_cons_zero, List.set_cons_succ])
    refine sq_call (f := 13) (args := #[.pointer (some ⟨p, 0, none⟩)]) (by rfl) (fun W => by go_simp) (fun W hb _ => QS.out W hb) ?_
    simp only [Act.put, List.setIfInBounds_toArray, List.set_cons_zero, List.set_cons_succ]
    refine sq_pure (by rfl) (fun W hb _ => ?_) ?_
    · obtain ⟨y1, y2, y3⟩ := HX.out W hb
      go_simp
    simp only [Act.put, List.setIfInBounds_toArray, List.set_cons_zero, List.set_cons_succ]
    refine sq_call (f := 14) (args := #[.agg #[.string q, .int .i64 (k : Int)]]) (by rfl) (fun W => by go_simp) (fun W hb _ => QRS.out W) ?_
    simp only [Act.put, List.setIfInBounds_toArray, List.set_cons_zero, List.set_cons_succ]
    iterate 2 (
      refine sq_pure (by rfl) (fun W hb _ => ?_) ?_
      · obtain ⟨y1, y2, y3⟩ := HX.out W hb
        go_simp
        all_goals first | done | omega
      simp only [Act.put, List.setIfInBounds_toArray, List.set_cons_zero, List.set_cons_succ])
    refine sq_end (fun w6 hb6 hK6 => ?_)
    have H6 := Lib.hid hb6
    clear hK6 hb6
    go_upto_region 8 with fail
    refine Said.region (by kernel_rfl) (by kernel_rfl) (by kernel_rfl) [.is (.agg #[.string q, .int .i64 (k : Int)]), .is (.string S0), .is (.pointer (some ⟨w.heap.size, 1, none⟩)), .is (.string Wt), .is (.string t), .is (.string S0), .is (.string t)] ?_
    simp only [List.toList_toArray]
    refine sq_pure (by rfl) (fun W hb _ => ?_) ?_
    · obtain ⟨y1, y2, y3⟩ := HX.out W (Below.next H6.out hb)
      go_simp
    simp only [Act.put, List.setIfInBounds_toArray, List.set_cons_zero, List.set_cons_succ]
    refine sq_call (f := 14) (args := #[.agg #[.string q, .int .i64 (k : Int)]]) (by rfl) (fun W => by go_simp) (fun W hb _ => QRS.out W) ?_
    simp only [Act.put, List.setIfInBounds_toArray, List.set_cons_zero, List.set_cons_succ]
    iterate 2 (
      refine sq_pure (by rfl) (fun W hb _ => ?_) ?_
      · obtain ⟨y1, y2, y3⟩ := HX.out W (Below.next H6.out hb)
        go_simp
        all_goals first | done | omega
      simp only [Act.put, List.setIfInBounds_toArray, List.set_cons_zero, List.set_cons_succ])
    refine sq_call (f := 9) (args := #[.string Wt, .int .i64 50]) (by rfl) (fun W => by go_simp) (fun W hb _ => QFt.out W) ?_
    simp only [Act.put, List.setIfInBounds_toArray, List.set_cons_zero, List.set_cons_succ]
    iterate 2 (
      refine sq_pure (by rfl) (fun W hb _ => by go_simp) ?_
      simp only [Act.put, List.setIfInBounds_toArray, List.set_cons_zero, List.set_cons_succ])
    refine sq_end (fun w7 hb7 hK7 => ?_)
    have H7 := Lib.hid (Below.next H6.out hb7)
    clear hK7 hb7 H6
    have HS0 := Lib.hid hS0
    clear hS0
    go_wp2_with fail
    have htz := HT.out
    go_loopw [10, 12] (fun s10 s12 wr => ∃ i : Nat, i ≤ t.size ∧ s12 = .int .i64 (i : Int) ∧ s10 = .string (bin (capL k (rowT q.data.toList (t.data.toList.take i)))) ∧ Hid (Below w5.heap.size w5 wr)) (fun _ s12 _ => t.size - (intOf s12).toNat)
    case atStart => exact ⟨0, Nat.zero_le _, rfl, by rw [HS0.out], H7⟩
    case round =>
      obtain ⟨i, hi, rfl, rfl, HB⟩ := hrel
      by_cases hit : i < t.size
      · have f1 : decide ((i : Int) < (t.size : Int)) = true := decide_eq_true (by omega)
        have f2 : decide (i < t.size) = true := decide_eq_true hit
        have il : (i : Int) < (t.size : Int) := by omega
        have htk := take_snoc t i hit
        obtain ⟨y, hy⟩ : ∃ y, t[i] = y := ⟨_, rfl⟩
        have hx : ∀ h : i < t.size, (t[i]'h).toNat = y.toNat := fun _ => by rw [hy]
        rw [hy] at htk
        obtain ⟨hsz, hst⟩ := HSt.out i
        have hst := hst y
        rw [← htk] at hst
        obtain ⟨S, hS⟩ : ∃ S, bin (capL k (rowT q.data.toList (t.data.toList.take i))) = S := ⟨_, rfl⟩
        obtain ⟨S2, hS2⟩ : ∃ S, bin (capL k (rowT q.data.toList (t.data.toList.take (i + 1)))) = S := ⟨_, rfl⟩
        rw [hS] at hst hsz ⊢
        rw [hS2] at hst
        have HS2 := Lib.hid hS2
        have hqz := HQ.out
        have QT1 : Hid (∀ W, Below w5.heap.size w5 W → Calls Try.prog 16 #[.pointer (some ⟨p, 0, none⟩), .string S, .int .u8 (y.toNat : Int)] W fun e w' => e = .returned (.string S2) ∧ Below W.heap.size W w') := Lib.hid fun W hb => by
          have h := QT.out W S y hb (by omega)
          rw [hst] at h
          exact h
        have QRT1 : Hid (∀ W, Calls Try.prog 17 #[.agg #[.string q, .int .i64 (k : Int)], .string S, .int .u8 (y.toNat : Int)] W fun e w' => e = .returned (.string S2) ∧ Below W.heap.size W w') := Lib.hid fun W => by
          have h := QRT.out W S y
          rw [hst] at h
          exact h
        have QA1 : Hid (∀ W, Below w5.heap.size w5 W → Calls Try.prog 15 #[.pointer (some ⟨p, 0, none⟩), .agg #[.string q, .int .i64 (k : Int)], .string S] W fun e w' => e = .returned (.bool true) ∧ Below W.heap.size W w') := Lib.hid fun W hb => QA.out W S hb (by omega)
        obtain ⟨x, hxy⟩ : ∃ x, y.toNat = x := ⟨_, rfl⟩
        have hx256 : x < 256 := by rw [← hxy]; exact y.toNat_lt
        rw [hxy] at hx QT1 QRT1
        clear hst hsz hS hS2 htk hy hit hqz hxy
        have HBB := Lib.hid (fun W (h : Below wr.heap.size wr W) => Below.next HB.out h)
        go_upto_region 12 with fail
        refine Said.region (by kernel_rfl) (by kernel_rfl) (by kernel_rfl) [.is (.pointer (some ⟨p, 0, none⟩)), .is (.agg #[.string q, .int .i64 (k : Int)]), .is (.string S), .is (.bool true), .is (.bool false), .is (.bool false), .is (.pointer (some ⟨p, 0, none⟩)), .is (.string S), .is (.string t), .is (.int .i64 (i : Int)), .is (.int .u8 (x : Int)), .is (.string S2), .is (.agg #[.string q, .int .i64 (k : Int)]), .is (.string S), .is (.string t), .is (.int .i64 (i : Int)), .is (.int .u8 (x : Int)), .is (.string S2), .is (.bool false), .is (.bool false)] ?_
        simp only [List.toList_toArray]
        iterate 3 (
          refine sq_pure (by rfl) (fun W hb _ => ?_) ?_
          · obtain ⟨y1, y2, y3⟩ := HX.out W (HBB.out W hb)
            go_simp
            all_goals first | done | omega
          simp only [Act.put, List.setIfInBounds_toArray, List.set_cons_zero, List.set_cons_succ])
        refine sq_call (f := 15) (args := #[.pointer (some ⟨p, 0, none⟩), .agg #[.string q, .int .i64 (k : Int)], .string S]) (by rfl) (fun W => by go_simp) (fun W hb _ => QA1.out W (HBB.out W hb)) ?_
        simp only [Act.put, List.setIfInBounds_toArray, List.set_cons_zero, List.set_cons_succ]
        iterate 7 (
          refine sq_pure (by rfl) (fun W hb _ => ?_) ?_
          · go_simp
            all_goals first | done | omega
          simp only [Act.put, List.setIfInBounds_toArray, List.set_cons_zero, List.set_cons_succ])
        refine sq_call (f := 16) (args := #[.pointer (some ⟨p, 0, none⟩), .string S, .int .u8 (x : Int)]) (by rfl) (fun W => by go_simp) (fun W hb _ => QT1.out W (HBB.out W hb)) ?_
        simp only [Act.put, List.setIfInBounds_toArray, List.set_cons_zero, List.set_cons_succ]
        iterate 5 (
          refine sq_pure (by rfl) (fun W hb _ => ?_) ?_
          · obtain ⟨y1, y2, y3⟩ := HX.out W (HBB.out W hb)
            go_simp
            all_goals first | done | omega
          simp only [Act.put, List.setIfInBounds_toArray, List.set_cons_zero, List.set_cons_succ])
        refine sq_call (f := 17) (args := #[.agg #[.string q, .int .i64 (k : Int)], .string S, .int .u8 (x : Int)]) (by rfl) (fun W => by go_simp) (fun W hb _ => QRT1.out W) ?_
        simp only [Act.put, List.setIfInBounds_toArray, List.set_cons_zero, List.set_cons_succ]
        iterate 2 (
          refine sq_pure (by rfl) (fun W hb _ => ?_) ?_
          · go_simp
            all_goals first | done | omega
          simp only [Act.put, List.setIfInBounds_toArray, List.set_cons_zero, List.set_cons_succ])
        refine sq_end (fun w8 hb8 hK8 => ?_)
        have H8 := Lib.hid (HBB.out w8 hb8)
        clear hK8 hb8
        go_upto_region 14 with fail
        refine Said.region_tail (by kernel_rfl) 6 (by kernel_rfl) (by kernel_rfl) (by kernel_rfl) [.is (.agg #[.string q, .int .i64 (k : Int)]), .is (.string S), .is (.string t), .is (.int .i64 (i : Int)), .is (.int .u8 (x : Int)), .is (.string S2)] ?_
        simp only [List.toList_toArray, List.take_succ_cons, List.take_zero, List.drop_succ_cons, List.drop_zero]
        iterate 5 (
          refine sq_pure (by rfl) (fun W hb _ => ?_) ?_
          · obtain ⟨y1, y2, y3⟩ := HX.out W (Below.next H8.out hb)
            go_simp
            all_goals first | done | omega
          simp only [Act.put, List.setIfInBounds_toArray, List.set_cons_zero, List.set_cons_succ])
        refine sq_call (f := 17) (args := #[.agg #[.string q, .int .i64 (k : Int)], .string S, .int .u8 (x : Int)]) (by rfl) (fun W => by go_simp) (fun W hb _ => QRT1.out W) ?_
        simp only [Act.put, List.setIfInBounds_toArray, List.set_cons_zero, List.set_cons_succ]
        refine sq_end (fun w9 hb9 hK9 => ?_)
        have H9 := Lib.hid (Below.next H8.out hb9)
        clear hK9 hb9
        go_wp2
        go_roundw
        case rel => exact ⟨i + 1, by omega, by go_num, by rw [HS2.out], H9⟩
        case measure => simp [intOf]; omega
      · have f1 : decide ((i : Int) < (t.size : Int)) = false := decide_eq_false (by omega)
        have f2 : decide (i < t.size) = false := decide_eq_false hit
        obtain ⟨wx, hwx⟩ : ∃ wx, wx = wr := ⟨_, rfl⟩
        subst hwx
        have hall : t.data.toList.take i = t.data.toList := List.take_of_length_le (by rw [ba_length]; omega)
        have hszS := (HSt.out i).1
        rw [hall] at hszS
        obtain ⟨S, hS⟩ : ∃ S, bin (capL k (rowT q.data.toList t.data.toList)) = S := ⟨_, rfl⟩
        have hS' : bin (capL k (rowT q.data.toList (t.data.toList.take i))) = S := by rw [hall]; exact hS
        rw [hS] at hszS
        rw [hS']
        have HSS := Lib.hid hS
        have HSZ := Lib.hid hszS
        have hqz := HQ.out
        have hlim : ¬ 9223372036854775807 < raw.size + S.size := by have := HRaw.out; omega
        obtain ⟨O, hO⟩ : ∃ O, fewT (raw ++ S) (q.size + 1) = O := ⟨_, rfl⟩
        have hOz : O.size = q.size + 1 := by rw [← hO, fewT_size, ba_size_append]; omega
        have QFO : Hid (∀ W, Calls Try.prog 9 #[.string (raw ++ S), .int .i64 ((q.size : Int) + 1)] W fun e w' => e = .returned (.string O) ∧ W = w') := Lib.hid fun W => by
          have h := few_any (raw ++ S) (q.size + 1) (by omega) W
          rw [hO] at h
          exact h
        have qw : IntKind.i64.wrap ((q.size : Int) + 1) = (q.size : Int) + 1 := IntWalk.i64_in _ (by omega)
        obtain ⟨n, hn⟩ : ∃ n, O.size = n := ⟨_, rfl⟩
        have HN : Hid (n = q.size + 1) := Lib.hid (by omega)
        have HOI := Lib.hid (odd_conv wx O)
        have hcv := Lib.run_convert_string_bytes (P := Try.prog) wx 9 38 5 O Try.underlying9 Try.underlying38 Try.underlying5
        obtain ⟨cp, hcp⟩ : ∃ cp, grownCap wx O.size 0 5 = cp := ⟨_, rfl⟩
        rw [hcp, hn] at hcv
        rw [hn] at HOI
        clear hszS hS hS' hall hit hqz hO hOz hn hcp htz
        have hn61 : n ≤ 61 := by have := HN.out; have := HQ.out; omega
        go_upto_if 97 with (go_at_call 9; (with_reducible refine (QFO.out wx).mono ?_); rintro e w10 ⟨rfl, rfl⟩)
        obtain ⟨b2, hb2⟩ : ∃ b, b = wx.heap.size := ⟨_, rfl⟩
        rw [← hb2] at HOI ⊢
        obtain ⟨w10, hw10⟩ : ∃ W, W = Lib.bytesWorld wx 5 O := ⟨_, rfl⟩
        rw [← hw10] at HOI ⊢
        clear hw10 hcv hb2 QFO hlim qw f1 f2
        go_loopw [14] (fun s14 wr => ∃ j : Nat, j ≤ n ∧ s14 = .int .i64 (j : Int) ∧ ∃ l, Hid (OddI wx b2 n l wr)) (fun s14 _ => n - (intOf s14).toNat)
        case atStart => exact ⟨0, Nat.zero_le _, rfl, _, HOI⟩
        case round =>
          obtain ⟨j, hj, rfl, l, HO⟩ := hrel
          by_cases hjn : j < n
          · have f1 : decide ((j : Int) < (n : Int)) = true := decide_eq_true (by omega)
            have f2 : decide (j < n) = true := decide_eq_true hjn
            have il : (j : Int) < (n : Int) := by omega
            have hsm := HO.out.small j
            obtain ⟨x, hx⟩ : ∃ x, l.getD j 0 = x := ⟨_, rfl⟩
            rw [hx] at hsm
            have hk3 := HK.out
            have k1 : IntKind.i64.wrap ((k : Int) + 3) = (k : Int) + 3 := IntWalk.i64_in _ (by omega)
            have k2 : IntKind.u8.wrap ((k : Int) + 3) = (k : Int) + 3 := IntWalk.u8_in _ (by omega)
            have k3 : ((k : Int) + 3 == 0) = false := by simp; omega
            have k4 : ¬ (k : Int) + 3 = 0 := by omega
            obtain ⟨y, hy⟩ : ∃ y, x % (k + 3) = y := ⟨_, rfl⟩
            have hyx : y < 256 := by rw [← hy]; exact Nat.lt_of_le_of_lt (Nat.mod_le _ _) hsm
            have k5 : (x : Int).tmod ((k : Int) + 3) = (y : Int) := by rw [← hy]; exact (Int.ofNat_tmod x (k + 3)).symm
            have k6 : IntKind.u8.wrap (y : Int) = (y : Int) := IntWalk.u8_in _ (by omega)
            have HX2 : Hid (∀ W, Below wr.heap.size wr W → W.cell? ⟨g, 1, none⟩ = some (.int .i64 (k : Int)) ∧ W.cell? ⟨b2, j, none⟩ = some (.int .u8 (x : Int))) := Lib.hid fun W hb => by
              have hc := (HO.out.cells j hjn).1
              rw [hx] at hc
              exact ⟨(HX.out W (Below.next HB.out (Below.next HO.out.bel hb))).2.2, by rw [hb.cell (block_lt_of_cell hc)]; exact hc⟩
            have HJ := Lib.hid hjn
            have HYX := Lib.hid hyx
            clear hx hy hk3 hjn hyx
            go_upto_region 19 with fail
            refine Said.region_tail (by kernel_rfl) 12 (by kernel_rfl) (by kernel_rfl) (by kernel_rfl) [.is (.slice (some ⟨b2, 0, none⟩) n cp), .is (.int .i64 (j : Int)), .is (.slice (some ⟨b2, 0, none⟩) n cp), .is (.int .i64 (j : Int)), .is (.pointer (some ⟨b2, j, none⟩)), .is (.int .u8 (x : Int)), .is (.pointer (some ⟨g, 1, none⟩)), .is (.int .i64 (k : Int)), .is (.int .i64 ((k : Int) + 3)), .is (.int .u8 ((k : Int) + 3)), .is (.int .u8 (y : Int)), .is (.pointer (some ⟨b2, j, none⟩))] ?_
            simp only [List.toList_toArray, List.take_succ_cons, List.take_zero, List.drop_succ_cons, List.drop_zero]
            iterate 12 (
              refine sq_pure (by rfl) (fun W hb _ => ?_) ?_
              · obtain ⟨y1, y2⟩ := HX2.out W hb
                go_simp
                all_goals first | done | omega
              simp only [Act.put, List.setIfInBounds_toArray, List.set_cons_zero, List.set_cons_succ])
            refine sq_end (fun w11 hb11 hK11 => ?_)
            have HO1 := Lib.hid (HO.out.below hb11)
            obtain ⟨y2, y3⟩ := HO1.out.cells j HJ.out
            have HO2 := Lib.hid (HO1.out.store j y HJ.out HYX.out)
            clear hK11 hb11
            go_wp2
            go_roundw
            case rel => exact ⟨j + 1, by have := HJ.out; omega, by go_num, _, HO2⟩
            case measure => have := HJ.out; simp [intOf]; omega
          · have f1 : decide ((j : Int) < (n : Int)) = false := decide_eq_false (by omega)
            have f2 : decide (j < n) = false := decide_eq_false hjn
            clear hjn
            have H12 := Lib.hid (Below.next HB.out HO.out.bel)
            have QSt : Hid (∀ W, Below w5.heap.size w5 W → Calls Try.prog 13 #[.pointer (some ⟨p, 0, none⟩)] W fun e w' => e = .returned (.string S0) ∧ Below W.heap.size W w') := Lib.hid QS.out
            have QR2 : Hid (∀ W v, Below w5.heap.size w5 W → Strs W v [t.extract 0 (t.size / 2), t.extract (t.size / 2) t.size] → Calls Try.prog 18 #[.pointer (some ⟨p, 0, none⟩), .string S0, v] W fun e w' => e = .returned (.string S) ∧ Below W.heap.size W w') := Lib.hid fun W v hb hv => by
              have hn := nums_of (startL_is q.data.toList k) HK.out
              have hS0 : bin (startL q.data.toList k) = S0 := by rw [← HS0.out, List.take_zero]; rfl
              have hz := HT.out
              have h := read_any (s := bin (startL q.data.toList k)) (HA5.out.below hb) HK.out (by have := HQ.out; omega) (by rw [hn]; exact startL_is _ _) hv (by simp) (by
                intro u hu
                have hu2 : u.data.toList.length ≤ t.size := by
                  rcases List.mem_cons.1 hu with rfl | hu
                  · rw [ba_extract, List.length_take]; simp; omega
                  · rw [List.mem_singleton.1 hu, ba_extract, List.length_take, List.length_drop, ba_length]; omega
                rw [ba_length] at hu2
                omega)
              have hab : allB [t.extract 0 (t.size / 2), t.extract (t.size / 2) t.size] = t.data.toList := by
                simp only [allB, List.flatMap_cons, List.flatMap_nil, List.append_nil]
                rw [ba_extract, ba_extract, List.drop_zero, Nat.sub_zero, List.take_of_length_le (l := t.data.toList.drop (t.size / 2)) (by rw [List.length_drop, ba_length]; omega), List.take_append_drop]
              rw [hn, hab, readL_start, HSS.out, hS0] at h
              exact h
            obtain ⟨O2, hO2⟩ : ∃ O2, bin l = O2 := ⟨_, rfl⟩
            have hO2z : O2.size ≤ 1000 := by rw [← hO2, bin_size, HO.out.len]; omega
            have HCV : Hid (∀ W, Below wr.heap.size wr W → (convert 38 9 (.slice (some ⟨b2, 0, none⟩) n cp)).run Try.prog W = .ok (.string O2) W ∧ (convert 38 32 (.slice (some ⟨b2, 0, none⟩) n cp)).run Try.prog W = .ok (.string O2) W) := Lib.hid fun W hb => by
              rw [← hO2]
              exact ⟨HO.out.str hb (by have := HN.out; omega) cp _ Try.underlying9, HO.out.str hb (by have := HN.out; omega) cp _ Try.underlying32⟩
            obtain ⟨R, hR⟩ : ∃ R, fewT raw 60 = R := ⟨_, rfl⟩
            have hRz : R.size ≤ 60 := by rw [← hR, fewT_size]; omega
            have QFR : Hid (∀ W, Calls Try.prog 9 #[.string raw, .int .i64 60] W fun e w' => e = .returned (.string R) ∧ Below W.heap.size W w') := Lib.hid fun W => by rw [← hR]; exact QF.out raw W
            obtain ⟨X1, hX1⟩ : ∃ X, StepS q k O2 c = X := ⟨_, rfl⟩
            obtain ⟨X2, hX2⟩ : ∃ X, StepS q k R 120 = X := ⟨_, rfl⟩
            have QA1 : Hid (∀ W, Below w5.heap.size w5 W → Calls Try.prog 15 #[.pointer (some ⟨p, 0, none⟩), .agg #[.string q, .int .i64 (k : Int)], .string S] W fun e w' => e = .returned (.bool true) ∧ Below W.heap.size W w') := Lib.hid fun W hb => QA.out W S hb (by have := HSZ.out; have := HQ.out; omega)
            have QA2 : Hid (∀ W, Below w5.heap.size w5 W → Calls Try.prog 15 #[.pointer (some ⟨p, 0, none⟩), .agg #[.string q, .int .i64 (k : Int)], .string O2] W fun e w' => e = .returned (.bool true) ∧ Below W.heap.size W w') := Lib.hid fun W hb => QA.out W O2 hb (by omega)
            have QA3 : Hid (∀ W, Below w5.heap.size w5 W → Calls Try.prog 15 #[.pointer (some ⟨p, 0, none⟩), .agg #[.string q, .int .i64 (k : Int)], .string R] W fun e w' => e = .returned (.bool true) ∧ Below W.heap.size W w') := Lib.hid fun W hb => QA.out W R hb (by omega)
            have QT1 : Hid (∀ W, Below w5.heap.size w5 W → Calls Try.prog 16 #[.pointer (some ⟨p, 0, none⟩), .string O2, .int .u8 (c.toNat : Int)] W fun e w' => e = .returned (.string X1) ∧ Below W.heap.size W w') := Lib.hid fun W hb => by rw [← hX1]; exact QT.out W O2 c hb (by omega)
            have QRT1 : Hid (∀ W, Calls Try.prog 17 #[.agg #[.string q, .int .i64 (k : Int)], .string O2, .int .u8 (c.toNat : Int)] W fun e w' => e = .returned (.string X1) ∧ Below W.heap.size W w') := Lib.hid fun W => by rw [← hX1]; exact QRT.out W O2 c
            have QX : Hid (∀ W v, Below w5.heap.size w5 W → Strs W v [⟨#[120]⟩] → Calls Try.prog 18 #[.pointer (some ⟨p, 0, none⟩), .string R, v] W fun e w' => e = .returned (.string X2) ∧ Below W.heap.size W w') := Lib.hid fun W v hb hv => by rw [← hX2]; exact read_xs (HA5.out.below hb) HK.out (by have := HQ.out; omega) (by omega) hv
            have QRX : Hid (∀ W, Calls Try.prog 19 #[.agg #[.string q, .int .i64 (k : Int)], .string R, .string ⟨#[120]⟩] W fun e w' => e = .returned (.string X2) ∧ Below W.heap.size W w') := Lib.hid fun W => by
              have h := refRead_x q R k HK.out W (by have := HQ.out; omega)
              rw [hX2] at h
              exact h
            have QWo := Lib.hid (fun W => works_any W)
            obtain ⟨h2, hh2⟩ : ∃ h, t.size / 2 = h := ⟨_, rfl⟩
            have d2 : (t.size : Int).tdiv 2 = (h2 : Int) := by rw [← hh2]; exact (Int.ofNat_tdiv t.size 2).symm
            have hle : h2 ≤ t.size := by omega
            have hl25 : h2 ≤ 25 := by have := HT.out; omega
            have wh : IntKind.i64.wrap (h2 : Int) = (h2 : Int) := IntWalk.i64_in _ (by omega)
            have HXW := Lib.hid (fun W (hb : Below w5.heap.size w5 W) => (HX.out W hb).2)
            have tw : IntKind.i64.wrap (t.size : Int) = (t.size : Int) := IntWalk.i64_in _ (by have := HT.out; omega)
            rw [hh2] at QR2
            clear hO2 hO2z hR hRz hX1 hX2 QS QRS QFt QA QT QRT QF HO HB HOI HSt HSZ HSS HS0 hh2 hn61
            go_upto_region 20 with fail
            refine Said.region (by kernel_rfl) (by kernel_rfl) (by kernel_rfl) [.is (.pointer (some ⟨p, 0, none⟩)), .is (.agg #[.string q, .int .i64 (k : Int)]), .is (.string S), .is (.bool true), .is (.bool true), .is (.pointer (some ⟨p, 0, none⟩)), .is (.pointer (some ⟨p, 0, none⟩)), .is (.string S0), .is (.string t), .is (.string t), .is (.int .i64 (t.size : Int)), .is (.int .i64 (h2 : Int)), .is (.string (t.extract 0 h2)), .is (.string t), .is (.string t), .is (.int .i64 (t.size : Int)), .is (.int .i64 (h2 : Int)), .is (.string (t.extract h2 t.size)), .has (fun v W => Strs W v [t.extract 0 h2, t.extract h2 t.size]), .is (.string S), .is (.string S), .is (.bool true), .is (.bool true), .is (.bool true), .is (.pointer (some ⟨p, 0, none⟩)), .is (.agg #[.string q, .int .i64 (k : Int)]), .is (.slice (some ⟨b2, 0, none⟩) n cp), .is (.string O2), .is (.bool true), .is (.bool true), .is (.bool true), .is (.pointer (some ⟨p, 0, none⟩)), .is (.slice (some ⟨b2, 0, none⟩) n cp), .is (.string O2), .is (.int .u8 (c.toNat : Int)), .is (.string X1), .is (.agg #[.string q, .int .i64 (k : Int)]), .is (.slice (some ⟨b2, 0, none⟩) n cp), .is (.string O2), .is (.int .u8 (c.toNat : Int)), .is (.string X1), .is (.bool true), .is (.bool true), .is (.bool true), .is (.pointer (some ⟨p, 0, none⟩)), .is (.agg #[.string q, .int .i64 (k : Int)]), .is (.string raw), .is (.string R), .is (.bool true), .is (.bool true), .is (.bool true), .is (.pointer (some ⟨p, 0, none⟩)), .is (.string raw), .is (.string R), .has (fun v W => Strs W v [⟨#[120]⟩]), .is (.string X2), .is (.agg #[.string q, .int .i64 (k : Int)]), .is (.string raw), .is (.string R), .is (.string X2), .is (.bool true), .is (.bool true), .is (.bool true), .is (.bool true), .is (.bool true), .is (.bool true)] ?_
            simp only [List.toList_toArray, List.append_eq, List.cons_append, List.nil_append]
            iterate 1 (
              refine sq_pure (by rfl) (fun W hb _ => ?_) ?_
              · go_simp
                all_goals first | done | (trace_state; fail)
              simp only [Act.put, List.setIfInBounds_toArray, List.set_cons_zero, List.set_cons_succ])
            iterate 1 (
              refine sq_pure (by rfl) (fun W hb _ => ?_) ?_
              · obtain ⟨y2, y3⟩ := HXW.out W (Below.next H12.out hb)
                go_simp
                all_goals first | done | (trace_state; fail)
              simp only [Act.put, List.setIfInBounds_toArray, List.set_cons_zero, List.set_cons_succ])
            iterate 1 (
              refine sq_pure (by rfl) (fun W hb _ => ?_) ?_
              · go_simp
                all_goals first | done | (trace_state; fail)
              simp only [Act.put, List.setIfInBounds_toArray, List.set_cons_zero, List.set_cons_succ])
            refine sq_call (f := 15) (args := #[.pointer (some ⟨p, 0, none⟩), .agg #[.string q, .int .i64 (k : Int)], .string S]) (by rfl) (fun W => by go_simp) (fun W hb _ => QA1.out W (Below.next H12.out hb)) ?_
            simp only [Act.put, List.setIfInBounds_toArray, List.set_cons_zero, List.set_cons_succ]
            iterate 3 (
              refine sq_pure (by rfl) (fun W hb _ => ?_) ?_
              · go_simp
                all_goals first | done | (trace_state; fail)
              simp only [Act.put, List.setIfInBounds_toArray, List.set_cons_zero, List.set_cons_succ])
            refine sq_call (f := 13) (args := #[.pointer (some ⟨p, 0, none⟩)]) (by rfl) (fun W => by go_simp) (fun W hb _ => QSt.out W (Below.next H12.out hb)) ?_
            simp only [Act.put, List.setIfInBounds_toArray, List.set_cons_zero, List.set_cons_succ]
            iterate 10 (
              refine sq_pure (by rfl) (fun W hb _ => ?_) ?_
              · go_simp
                all_goals first | done | (trace_state; fail)
              simp only [Act.put, List.setIfInBounds_toArray, List.set_cons_zero, List.set_cons_succ])
            refine sq_has (fun _ _ _ hb h => h.below hb) (fun W hb _ => step_value (v := .slice (some ⟨W.heap.size, 0, none⟩) 2 2) (W' := W.alloc (.cells #[.string (t.extract 0 h2), .string (t.extract h2 t.size)] 9)) (by rfl) (by go_simp) (below_alloc W _) (strs_litL [t.extract 0 h2, t.extract h2 t.size] W)) (fun v => ?_)
            simp only [Act.put, List.setIfInBounds_toArray, List.set_cons_zero, List.set_cons_succ]
            refine sq_call (f := 18) (args := #[.pointer (some ⟨p, 0, none⟩), .string S0, v]) (by rfl) (fun W => by go_simp) (fun W hb hf => QR2.out W v (Below.next H12.out hb) (hf.1 (by kernel_rfl))) ?_
            simp only [Act.put, List.setIfInBounds_toArray, List.set_cons_zero, List.set_cons_succ]
            iterate 5 (
              refine sq_pure (by rfl) (fun W hb _ => ?_) ?_
              · go_simp
                all_goals first | done | (trace_state; fail)
              simp only [Act.put, List.setIfInBounds_toArray, List.set_cons_zero, List.set_cons_succ])
            iterate 1 (
              refine sq_pure (by rfl) (fun W hb _ => ?_) ?_
              · obtain ⟨y2, y3⟩ := HXW.out W (Below.next H12.out hb)
                go_simp
                all_goals first | done | (trace_state; fail)
              simp only [Act.put, List.setIfInBounds_toArray, List.set_cons_zero, List.set_cons_succ])
            iterate 1 (
              refine sq_pure (by rfl) (fun W hb _ => ?_) ?_
              · go_simp
                all_goals first | done | (trace_state; fail)
              simp only [Act.put, List.setIfInBounds_toArray, List.set_cons_zero, List.set_cons_succ])
            iterate 1 (
              refine sq_pure (by rfl) (fun W hb _ => ?_) ?_
              · obtain ⟨c1, c2⟩ := HCV.out W hb
                go_simp
                all_goals first | done | (trace_state; fail)
              simp only [Act.put, List.setIfInBounds_toArray, List.set_cons_zero, List.set_cons_succ])
            refine sq_call (f := 15) (args := #[.pointer (some ⟨p, 0, none⟩), .agg #[.string q, .int .i64 (k : Int)], .string O2]) (by rfl) (fun W => by go_simp) (fun W hb _ => QA2.out W (Below.next H12.out hb)) ?_
            simp only [Act.put, List.setIfInBounds_toArray, List.set_cons_zero, List.set_cons_succ]
            iterate 4 (
              refine sq_pure (by rfl) (fun W hb _ => ?_) ?_
              · go_simp
                all_goals first | done | (trace_state; fail)
              simp only [Act.put, List.setIfInBounds_toArray, List.set_cons_zero, List.set_cons_succ])
            iterate 1 (
              refine sq_pure (by rfl) (fun W hb _ => ?_) ?_
              · obtain ⟨c1, c2⟩ := HCV.out W hb
                go_simp
                all_goals first | done | (trace_state; fail)
              simp only [Act.put, List.setIfInBounds_toArray, List.set_cons_zero, List.set_cons_succ])
            iterate 1 (
              refine sq_pure (by rfl) (fun W hb _ => ?_) ?_
              · go_simp
                all_goals first | done | (trace_state; fail)
              simp only [Act.put, List.setIfInBounds_toArray, List.set_cons_zero, List.set_cons_succ])
            refine sq_call (f := 16) (args := #[.pointer (some ⟨p, 0, none⟩), .string O2, .int .u8 (c.toNat : Int)]) (by rfl) (fun W => by go_simp) (fun W hb _ => QT1.out W (Below.next H12.out hb)) ?_
            simp only [Act.put, List.setIfInBounds_toArray, List.set_cons_zero, List.set_cons_succ]
            iterate 1 (
              refine sq_pure (by rfl) (fun W hb _ => ?_) ?_
              · obtain ⟨y2, y3⟩ := HXW.out W (Below.next H12.out hb)
                go_simp
                all_goals first | done | (trace_state; fail)
              simp only [Act.put, List.setIfInBounds_toArray, List.set_cons_zero, List.set_cons_succ])
            iterate 1 (
              refine sq_pure (by rfl) (fun W hb _ => ?_) ?_
              · go_simp
                all_goals first | done | (trace_state; fail)
              simp only [Act.put, List.setIfInBounds_toArray, List.set_cons_zero, List.set_cons_succ])
            iterate 1 (
              refine sq_pure (by rfl) (fun W hb _ => ?_) ?_
              · obtain ⟨c1, c2⟩ := HCV.out W hb
                go_simp
                all_goals first | done | (trace_state; fail)
              simp only [Act.put, List.setIfInBounds_toArray, List.set_cons_zero, List.set_cons_succ])
            iterate 1 (
              refine sq_pure (by rfl) (fun W hb _ => ?_) ?_
              · go_simp
                all_goals first | done | (trace_state; fail)
              simp only [Act.put, List.setIfInBounds_toArray, List.set_cons_zero, List.set_cons_succ])
            refine sq_call (f := 17) (args := #[.agg #[.string q, .int .i64 (k : Int)], .string O2, .int .u8 (c.toNat : Int)]) (by rfl) (fun W => by go_simp) (fun W hb _ => QRT1.out W) ?_
            simp only [Act.put, List.setIfInBounds_toArray, List.set_cons_zero, List.set_cons_succ]
            iterate 4 (
              refine sq_pure (by rfl) (fun W hb _ => ?_) ?_
              · go_simp
                all_goals first | done | (trace_state; fail)
              simp only [Act.put, List.setIfInBounds_toArray, List.set_cons_zero, List.set_cons_succ])
            iterate 1 (
              refine sq_pure (by rfl) (fun W hb _ => ?_) ?_
              · obtain ⟨y2, y3⟩ := HXW.out W (Below.next H12.out hb)
                go_simp
                all_goals first | done | (trace_state; fail)
              simp only [Act.put, List.setIfInBounds_toArray, List.set_cons_zero, List.set_cons_succ])
            iterate 1 (
              refine sq_pure (by rfl) (fun W hb _ => ?_) ?_
              · go_simp
                all_goals first | done | (trace_state; fail)
              simp only [Act.put, List.setIfInBounds_toArray, List.set_cons_zero, List.set_cons_succ])
            refine sq_call (f := 9) (args := #[.string raw, .int .i64 60]) (by rfl) (fun W => by go_simp) (fun W hb _ => QFR.out W) ?_
            simp only [Act.put, List.setIfInBounds_toArray, List.set_cons_zero, List.set_cons_succ]
            refine sq_call (f := 15) (args := #[.pointer (some ⟨p, 0, none⟩), .agg #[.string q, .int .i64 (k : Int)], .string R]) (by rfl) (fun W => by go_simp) (fun W hb _ => QA3.out W (Below.next H12.out hb)) ?_
            simp only [Act.put, List.setIfInBounds_toArray, List.set_cons_zero, List.set_cons_succ]
            iterate 4 (
              refine sq_pure (by rfl) (fun W hb _ => ?_) ?_
              · go_simp
                all_goals first | done | (trace_state; fail)
              simp only [Act.put, List.setIfInBounds_toArray, List.set_cons_zero, List.set_cons_succ])
            refine sq_call (f := 9) (args := #[.string raw, .int .i64 60]) (by rfl) (fun W => by go_simp) (fun W hb _ => QFR.out W) ?_
            simp only [Act.put, List.setIfInBounds_toArray, List.set_cons_zero, List.set_cons_succ]
            refine sq_has (fun _ _ _ hb h => h.below hb) (fun W hb _ => step_value (v := .slice (some ⟨W.heap.size, 0, none⟩) 1 1) (W' := W.alloc (.cells #[.string ⟨#[120]⟩] 9)) (by rfl) (by go_simp) (below_alloc W _) (strs_litL [⟨#[120]⟩] W)) (fun v => ?_)
            simp only [Act.put, List.setIfInBounds_toArray, List.set_cons_zero, List.set_cons_succ]
            refine sq_call (f := 18) (args := #[.pointer (some ⟨p, 0, none⟩), .string R, v]) (by rfl) (fun W => by go_simp) (fun W hb hf => QX.out W v (Below.next H12.out hb) (hf.1 (by kernel_rfl))) ?_
            simp only [Act.put, List.setIfInBounds_toArray, List.set_cons_zero, List.set_cons_succ]
            iterate 1 (
              refine sq_pure (by rfl) (fun W hb _ => ?_) ?_
              · obtain ⟨y2, y3⟩ := HXW.out W (Below.next H12.out hb)
                go_simp
                all_goals first | done | (trace_state; fail)
              simp only [Act.put, List.setIfInBounds_toArray, List.set_cons_zero, List.set_cons_succ])
            iterate 1 (
              refine sq_pure (by rfl) (fun W hb _ => ?_) ?_
              · go_simp
                all_goals first | done | (trace_state; fail)
              simp only [Act.put, List.setIfInBounds_toArray, List.set_cons_zero, List.set_cons_succ])
            refine sq_call (f := 9) (args := #[.string raw, .int .i64 60]) (by rfl) (fun W => by go_simp) (fun W hb _ => QFR.out W) ?_
            simp only [Act.put, List.setIfInBounds_toArray, List.set_cons_zero, List.set_cons_succ]
            refine sq_call (f := 19) (args := #[.agg #[.string q, .int .i64 (k : Int)], .string R, .string ⟨#[120]⟩]) (by rfl) (fun W => by go_simp) (fun W hb _ => QRX.out W) ?_
            simp only [Act.put, List.setIfInBounds_toArray, List.set_cons_zero, List.set_cons_succ]
            iterate 3 (
              refine sq_pure (by rfl) (fun W hb _ => ?_) ?_
              · go_simp
                all_goals first | done | (trace_state; fail)
              simp only [Act.put, List.setIfInBounds_toArray, List.set_cons_zero, List.set_cons_succ])
            refine sq_call (f := 20) (args := #[]) (by rfl) (fun W => by go_simp) (fun W hb _ => QWo.out W) ?_
            simp only [Act.put, List.setIfInBounds_toArray, List.set_cons_zero, List.set_cons_succ]
            iterate 2 (
              refine sq_pure (by rfl) (fun W hb _ => ?_) ?_
              · go_simp
                all_goals first | done | (trace_state; fail)
              simp only [Act.put, List.setIfInBounds_toArray, List.set_cons_zero, List.set_cons_succ])
            refine sq_end (fun w13 hb13 hK13 => ?_)
            have H13 := Lib.hid (Below.next H5.out (Below.next H12.out hb13))
            clear hK13 hb13
            go_wp2
            go_ret
            exact ⟨rfl, H13.out⟩
end Go.Proofs.Ythgdanbkngnckaa

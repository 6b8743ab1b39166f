/-
  The document's file: what stays of a choice.
-/
import Derived.Test.YtloijbhilfbliaaFRefApp
namespace Go.Proofs.Ytloijbhilfbliaa
open Go.RowKit Go.Shelf

set_option maxHeartbeats 1000000 in
set_option maxRecDepth 100000 in
theorem ref_stays {w : World} {p : Nat} {D : List UInt8} {A : List Do} {J : Nat → Prop} {d q : Int} (h : RefAt w p D A J) (h1 : -9223372036854775808 ≤ d) (h2 : d ≤ 9223372036854775807) (h3 : -9223372036854775808 ≤ q) (h4 : q ≤ 9223372036854775807) :
    Calls Try.prog 42 #[.pointer (some ⟨p, 0, none⟩), .agg #[.int .i64 d, .int .i64 q]] w fun e w' => e = .returned (.string (strO (stays D A d q))) ∧ Below w.heap.size w w' := by
  obtain ⟨av, hp, ha, hj, hj2⟩ := id h.it
  obtain ⟨ad, c, rfl, hc1, hc2, hrow⟩ := acts_cells ha
  have hpl : p < w.heap.size := h.mem p hj
  have HF := Lib.hid h
  have HR := Lib.hid hrow
  have HP : Hid (∀ W, Below w.heap.size w W → W.cell? ⟨p, 0, none⟩ = some (.string (strO D)) ∧ W.cell? ⟨p, 1, none⟩ = some (.slice ad A.length c)) := Lib.hid fun W hW => by
    have t := (hW.block p hpl).trans hp
    exact ⟨by rw [cell_of_row _ _ 0 _ _ _ t]; rfl, by rw [cell_of_row _ _ 1 _ _ _ t]; rfl⟩
  obtain ⟨k, hk⟩ : ∃ k, upTo d A.length = k := ⟨_, rfl⟩
  have hkl : k ≤ A.length := by rw [← hk]; exact upTo_le d A.length
  have HK := Lib.hid hk
  obtain ⟨j0, j1⟩ := HP.out w (Below.refl _ w)
  clear h hp ha hrow hj hj2
  go_enter Try.func42, Try.ntmps42
  go_upto_region 2 with fail
  go_quiet (fail)
  rw [show (if 0 < (if (A.length : Int) < d then (A.length : Int) else d) then (if (A.length : Int) < d then (A.length : Int) else d) else 0) = (k : Int) by
    have := hk
    unfold upTo at this
    split <;> split <;> omega]
  generalize (if (A.length : Int) < d then (A.length : Int) else d) = x0
  have hbW : Below w.heap.size w (World.drewN (w.alloc (.cells #[.int .i64 d, .int .i64 q] 64)) nq) := below_drewN' (below_alloc' (Below.refl _ w))
  have bW : (World.drewN (w.alloc (.cells #[.int .i64 d, .int .i64 q] 64)) nq).heap[w.heap.size]? = some (.cells #[.int .i64 d, .int .i64 q] 64 (0, 0)) := heap_alloc_new w _
  generalize World.drewN (w.alloc (.cells #[.int .i64 d, .int .i64 q] 64)) nq = w0 at hbW bW ⊢
  have HBX : Hid (∀ W, Below w0.heap.size w0 W → W.cell? ⟨w.heap.size, 1, none⟩ = some (.int .i64 q)) := Lib.hid fun W hW => by
    rw [cell_of_row _ _ 1 _ _ _ ((hW.block _ (Array.getElem?_eq_some_iff.1 bW).1).trans bW)]; rfl
  clear j0 j1 bW
  go_wp2
  go_loopw [5, 7] (fun s5 s7 wr => ∃ i : Nat, i ≤ k ∧ s7 = .int .i64 i ∧ s5 = .string (strO (reads D (A.take i))) ∧ Below w0.heap.size w0 wr) (fun _ s7 _ => k - (intOf s7).toNat)
  case atStart => exact ⟨0, Nat.zero_le _, rfl, rfl, Below.refl _ w0⟩
  case round =>
    obtain ⟨i, hi, rfl, rfl, hb0⟩ := hrel
    have hb := Below.next hbW hb0
    obtain ⟨j0, j1⟩ := HP.out _ hb
    by_cases hlk : i < k
    · have hlt : i < A.length := by omega
      obtain ⟨b, rfl, hbl, hcs⟩ := HR.out i hlt
      have hc0 := (hb.cell (p := ⟨b, i * 3, none⟩) hbl).trans (hcs 0 (by omega))
      have hc1' := (hb.cell (p := ⟨b, i * 3 + 1, none⟩) hbl).trans (hcs 1 (by omega))
      have hc2' := (hb.cell (p := ⟨b, i * 3 + 2, none⟩) hbl).trans (hcs 2 (by omega))
      have hft := fits_at HF.out.fits i hlt
      have hbk := Nat.le_trans (reads_length D (A.take (i + 1))) (bulk_take D A (i + 1))
      have hsm := HF.out.small
      have hsn : reads D (A.take (i + 1)) = A[i].on (reads D (A.take i)) := by rw [List.take_succ_eq_append_getElem hlt, reads_snoc]
      have q41 := fun W : World => ref_done (w := W) (a := A[i]) hft (by rw [← hsn]; omega)
      simp only [← hsn] at q41
      have Q41 := Lib.hid q41
      clear q41 hft hbk hsn hk
      cases ha : A[i] with
      | app bb =>
        rw [ha] at hc0 hc1' hc2' Q41
        unfold actC at hc0 hc1' hc2' Q41
        simp only [List.getElem?_cons_zero, List.getElem?_cons_succ] at hc0 hc1' hc2' Q41
        clear ha
        go_wp2_with (go_at_call 41; (with_reducible refine (Q41.out _).mono ?_); rintro e w1 ⟨rfl, b1⟩; have HB1 := Lib.hid (Below.next hb0 b1); clear b1)
        exact ⟨⟨i + 1, by omega, by go_num, rfl, HB1.out⟩, by simp [intOf]; omega⟩
      | cut n =>
        rw [ha] at hc0 hc1' hc2' Q41
        unfold actC at hc0 hc1' hc2' Q41
        simp only [List.getElem?_cons_zero, List.getElem?_cons_succ] at hc0 hc1' hc2' Q41
        clear ha
        go_wp2_with (go_at_call 41; (with_reducible refine (Q41.out _).mono ?_); rintro e w1 ⟨rfl, b1⟩; have HB1 := Lib.hid (Below.next hb0 b1); clear b1)
        exact ⟨⟨i + 1, by omega, by go_num, rfl, HB1.out⟩, by simp [intOf]; omega⟩
    · obtain rfl : i = k := by omega
      have HB := Lib.hid hb
      have hbx := HBX.out _ hb0
      have hst := stays_eq D A d q
      unfold doneT nextT at hst
      rw [hk] at hst
      by_cases hlt : i < A.length
      · obtain ⟨b, rfl, hbl, hcs⟩ := HR.out i hlt
        have hc0 := (hb.cell (p := ⟨b, i * 3, none⟩) hbl).trans (hcs 0 (by omega))
        have hc1' := (hb.cell (p := ⟨b, i * 3 + 1, none⟩) hbl).trans (hcs 1 (by omega))
        have hc2' := (hb.cell (p := ⟨b, i * 3 + 2, none⟩) hbl).trans (hcs 2 (by omega))
        have hsm := stays_small HF.out.small d q
        rw [List.drop_eq_getElem_cons hlt, List.head?_cons] at hst
        cases ha : A[i] with
        | cut n =>
          rw [ha] at hc0 hc1' hc2' hst
          unfold actC at hc0 hc1' hc2'
          simp only [List.getElem?_cons_zero, List.getElem?_cons_succ, List.append_nil] at hc0 hc1' hc2' hst
          have HST := Lib.hid hst
          clear hst ha hk hb hb0
          go_wp2
          go_ret
          rw [HST.out]
          exact ⟨rfl, HB.out⟩
        | app bb =>
          rw [ha] at hc0 hc1' hc2' hst
          unfold actC at hc0 hc1' hc2'
          simp only [List.getElem?_cons_zero, List.getElem?_cons_succ] at hc0 hc1' hc2' hst
          obtain ⟨m, hm⟩ : ∃ m, upTo q bb.length = m := ⟨_, rfl⟩
          rw [hm] at hst
          have hmb : m ≤ bb.length := by rw [← hm]; exact upTo_le q bb.length
          obtain ⟨B, hB⟩ : ∃ B, strO bb = B := ⟨_, rfl⟩
          have hBs : B.size = bb.length := by rw [← hB, strO_size]
          obtain ⟨T, hT⟩ : ∃ T, strO (bb.take m) = T := ⟨_, rfl⟩
          have hTs : T.size = (bb.take m).length := by rw [← hT, strO_size]
          have he : B.extract 0 m = T := by rw [← hB, strO_take, hT]
          have e2 : (if 0 < (if (B.size : Int) < q then (B.size : Int) else q) then (if (B.size : Int) < q then (B.size : Int) else q) else 0) = (m : Int) := by
            have := hm
            unfold upTo at this
            split <;> split <;> omega
          have f3 : (m : Int) ≤ (B.size : Int) := by omega
          have f4 : m ≤ B.size := by omega
          have hov : ¬ 9223372036854775807 < (strO (reads D (A.take i))).size + T.size := by
            rw [strO_size, hTs]
            rw [hst, List.length_append] at hsm
            omega
          have HST : Hid (strO (stays D A d q) = strO (reads D (A.take i)) ++ T) := Lib.hid (by rw [hst, ← strO_join, hT])
          rw [hB] at hc2'
          clear hst ha hk hb hb0 hm hmb hB hBs hT hTs hsm
          go_wp2
          all_goals
            go_ret
            rw [HST.out]
            exact ⟨rfl, HB.out⟩
      · have HST : Hid (stays D A d q = reads D (A.take i)) := Lib.hid (by rw [hst, List.drop_of_length_le (by omega)]; simp)
        clear hst hk hb hb0
        go_wp2
        go_ret
        rw [HST.out]
        exact ⟨rfl, HB.out⟩

set_option maxHeartbeats 1000000 in
set_option maxRecDepth 100000 in
theorem ref_stay {w : World} {p : Nat} {D : List UInt8} {A : List Do} {J : Nat → Prop} {d q : Int} (h : RefAt w p D A J) (h1 : -9223372036854775808 ≤ d) (h2 : d ≤ 9223372036854775807) (h3 : -9223372036854775808 ≤ q) (h4 : q ≤ 9223372036854775807) :
    Calls Try.prog 32 #[.pointer (some ⟨p, 0, none⟩), .agg #[.int .i64 d, .int .i64 q]] w (RefWent w p (stays D A d q) [] J (.tuple #[])) := by
  obtain ⟨av, hp, ha, hj, hj2⟩ := id h.it
  have hp : Duo w p (.string (strO D)) av := hp
  have hpl := hp.lt
  have Q42 : Hid (∀ W, Below w.heap.size w W → Calls Try.prog 42 #[.pointer (some ⟨p, 0, none⟩), .agg #[.int .i64 d, .int .i64 q]] W fun e w' => e = .returned (.string (strO (stays D A d q))) ∧ Below W.heap.size W w') := Lib.hid fun W hW => ref_stays (h.below hW) h1 h2 h3 h4
  have hS := stays_small h.small d q
  have HE := Lib.hid fun (w1 : World) (hb : Below w.heap.size w w1) => ref_settled h hp hj hb (stays D A d q) hS
  have HP : Hid (∀ W, Below w.heap.size w W → W.cell? ⟨p, 0, none⟩ = some (.string (strO D)) ∧ W.cell? ⟨p, 1, none⟩ = some av ∧ W.frozen? ⟨p, 0, none⟩ = false ∧ W.frozen? ⟨p, 1, none⟩ = false) := Lib.hid fun W hW => ⟨(hp.below hW).at0, (hp.below hW).at1, (hp.below hW).free 0, (hp.below hW).free 1⟩
  have HB0 : Hid (Below w.heap.size w (w.alloc (.cells #[.int .i64 d, .int .i64 q] 64))) := Lib.hid (below_alloc' (Below.refl _ w))
  clear h hp ha hj hj2 hS
  obtain ⟨S, hS⟩ : ∃ S, strO (stays D A d q) = S := ⟨_, rfl⟩
  rw [hS] at Q42 HE
  clear hS
  go_enter Try.func32, Try.ntmps32
  go_wp2_with (go_at_call 42; (with_reducible refine (Q42.out _ HB0.out).mono ?_); rintro e w1 ⟨rfl, hb1⟩; have hb := Below.next HB0.out hb1; obtain ⟨k0, k1, f0, f1⟩ := HP.out _ hb; have HB := Lib.hid hb; clear hb hb1)
  exact bodyPost_end (v := .tuple #[]) (by simp [results, Try.results32, go_sem]) rfl (HE.out _ HB.out)
end Go.Proofs.Ytloijbhilfbliaa

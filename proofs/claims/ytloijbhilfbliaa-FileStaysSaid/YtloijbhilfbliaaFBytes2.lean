/-
  The document's file: its bytes.
-/
import Derived.Test.YtloijbhilfbliaaFRef
namespace Go.Proofs.Ytloijbhilfbliaa
open Go.RowKit Go.Shelf

set_option maxHeartbeats 1000000 in
set_option maxRecDepth 100000 in
theorem ref_bytes {w : World} {p : Nat} {D : List UInt8} {A : List Do} {J : Nat → Prop} (h : RefAt w p D A J) :
    Calls Try.prog 28 #[.pointer (some ⟨p, 0, none⟩)] w fun e w' => e = .returned (.string (strO (reads D A))) ∧ Below w.heap.size w w' := by
  obtain ⟨av, hp, ha, hj, hj2⟩ := id h.it
  obtain ⟨ad, c, rfl, hc1, hc2, hrow⟩ := acts_cells ha
  have hpl : p < w.heap.size := h.mem p hj
  have HF := Lib.hid h
  have HR := Lib.hid hrow
  have HP : Hid (∀ W, Below w.heap.size w W → W.cell? ⟨p, 0, none⟩ = some (.string (strO D)) ∧ W.cell? ⟨p, 1, none⟩ = some (.slice ad A.length c)) := Lib.hid fun W hW => by
    have t := (hW.block p hpl).trans hp
    exact ⟨by rw [cell_of_row _ _ 0 _ _ _ t]; rfl, by rw [cell_of_row _ _ 1 _ _ _ t]; rfl⟩
  obtain ⟨k0, k1⟩ := HP.out w (Below.refl _ w)
  clear h hp ha hrow hj hj2
  go_enter Try.func28, Try.ntmps28
  go_wp2
  go_loopw [3, 4] (fun s3 s4 wr => ∃ k : Nat, k ≤ A.length ∧ s4 = .int .i64 k ∧ s3 = .string (strO (reads D (A.take k))) ∧ Below w.heap.size w wr) (fun _ s4 _ => A.length - (intOf s4).toNat)
  case atStart => exact ⟨0, Nat.zero_le _, rfl, rfl, Below.refl _ w⟩
  case round =>
    obtain ⟨k, hk, rfl, rfl, hb⟩ := hrel
    obtain ⟨j0, j1⟩ := HP.out _ hb
    by_cases hlt : k < A.length
    · obtain ⟨b, rfl, hbl, hcs⟩ := HR.out k hlt
      have hc0 := (hb.cell (p := ⟨b, k * 3, none⟩) hbl).trans (hcs 0 (by omega))
      have hc1' := (hb.cell (p := ⟨b, k * 3 + 1, none⟩) hbl).trans (hcs 1 (by omega))
      have hc2' := (hb.cell (p := ⟨b, k * 3 + 2, none⟩) hbl).trans (hcs 2 (by omega))
      have hft := fits_at HF.out.fits k hlt
      have hbk := Nat.le_trans (reads_length D (A.take (k + 1))) (bulk_take D A (k + 1))
      have hbk0 := Nat.le_trans (reads_length D (A.take k)) (bulk_take D A k)
      have hsm := HF.out.small
      have hsn : reads D (A.take (k + 1)) = A[k].on (reads D (A.take k)) := by rw [List.take_succ_eq_append_getElem hlt, reads_snoc]
      have q41 := fun W : World => ref_done (w := W) (a := A[k]) hft (by rw [← hsn]; omega)
      simp only [← hsn] at q41
      have Q41 := Lib.hid (fun (W : World) (hW : Below w.heap.size w W) => q41 W)
      clear q41 hft hbk hbk0 hsn
      cases ha : A[k] with
      | app bb =>
        rw [ha] at hc0 hc1' hc2' Q41
        unfold actC at hc0 hc1' hc2' Q41
        simp only [List.getElem?_cons_zero, List.getElem?_cons_succ] at hc0 hc1' hc2' Q41
        clear ha
        go_wp2_with (go_at_call 41; (with_reducible refine (Q41.out _ hb).mono ?_); rintro e w1 ⟨rfl, b1⟩; have HB1 := Lib.hid (Below.next hb b1); clear b1)
        exact ⟨⟨k + 1, by omega, by go_num, rfl, HB1.out⟩, by simp [intOf]; omega⟩
      | cut n =>
        rw [ha] at hc0 hc1' hc2' Q41
        unfold actC at hc0 hc1' hc2' Q41
        simp only [List.getElem?_cons_zero, List.getElem?_cons_succ] at hc0 hc1' hc2' Q41
        clear ha
        go_wp2_with (go_at_call 41; (with_reducible refine (Q41.out _ hb).mono ?_); rintro e w1 ⟨rfl, b1⟩; have HB1 := Lib.hid (Below.next hb b1); clear b1)
        exact ⟨⟨k + 1, by omega, by go_num, rfl, HB1.out⟩, by simp [intOf]; omega⟩
    · obtain rfl : k = A.length := by omega
      rw [List.take_length]
      have HB := Lib.hid hb
      go_wp2
      go_ret
      exact ⟨rfl, HB.out⟩
end Go.Proofs.Ytloijbhilfbliaa

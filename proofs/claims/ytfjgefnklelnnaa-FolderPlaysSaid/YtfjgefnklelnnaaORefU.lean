/-
  The document's folder: what survives.
-/
import Derived.Test.YtfjgefnklelnnaaORefC
namespace Go.Proofs.Ytfjgefnklelnnaa
open Go.RowKit Go.Shelf

set_option maxHeartbeats 2000000 in
set_option maxRecDepth 100000 in
theorem refS_survive {w : World} {q : Nat} {S : FS} {J : Nat → Prop} (h : RefS w q S J) (k : Int) (hk1 : -1000000 ≤ k) (hk2 : k ≤ 1000000) (hl : S.weight ≤ 90000) :
    Calls Try.prog 18 #[.pointer (some ⟨q, 0, none⟩), .int .i64 k] w fun e w' => e = .returned (.tuple #[]) ∧ WentR w q J (S.survive k) w' := by
  have Q19 := Lib.hid (refS_pending h)
  have hwl : S.A.length ≤ 90000 ∧ S.n ≤ 90000 := by unfold FS.weight at hl; omega
  obtain ⟨kk, hkk⟩ : ∃ kk, upTo k S.A.length = kk := ⟨_, rfl⟩
  have hkl : kk ≤ S.A.length := by rw [← hkk]; unfold upTo; omega
  have hkki : max 0 (min k (S.A.length : Int)) = (kk : Int) := by rw [← hkk]; unfold upTo; omega
  have hwas : (S.survive k).was = [actsOn S.L0 (S.A.take kk)] := by rw [was_none, hkk]
  obtain ⟨av, vs, h1, h2, h3, h4, h5, h6⟩ := h.it
  have hs := h.some
  obtain ⟨g, c, rfl, hc1, hc2, hlt, hcell⟩ := was_cells h2 h3 hs
  have hwlen := was_length S
  have hn5 := h.small.2.1
  obtain ⟨v, k1, k2, k3⟩ := h6 kk (by omega)
  have kc := hcell kk (by omega) v k1
  obtain ⟨pf, hpf⟩ : ∃ pf, S.A.length = pf := ⟨_, rfl⟩
  rw [hpf] at Q19 hkl hkki hwl hwlen
  have c0 : w.cell? ⟨q, 0, none⟩ = some (.slice (some ⟨g, 0, none⟩) S.was.length c) := by rw [cell_of_row w q 0 _ 59 (0, 0) h1]; rfl
  rw [hwlen] at c0
  have hql : q < w.heap.size := (Array.getElem?_eq_some_iff.1 h1).1
  have f0 : w.frozen? ⟨q, 0, none⟩ = false := by simp [World.frozen?, h1]
  have HP : Hid (∀ W, Below w.heap.size w W → W.cell? ⟨q, 0, none⟩ = some (.slice (some ⟨g, 0, none⟩) (pf + 1) c) ∧ W.frozen? ⟨q, 0, none⟩ = false ∧ W.cell? ⟨g, kk, none⟩ = some v) := Lib.hid fun W hW => ⟨by rw [hW.cell (p := ⟨q, 0, none⟩) hql]; exact c0, by rw [hW.frozen (p := ⟨q, 0, none⟩) hql]; exact f0, by rw [hW.cell (p := ⟨g, kk, none⟩) hlt]; exact kc⟩
  have hr := h.rising kk (by omega)
  have hll := h.small.2.2 kk (by omega)
  have hle : S.was[kk]'(by omega) = actsOn S.L0 (S.A.take kk) := was_at S kk (by omega)
  have hm := h.mem
  obtain ⟨l, hle2⟩ : ∃ l, S.was[kk]'(by omega) = l := ⟨_, rfl⟩
  rw [hle2] at k2 hr hll hle
  obtain ⟨ad, cp, rfl⟩ := row_shape k2
  have FIN : Hid (∀ w1, Below w.heap.size w w1 → WentR w q J (S.survive k) ((w1.alloc (.cells #[.slice ad l.length cp] 64)).setCell ⟨q, 0, none⟩ (.slice (some ⟨w1.heap.size, 0, none⟩) 1 1))) := Lib.hid fun w1 hb => by
    have hz := hb.size
    have hb2 := below_alloc' (o := .cells #[.slice ad l.length cp] 64) hb
    have hn := (MapKept.heap_alloc w1 (.cells #[.slice ad l.length cp] 64)).1
    have hz2 : (w1.alloc (.cells #[.slice ad l.length cp] 64)).heap.size = w1.heap.size + 1 := by simp
    have hq2 := (hb2.block q hql).trans h1
    have hq3 := setCell_heap hq2 0 (.slice (some ⟨w1.heap.size, 0, none⟩) 1 1)
    have hsz := (grown_setCell (w1.alloc (.cells #[.slice ad l.length cp] 64)) q 0 (.slice (some ⟨w1.heap.size, 0, none⟩) 1 1)).size
    have hnq : ∀ u, (Value.slice ad l.length cp).ownBlock = some u → u ≠ q := fun u hu e => by
      subst e
      obtain ⟨cs, hcs⟩ := owns_mem k2 hu
      rw [h1] at hcs
      cases hcs
    refine ⟨fun u => u = q ∨ u = w1.heap.size ∨ (Value.slice ad l.length cp).ownBlock = some u, ?_, fun u hu => ?_, (Kept.below hb2).trans (Kept.grown (grown_setCell _ _ _ _) (M := fun g => g = q) (fun g hg => by cases hg; rfl)) (fun g hg => .inl hg)⟩
    · show RefAt _ q (S.survive k).was S.n _
      rw [hwas, ← hle]
      refine ref_one (v := .slice ad l.length cp) hq3 ((heap_setCell_ne (by omega)).trans hn) (owns_same (owns_same k2 fun u hu => hb2.block u (k2.lt u hu).2) fun u hu => heap_setCell_ne (hnq u hu)) ⟨.inl rfl, .inr (.inl rfl), fun u hu => .inr (.inr hu)⟩ hr hll hn5 fun u hu => ?_
      rcases hu with rfl | rfl | hu
      · omega
      · omega
      · have := (k2.lt u hu).2
        omega
    · rcases hu with rfl | rfl | hu
      · exact .inl h4
      · exact .inr hz
      · exact .inl (k3 u hu)
  clear c0 f0 kc h1 h2 h3 h4 h5 h6 hle hle2 k1 k2 k3 hr hll hm hwas hcell
  go_enter Try.func18, Try.ntmps18
  go_wp2_with (go_at_call 19; (with_reducible refine Q19.out.mono ?_); rintro e w1 ⟨rfl, b1⟩; obtain ⟨c0, f0, kc⟩ := HP.out _ b1; obtain ⟨d0, g0, _⟩ := HP.out _ (below_alloc' (o := .cells #[.slice ad l.length cp] 64) b1); have B1 := Lib.hid b1; clear b1)
  exact bodyPost_end (v := .tuple #[]) (by simp [results, Try.results18, go_sem]) rfl ⟨rfl, FIN.out _ B1.out⟩
end Go.Proofs.Ytfjgefnklelnnaa

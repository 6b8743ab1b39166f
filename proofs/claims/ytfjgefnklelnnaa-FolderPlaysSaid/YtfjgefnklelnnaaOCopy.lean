/-
  A folder of its own, alike.
-/
import Derived.Test.YtfjgefnklelnnaaOSurv
namespace Go.Proofs.Ytfjgefnklelnnaa
open Go.RowKit Go.Shelf

set_option maxHeartbeats 8000000 in
set_option maxRecDepth 100000 in
theorem copy_any {w : World} {p : Nat} {S : FS} {av : Value} {fs : List Value} {M I : Nat → Prop} (h : FolderS w p S av fs M I) (hl : S.weight ≤ 90000) :
    Calls Try.prog 21 #[.pointer (some ⟨p, 0, none⟩)] w fun e w' => ∃ q cv Mc Ic, e = .returned (.pointer (some ⟨q, 0, none⟩)) ∧ FolderS w' q S cv fs Mc Ic ∧ (∀ g, Mc g → w.heap.size ≤ g) ∧ (∀ g, Ic g → I g ∨ cv.ownBlock = some g) ∧ (cv = .slice none 0 0 ∨ cv.ownBlock = av.ownBlock) ∧ capOf cv = fs.length ∧ Below w.heap.size w w' := by
  obtain ⟨L0, A, n⟩ := S
  have h' : FolderIn w p L0 A n av fs M I := h
  obtain ⟨lv, tv, h1, h2, h3, h4, h5, h6, h7⟩ := h'.it
  have hw : L0.length + A.length + n ≤ 90000 := hl
  have hfl := h'.acts.1
  have Q0 : Hid (∀ W, Below w.heap.size w W → Calls Try.prog 45 #[lv] W fun e w' => ∃ v', e = .returned v' ∧ MapIs w' v' L0 ∧ (∀ b, mapOf v' = some b → W.heap.size ≤ b) ∧ Below W.heap.size W w') := Lib.hid fun W hW => clone_any (h2.same fun b hb => hW.block b (h2.lt hb))
  have Q2 : Hid (∀ W, Below w.heap.size w W → Calls Try.prog 45 #[tv] W fun e w' => ∃ v', e = .returned v' ∧ MapIs w' v' (actsOn L0 A) ∧ (∀ b, mapOf v' = some b → W.heap.size ≤ b) ∧ Below W.heap.size W w') := Lib.hid fun W hW => clone_any (h3.same fun b hb => hW.block b (h3.lt hb))
  obtain ⟨l, hll⟩ : ∃ l, fs.length = l := ⟨_, rfl⟩
  have Q1 : Hid (∀ W, Below w.heap.size w W → Calls Try.prog 44 #[av, .int .i64 (l : Int)] W fun e w' => ∃ v', e = .returned v' ∧ (ARow W v' fs ∧ (v' = .slice none 0 0 ∨ v'.ownBlock = av.ownBlock) ∧ capOf v' = l) ∧ W = w') := Lib.hid fun W hW => by
    have hu : upTo (l : Int) fs.length = fs.length := by unfold upTo; omega
    refine (first_any (h'.row.same fun g hg => hW.block g (h'.row.lt hg)) (l : Int) (by omega) (by omega)).mono ?_
    rw [hu, List.take_length]
    rintro e w' ⟨v', rfl, q1, q2, q3, rfl⟩
    exact ⟨v', rfl, ⟨q1, q2, by rw [q3, hll]⟩, rfl⟩
  have HP : Hid (∀ W, Below w.heap.size w W → W.cell? ⟨p, 0, none⟩ = some lv ∧ W.cell? ⟨p, 1, none⟩ = some av ∧ W.cell? ⟨p, 2, none⟩ = some tv ∧ W.cell? ⟨p, 3, none⟩ = some (.int .i64 (n : Int))) := Lib.hid fun W hW => by
    have t : Four W p _ _ _ _ := h1.same (hW.block p h1.lt)
    exact ⟨t.at0, t.at1, t.at2, t.at3⟩
  obtain ⟨ad, c, rfl, hc1, _⟩ := h'.row.shape
  rw [hll] at Q1 HP hc1
  obtain ⟨k0, k1, k2, k3⟩ := HP.out w (Below.refl _ w)
  have HF := Lib.hid h'
  obtain ⟨m0, rfl⟩ := h2.shape
  obtain ⟨m2, rfl⟩ := h3.shape
  clear h h' h1 h2 h3 h4 h5 h6 h7
  go_enter Try.func21, Try.ntmps21
  go_upto_region 3 with fail
  go_region_held3 (fun W => W.cell? ⟨p, 0, none⟩ = some (.map m0) ∧ W.cell? ⟨p, 1, none⟩ = some (.slice ad l c) ∧ W.cell? ⟨p, 2, none⟩ = some (.map m2) ∧ W.cell? ⟨p, 3, none⟩ = some (.int .i64 (n : Int)) ∧ Below w.heap.size w W)
    ((refine (fun hB => ⟨(HP.out _ hB).1, (HP.out _ hB).2.1, (HP.out _ hB).2.2.1, (HP.out _ hB).2.2.2, hB⟩ : Below w.heap.size w _ → _) ?_; repeat (first | with_reducible exact Below.refl _ _ | (with_reducible apply below_drewO) | (with_reducible apply below_alloc') | (with_reducible apply N1) | (with_reducible apply N3))))
    (first
      | (go_at_call 45; (with_reducible refine Calls.mono (Q0.out _ (by repeat (first | with_reducible exact Below.refl _ _ | (with_reducible apply below_drewO) | (with_reducible apply N1) | (with_reducible apply N3)))) ?_); rintro e w1 ⟨v1, rfl, r1, f1, b1⟩; obtain ⟨a1, rfl⟩ := r1.shape; have N1 := fun (u : World) (h : Below u.heap.size u _) => Below.next h b1)
      | (go_at_call 44; (with_reducible refine Calls.mono (Q1.out _ (by repeat (first | with_reducible exact Below.refl _ _ | (with_reducible apply below_drewO) | (with_reducible apply N1) | (with_reducible apply N3)))) ?_); rintro e w2 ⟨v2, rfl, r2, rfl⟩; obtain ⟨ad2, c2, hv2, _, _⟩ := r2.1.shape; rw [hll] at hv2; subst hv2)
      | (go_at_call 45; (with_reducible refine Calls.mono (Q2.out _ (by repeat (first | with_reducible exact Below.refl _ _ | (with_reducible apply below_drewO) | (with_reducible apply N1) | (with_reducible apply N3)))) ?_); rintro e w3 ⟨v3, rfl, r3, f3, b3⟩; obtain ⟨a3, rfl⟩ := r3.shape; have N3 := fun (u : World) (h : Below u.heap.size u _) => Below.next h b3))
  go_wp2
  go_ret
  have h := HF.out
  obtain ⟨q1, q2, q3⟩ := r2
  have hb1 : Below w.heap.size w w1 := Below.next (below_drewO (Below.refl _ w)) b1
  have hb3 : Below w.heap.size w w3 := Below.next hb1 b3
  have hz1 := hb1.size
  have hz3 := b3.size
  obtain ⟨w4, hw4⟩ : ∃ w4, w3.alloc (.cells #[.map a1, .slice ad2 l c2, .map a3, .int .i64 (n : Int)] 56) = w4 := ⟨_, rfl⟩
  have b4 : Below w3.heap.size w3 w4 := by rw [← hw4]; exact below_alloc' (Below.refl _ w3)
  have t4 : Four w4 w3.heap.size (.map a1) (.slice ad2 l c2) (.map a3) (.int .i64 (n : Int)) := by rw [← hw4]; exact heap_alloc_new w3 _
  have hz4 : w4.heap.size = w3.heap.size + 1 := by rw [← hw4]; simp
  rw [hw4]
  have hb4 : Below w.heap.size w w4 := Below.next hb3 b4
  have hrow : ∀ g, (Value.slice ad2 l c2).ownBlock = some g → (Value.slice ad fs.length c).ownBlock = some g := fun g hg => by
    rcases q2 with q2 | q2
    · rw [q2] at hg; cases hg
    · rw [hll, ← q2]; exact hg
  have hsz : w.drew.heap.size = w.heap.size := rfl
  refine ⟨_, .slice ad2 l c2, fun g => g = w3.heap.size ∨ a1 = some g ∨ a3 = some g, fun g => I g ∨ (Value.slice ad2 l c2).ownBlock = some g, rfl, ⟨⟨.map a1, .map a3, t4, r1.same fun g hg => ?_, r3.same fun g hg => b4.block g (r3.lt hg), .inl rfl, fun g hg => .inr (.inl hg), fun g hg => .inr (.inr hg), fun e => ?_⟩, q1.same fun g hg => ?_, ⟨h.acts.1, fun k hk => ?_⟩, fun g hg => .inr ⟨.inr hg, ?_⟩, h.fine, h.small, fun g hg => ?_, fun g hg hm => ?_⟩, fun g hg => ?_, fun g hg => hg, ?_, ?_, hb4⟩
  · exact (b4.block g (by have := r1.lt hg; omega)).trans (b3.block g (r1.lt hg))
  · cases h1' : a1 with
    | none => rfl
    | some g =>
      have k1' := r1.lt (b := g) (by rw [h1']; rfl)
      have k3' := f3 g (by rw [← e, h1']; rfl)
      omega
  · have := q1.lt hg
    exact (b4.block g (by omega)).trans (b3.block g this)
  · obtain ⟨f, y1, y2⟩ := h.acts.2 k hk
    exact ⟨f, y1, y2.same (fun g hg _ => hb4.block g (h.mem g (.inr hg))) (fun g hg => .inl hg)⟩
  · rw [q3, hll]
  · rcases hg with (rfl | hg | hg) | hg | hg
    · omega
    · have := r1.lt (b := g) hg; omega
    · have := r3.lt (b := g) hg; omega
    · have := h.mem g (.inr hg); omega
    · have := q1.lt hg; omega
  · have hgw : g < w.heap.size := by
      rcases hg with hg | hg
      · exact h.mem g (.inr hg)
      · exact h.row.lt (hrow g hg)
    rcases hm with rfl | hm | hm
    · omega
    · have := f1 g hm; omega
    · have := f3 g hm; omega
  · rcases hg with rfl | hg | hg
    · omega
    · have := f1 g hg; omega
    · have := f3 g hg; omega
  · rcases q2 with q2 | q2
    · exact .inl q2
    · exact .inr (by rw [q2, hll])
  · rw [q3, hll]
end Go.Proofs.Ytfjgefnklelnnaa

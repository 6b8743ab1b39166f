/-
  All acts last; a new folder.
-/
import Derived.Test.YtfjgefnklelnnaaORemove
import Derived.Test.YtfjgefnklelnnaaOIter
namespace Go.Proofs.Ytfjgefnklelnnaa
open Go.RowKit Go.Shelf

theorem store_map (w : World) (a : Addr) (m : Option Nat) : (store a (.map m)).run Try.prog w = stored Try.prog w a (.map m) .plain := run_store Try.prog w a _ _ rfl

set_option maxHeartbeats 8000000 in
set_option maxRecDepth 100000 in
theorem sync_walk {w : World} {p : Nat} {lv tv av d : Value} {L0 : Names} {A : List FAct} {fs : List Value} {I : Nat → Prop} (h1 : Four w p lv av tv d) (h2 : MapIs w lv L0) (hr : ARow w av fs) (hA : FActs w fs A I) (hI : ∀ g, I g → g < w.heap.size) (hf : ∀ x ∈ A, x.fine) (hl : L0.length + A.length ≤ 100000) :
    Calls Try.prog 17 #[.pointer (some ⟨p, 0, none⟩)] w fun e w' => e = .returned (.tuple #[]) ∧ ∃ b, Four w' p (.map (some b)) (.slice none 0 0) tv d ∧ NamesAt w' b (actsOn L0 A) ∧ (mapOf lv = some b ∨ mapOf lv = none ∧ w.heap.size ≤ b) ∧ Kept (fun g => g = p ∨ mapOf lv = some g) w w' := by
  have hpl := h1.lt
  have hne : ¬ mapOf lv = some p := fun e => by
    obtain ⟨es, clock, hm⟩ := h2.mem e
    have h := h1
    unfold Four at h
    rw [h] at hm; cases hm
  obtain ⟨ad, c, rfl, hc1, hc2⟩ := hr.shape
  have HB : Hid (∀ W, Below w.heap.size w W → Calls Try.prog 43 #[lv, .slice ad fs.length c] W fun e w' => ∃ b, e = .returned (.map (some b)) ∧ NamesAt w' b (actsOn L0 A) ∧ (mapOf lv = some b ∨ mapOf lv = none ∧ w.heap.size ≤ b) ∧ Four w' p lv (.slice ad fs.length c) tv d ∧ Kept (fun g => mapOf lv = some g) w w') := Lib.hid fun W hW => by
    have hz := hW.size
    have hin : ActsIn W ad A I := fun k hk => by
      obtain ⟨b, o, ha, hb, ⟨cs, T, hc⟩, f', hf1, hf2⟩ := hr.acts hA rfl k hk
      have e1 := hW.block b hb
      refine ⟨b, o, ha, by omega, ⟨cs, T, e1.trans hc⟩, f', ?_, hf2.same (fun g' _ ⟨cs', T', hc'⟩ => hW.block g' (Array.getElem?_eq_some_iff.1 hc').1) (fun _ h => h)⟩
      rw [cell_of_row _ _ _ _ _ _ (e1.trans hc)]
      rw [cell_of_row _ _ _ _ _ _ hc] at hf1
      exact hf1
    refine (behind_any (h2.same fun b hb => hW.block b (h2.lt hb)) hin hA.1.symm (fun g hg => Nat.lt_of_lt_of_le (hI g hg) hz) hf (by rw [hA.1]; omega)).mono ?_
    rintro e w' ⟨b, rfl, k1, k2, k3⟩
    refine ⟨b, rfl, k1, ?_, (h1.same (hW.block p hpl)).same (k3.block p (by omega) hne), (Kept.below hW).trans k3 (fun g hg => .inl hg)⟩
    rcases k2 with k2 | ⟨k2, k4⟩
    · exact .inl k2
    · exact .inr ⟨k2, by omega⟩
  obtain ⟨m, rfl⟩ := h2.shape
  have k0 := h1.at0
  have k1 := h1.at1
  have FIN : Hid (∀ w3 b, NamesAt w3 b (actsOn L0 A) → (mapOf (.map m) = some b ∨ mapOf (.map m) = none ∧ w.heap.size ≤ b) → Four w3 p (.map m) (.slice ad fs.length c) tv d → Kept (fun g => mapOf (.map m) = some g) w w3 → ∀ w4, w4 = (w3.setCell ⟨p, 0, none⟩ (.map (some b))).setCell ⟨p, 1, none⟩ (.slice none 0 0) ∨ w4 = (w3.setCell ⟨p, 1, none⟩ (.slice none 0 0)).setCell ⟨p, 0, none⟩ (.map (some b)) → ∃ b, Four w4 p (.map (some b)) (.slice none 0 0) tv d ∧ NamesAt w4 b (actsOn L0 A) ∧ (mapOf (.map m) = some b ∨ mapOf (.map m) = none ∧ w.heap.size ≤ b) ∧ Kept (fun g => g = p ∨ mapOf (.map m) = some g) w w4) := Lib.hid fun w3 b n1 n2 t3 n3 w4 hw4 => by
    have hbp : b ≠ p := fun e => by
      obtain ⟨es, clock, hm⟩ := n1.mem
      have h := t3
      unfold Four at h
      rw [e, h] at hm; cases hm
    have kk : Kept (fun g => g = p ∨ mapOf (.map m) = some g) w w3 := n3.mono fun g hg => .inl (.inr hg)
    rcases hw4 with rfl | rfl
    · exact ⟨b, (t3.set0 _).set1 _, n1.same ((heap_setCell_ne hbp).trans (heap_setCell_ne hbp)), n2, kk.trans (Kept.grown (grownBy_trans (grown_setCell _ _ _ _) (grown_setCell _ _ _ _)) (M := fun g => g = p) (fun g hg => by cases hg; rfl)) (fun g hg => .inl (.inl hg))⟩
    · exact ⟨b, (t3.set1 _).set0 _, n1.same ((heap_setCell_ne hbp).trans (heap_setCell_ne hbp)), n2, kk.trans (Kept.grown (grownBy_trans (grown_setCell _ _ _ _) (grown_setCell _ _ _ _)) (M := fun g => g = p) (fun g hg => by cases hg; rfl)) (fun g hg => .inl (.inl hg))⟩
  clear h1 h2 hr hA hI hf hc1 hc2 hne
  have hsm := store_map
  go_enter Try.func17, Try.ntmps17
  go_upto_region 1 with fail
  go_region_with (go_at_call 43; (with_reducible refine (HB.out _ (below_drewO (Below.refl _ _))).mono ?_); rintro e w3 ⟨b, rfl, m1, m2, t3, m3⟩; have y0 := t3.at0; have y1 := t3.at1; have f0 := t3.free 0; have f1 := t3.free 1; have HM := Lib.hid (FIN.out w3 b m1 m2 t3 m3); clear m1 m2 m3 t3)
  all_goals
    go_wp2
    first
      | exact bodyPost_end (v := .tuple #[]) (by simp [results, Try.results17, go_sem]) rfl ⟨rfl, HM.out _ (.inl rfl)⟩
      | exact bodyPost_end (v := .tuple #[]) (by simp [results, Try.results17, go_sem]) rfl ⟨rfl, HM.out _ (.inr rfl)⟩
end Go.Proofs.Ytfjgefnklelnnaa

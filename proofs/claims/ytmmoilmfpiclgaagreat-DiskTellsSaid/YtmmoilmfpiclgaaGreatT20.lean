/-
  All acts last; a new folder. What survives; a folder of its own, alike; a new folder. A folder of its own, alike.
-/
import Derived.Test.YtmmoilmfpiclgaaGreatT19
import Derived.Test.YtmmoilmfpiclgaaGreatT11
set_option linter.unusedVariables false
set_option linter.unusedSimpArgs false
namespace Go.Proofs.YtmmoilmfpiclgaaGreat.Fld
open Go.RowKit Go.Shelf
set_option linter.unusedSectionVars false
variable [FoldIn]

theorem store_map (w : World) (a : Addr) (m : Option Nat) : (store a (.map m)).run Tryz.prog w = stored Tryz.prog w a (.map m) .plain := run_store Tryz.prog w a _ _ rfl

set_option maxHeartbeats 8000000 in
set_option maxRecDepth 100000 in
theorem sync_walk {w : World} {p : Nat} {lv tv av d : Value} {L0 : Names} {A : List FAct} {fs : List Value} {I : Nat → Prop} (h1 : Four w p lv av tv d) (h2 : MapIs w lv L0) (hr : ARow w av fs) (hA : FActs w fs A I) (hI : ∀ g, I g → g < w.heap.size) (hf : ∀ x ∈ A, x.fine) (hl : L0.length + A.length ≤ 100000) :
    Calls Tryz.prog 41 #[.pointer (some ⟨p, 0, none⟩)] w fun e w' => e = .returned (.tuple #[]) ∧ ∃ b, Four w' p (.map (some b)) (.slice none 0 0) tv d ∧ NamesAt w' b (actsOn L0 A) ∧ (mapOf lv = some b ∨ mapOf lv = none ∧ w.heap.size ≤ b) ∧ Kept (fun g => g = p ∨ mapOf lv = some g) w w' := by
  have hpl := h1.lt
  have hne : ¬ mapOf lv = some p := fun e => by
    obtain ⟨es, clock, hm⟩ := h2.mem e
    have h := h1
    unfold Four at h
    rw [h] at hm; cases hm
  obtain ⟨ad, c, rfl, hc1, hc2⟩ := hr.shape
  have HB : Hid (∀ W, Below w.heap.size w W → Calls Tryz.prog 96 #[lv, .slice ad fs.length c] W fun e w' => ∃ b, e = .returned (.map (some b)) ∧ NamesAt w' b (actsOn L0 A) ∧ (mapOf lv = some b ∨ mapOf lv = none ∧ w.heap.size ≤ b) ∧ Four w' p lv (.slice ad fs.length c) tv d ∧ Kept (fun g => mapOf lv = some g) w w') := Lib.hid fun W hW => by
    have hz := hW.size
    have hin : ActsIn W ad A I := fun k hk => by
      obtain ⟨b, o, ha, hb, ⟨cs, T, hc⟩, f', hf1, hf2⟩ := hr.acts hA rfl k hk
      have e1 := hW.block b hb
      refine ⟨b, o, ha, by omega, ⟨cs, T, e1.trans hc⟩, f', ?_, hf2.same (fun g' _ ⟨cs', T', hc'⟩ => hW.block g' (Array.getElem?_eq_some_iff.1 hc').1) (fun _ h => h)⟩
      rw [cell_of_row _ _ _ _ _ _ (e1.trans hc)]
      rw [cell_of_row _ _ _ _ _ _ hc] at hf1
      exact hf1
    refine (behind_any (h2.same fun b hb => hW.block b (h2.lt hb)) hin hA.1.symm (fun g hg => Nat.lt_of_lt_of_le (hI g hg) hz) hf (by rw [hA.1]; omega)).mono ?_
    rintro e w' ⟨b, rfl, k1, k2, k3⟩
    refine ⟨b, rfl, k1, ?_, (h1.same (hW.block p hpl)).same (k3.block p (by omega) hne), (Kept.below hW).trans k3 (fun g hg => .inl hg)⟩
    rcases k2 with k2 | ⟨k2, k4⟩
    · exact .inl k2
    · exact .inr ⟨k2, by omega⟩
  obtain ⟨m, rfl⟩ := h2.shape
  have k0 := h1.at0
  have k1 := h1.at1
  have FIN : Hid (∀ w3 b, NamesAt w3 b (actsOn L0 A) → (mapOf (.map m) = some b ∨ mapOf (.map m) = none ∧ w.heap.size ≤ b) → Four w3 p (.map m) (.slice ad fs.length c) tv d → Kept (fun g => mapOf (.map m) = some g) w w3 → ∀ w4, w4 = (w3.setCell ⟨p, 0, none⟩ (.map (some b))).setCell ⟨p, 1, none⟩ (.slice none 0 0) ∨ w4 = (w3.setCell ⟨p, 1, none⟩ (.slice none 0 0)).setCell ⟨p, 0, none⟩ (.map (some b)) → ∃ b, Four w4 p (.map (some b)) (.slice none 0 0) tv d ∧ NamesAt w4 b (actsOn L0 A) ∧ (mapOf (.map m) = some b ∨ mapOf (.map m) = none ∧ w.heap.size ≤ b) ∧ Kept (fun g => g = p ∨ mapOf (.map m) = some g) w w4) := Lib.hid fun w3 b n1 n2 t3 n3 w4 hw4 => by
    have hbp : b ≠ p := fun e => by
      obtain ⟨es, clock, hm⟩ := n1.mem
      have h := t3
      unfold Four at h
      rw [e, h] at hm; cases hm
    have kk : Kept (fun g => g = p ∨ mapOf (.map m) = some g) w w3 := n3.mono fun g hg => .inl (.inr hg)
    rcases hw4 with rfl | rfl
    · exact ⟨b, (t3.set0 _).set1 _, n1.same ((heap_setCell_ne hbp).trans (heap_setCell_ne hbp)), n2, kk.trans (Kept.grown (grownBy_trans (grown_setCell _ _ _ _) (grown_setCell _ _ _ _)) (M := fun g => g = p) (fun g hg => by cases hg; rfl)) (fun g hg => .inl (.inl hg))⟩
    · exact ⟨b, (t3.set1 _).set0 _, n1.same ((heap_setCell_ne hbp).trans (heap_setCell_ne hbp)), n2, kk.trans (Kept.grown (grownBy_trans (grown_setCell _ _ _ _) (grown_setCell _ _ _ _)) (M := fun g => g = p) (fun g hg => by cases hg; rfl)) (fun g hg => .inl (.inl hg))⟩
  clear h1 h2 hr hA hI hf hc1 hc2 hne
  have hsm := store_map
  go_enter Tryz.func41, Tryz.ntmps41
  go_upto_region 1 with fail
  go_region_with (go_at_call 96; (with_reducible refine (HB.out _ (below_drewO (Below.refl _ _))).mono ?_); rintro e w3 ⟨b, rfl, m1, m2, t3, m3⟩; have y0 := t3.at0; have y1 := t3.at1; have f0 := t3.free 0; have f1 := t3.free 1; have HM := Lib.hid (FIN.out w3 b m1 m2 t3 m3); clear m1 m2 m3 t3)
  all_goals
    go_wp2
    first
      | exact bodyPost_end (v := .tuple #[]) (by simp [results, Tryz.results41, go_sem]) rfl ⟨rfl, HM.out _ (.inl rfl)⟩
      | exact bodyPost_end (v := .tuple #[]) (by simp [results, Tryz.results41, go_sem]) rfl ⟨rfl, HM.out _ (.inr rfl)⟩
end Go.Proofs.YtmmoilmfpiclgaaGreat.Fld
namespace Go.Proofs.YtmmoilmfpiclgaaGreat.Fld
open Go.RowKit Go.Shelf
set_option linter.unusedSectionVars false
variable [FoldIn]

/-- A folder whose acts all last. -/
theorem folder_synced {w w' : World} {p b : Nat} {L0 : Names} {A : List FAct} {n : Nat} {av tv lv : Value} {fs : List Value} {M I : Nat → Prop} {T : Names} (h : FolderIn w p L0 A n av fs M I) (hp : M p) (h5 : ∀ b, mapOf lv = some b → M b) (h6 : ∀ b, mapOf tv = some b → M b ∨ w.heap.size ≤ b) (hl : T.length ≤ 100000)
    (t : Four w' p (.map (some b)) (.slice none 0 0) tv (.int .i64 (n : Int))) (n1 : NamesAt w' b T) (m1 : MapIs w' tv T) (hbt : mapOf tv ≠ some b) (n2 : mapOf lv = some b ∨ w.heap.size ≤ b) (k : Kept M w w') (hrow : ∀ g, av.ownBlock = some g → w'.heap[g]? = w.heap[g]?) :
    WentS w p av fs M I ⟨T, [], n⟩ w' := by
  have hM : ∀ g, OfF p (.map (some b)) tv (.slice none 0 0) g → M g ∨ w.heap.size ≤ g := fun g hg => by
    rcases hg with rfl | hg | hg | hg
    · exact .inl hp
    · cases hg
      rcases n2 with n2 | n2
      · exact .inl (h5 b n2)
      · exact .inr n2
    · exact h6 g hg
    · cases hg
  refine ⟨.slice none 0 0, [], OfF p (.map (some b)) tv (.slice none 0 0), fun _ => False, ⟨⟨.map (some b), tv, t, .inr ⟨b, rfl, n1⟩, m1, .inl rfl, fun g hg => .inr (.inl hg), fun g hg => .inr (.inr (.inl hg)), fun e => absurd e.symm hbt⟩, .inl ⟨rfl, rfl⟩, ⟨rfl, fun k hk => absurd hk (Nat.not_lt_zero _)⟩, (fun g hg => by cases hg), (fun x hx => by cases hx), ⟨by simpa using hl, h.small.2⟩, ?_, fun _ h => h.elim⟩, hM, fun _ h => h.elim, k, ?_⟩
  · intro g hg
    rcases hg with hg | hg
    · rcases hg with rfl | hg | hg | hg
      · exact t.lt
      · cases hg; exact n1.lt
      · exact m1.lt hg
      · cases hg
    · exact hg.elim
  · intro g m hg hm
    refine ⟨(h.row.cut hg hm).same fun g' hg' => ?_, fun e => by cases e⟩
    cases hg'
    exact hrow g hg

theorem sync_any {w : World} {p : Nat} {S : FS} {av : Value} {fs : List Value} {M I : Nat → Prop} (h : FolderS w p S av fs M I) (hl : S.weight ≤ 90000) :
    Calls Tryz.prog 41 #[.pointer (some ⟨p, 0, none⟩)] w fun e w' => e = .returned (.tuple #[]) ∧ WentS w p av fs M I S.sync w' := by
  obtain ⟨L0, A, n⟩ := S
  have h' : FolderIn w p L0 A n av fs M I := h
  obtain ⟨lv, tv, h1, h2, h3, h4, h5, h6, h7⟩ := h'.it
  have hw : L0.length + A.length + n ≤ 90000 := hl
  refine (sync_walk h1 h2 h'.row h'.acts (fun g hg => h'.mem g (.inr hg)) h'.fine h'.small.1).mono ?_
  rintro e w' ⟨rfl, b, t, n1, n2, k⟩
  have nm : ∀ g, (∃ cs T, w.heap[g]? = some (.cells cs T (0, 0))) → ¬ mapOf lv = some g := fun g ⟨cs, T, hc⟩ e => by
    obtain ⟨es, clock, hm⟩ := h2.mem e
    rw [hm] at hc; cases hc
  have hth : ∀ g, mapOf tv = some g → g ≠ p ∧ ¬ mapOf lv = some g := fun g hg => by
    obtain ⟨es, clock, hm⟩ := h3.mem hg
    refine ⟨fun e => (by unfold Four at h1; rw [e, h1] at hm; cases hm), fun e => ?_⟩
    have := h7 (e.trans hg.symm)
    rw [e] at this; cases this
  refine ⟨rfl, folder_synced h' h4 h5 (fun g hg => .inl (h6 g hg)) (by have := actsOn_length L0 A; show (actsOn L0 A).length ≤ _; omega) t n1 (h3.same fun g hg => k.block g (h3.lt hg) (fun e => ?_)) (fun e => ?_) ?_ (k.mono fun g hg => ?_) (fun g hg => ?_)⟩
  · rcases e with e | e
    · exact (hth g hg).1 e
    · exact (hth g hg).2 e
  · rcases n2 with n2 | ⟨_, n2⟩
    · exact (hth b e).2 n2
    · have := h3.lt e; omega
  · rcases n2 with n2 | ⟨_, n2⟩
    · exact .inl n2
    · exact .inr n2
  · rcases hg with rfl | hg
    · exact .inl h4
    · exact .inl (h5 g hg)
  · obtain ⟨cs, hc⟩ := h'.row.mem hg
    refine k.block g (h'.row.lt hg) fun e => ?_
    rcases e with e | e
    · exact two_types hc h1 (FoldIn.hT.symm) e
    · exact nm g ⟨cs, 163, hc⟩ e

theorem clone_any {w : World} {v : Value} {L : Names} (h : MapIs w v L) :
    Calls Tryz.prog 103 #[v] w fun e w' => ∃ v', e = .returned v' ∧ MapIs w' v' L ∧ (∀ b, mapOf v' = some b → w.heap.size ≤ b) ∧ Below w.heap.size w w' := by
  rcases h with ⟨rfl, rfl⟩ | ⟨b, rfl, h⟩
  · refine (AnyW.maps_Clone_nil Tryz.clone103 w).mono ?_
    rintro e w' ⟨rfl, rfl⟩
    exact ⟨_, rfl, .inl ⟨rfl, rfl⟩, (fun b hb => by cases hb), Below.refl _ _⟩
  · refine (AnyW.maps_Clone_owns Tryz.clone103 9 (plainElem Tryz.prog 3) b _ _ w h.1).mono ?_
    rintro e w' ⟨rfl, h1, _, h3⟩
    exact ⟨_, rfl, .inr ⟨_, rfl, h1, h.2⟩, (fun b hb => by cases hb; exact Nat.le_refl _), h3⟩

theorem take_fine {A : List FAct} (h : ∀ x ∈ A, x.fine) (u : Nat) : ∀ x ∈ A.take u, x.fine := fun x hx => h x (List.mem_of_mem_take hx)
theorem acts_take {w : World} {fs : List Value} {A : List FAct} {I : Nat → Prop} (h : FActs w fs A I) (u : Nat) : FActs w (fs.take u) (A.take u) I := by
  refine ⟨by rw [List.length_take, List.length_take, h.1], fun k hk => ?_⟩
  have hk' : k < u ∧ k < A.length := by rw [List.length_take] at hk; omega
  obtain ⟨f, h1, h2⟩ := h.2 k hk'.2
  refine ⟨f, by rw [List.getElem?_take, if_pos hk'.1]; exact h1, ?_⟩
  rw [List.getElem_take]
  exact h2

set_option maxHeartbeats 8000000 in
set_option maxRecDepth 100000 in
theorem survive_any {w : World} {p : Nat} {S : FS} {av : Value} {fs : List Value} {M I : Nat → Prop} (h : FolderS w p S av fs M I) (k : Int) (hk : -1000000 ≤ k ∧ k ≤ 1000000) (hl : S.weight ≤ 90000) :
    Calls Tryz.prog 56 #[.pointer (some ⟨p, 0, none⟩), .int .i64 k] w fun e w' => e = .returned (.tuple #[]) ∧ WentS w p av fs M I (S.survive k) w' := by
  obtain ⟨L0, A, n⟩ := S
  have h' : FolderIn w p L0 A n av fs M I := h
  obtain ⟨lv, tv, h1, h2, h3, h4, h5, h6, h7⟩ := h'.it
  have hw : L0.length + A.length + n ≤ 90000 := hl
  obtain ⟨u, hu⟩ : ∃ u, upTo k A.length = u := ⟨_, rfl⟩
  have hsv : FS.survive ⟨L0, A, n⟩ k = ⟨actsOn L0 (A.take u), [], n⟩ := by unfold FS.survive; rw [hu]
  rw [hsv]
  have hrow := h'.row
  have Q44 : Hid (Calls Tryz.prog 104 #[av, .int .i64 k] w fun e w' => ∃ v', e = .returned v' ∧ ARow w v' (fs.take u) ∧ (v' = .slice none 0 0 ∨ v'.ownBlock = av.ownBlock) ∧ w = w') := Lib.hid (by
    refine (first_any hrow k hk (by rw [h'.acts.1]; omega)).mono ?_
    rw [h'.acts.1, hu]
    rintro e w' ⟨v', rfl, q1, q2, _, rfl⟩
    exact ⟨v', rfl, q1, q2, rfl⟩)
  have av_ne : ∀ g, av.ownBlock = some g → g ≠ p ∧ ¬ mapOf lv = some g ∧ g < w.heap.size := fun g hg => by
    obtain ⟨cs, hc⟩ := hrow.mem hg
    refine ⟨two_types hc h1 (FoldIn.hT.symm), fun e => ?_, hrow.lt hg⟩
    obtain ⟨es, clock, hm⟩ := h2.mem e
    rw [hm] at hc; cases hc
  have Q17 : Hid (∀ v', ARow w v' (fs.take u) → (v' = .slice none 0 0 ∨ v'.ownBlock = av.ownBlock) → Calls Tryz.prog 41 #[.pointer (some ⟨p, 0, none⟩)] (w.setCell ⟨p, 1, none⟩ v') fun e w' => e = .returned (.tuple #[]) ∧ ∃ b, Four w' p (.map (some b)) (.slice none 0 0) tv (.int .i64 (n : Int)) ∧ NamesAt w' b (actsOn L0 (A.take u)) ∧ (mapOf lv = some b ∨ w.heap.size ≤ b) ∧ Kept (fun g => g = p ∨ mapOf lv = some g) w w') := Lib.hid fun v' hv1 hv2 => by
    have hvn : ∀ g, v'.ownBlock = some g → g ≠ p := fun g hg => by
      rcases hv2 with rfl | hv2
      · cases hg
      · exact (av_ne g (by rw [← hv2]; exact hg)).1
    have nmp : ∀ g, mapOf lv = some g → g ≠ p := fun g hg e => by
      obtain ⟨es, clock, hm⟩ := h2.mem hg
      have hq := h1
      unfold Four at hq
      rw [e, hq] at hm; cases hm
    have hz : (w.setCell ⟨p, 1, none⟩ v').heap.size = w.heap.size := by simp
    refine (sync_walk (h1.set1 v') (h2.same fun g hg => heap_setCell_ne (nmp g hg)) (hv1.same fun g hg => heap_setCell_ne (hvn g hg)) ((acts_take h'.acts u).same (fun g hg _ => heap_setCell_ne fun e => h'.apart g hg (by rw [e]; exact h4)) (fun _ h => h)) (fun g hg => by rw [hz]; exact h'.mem g (.inr hg)) (take_fine h'.fine u) (by rw [List.length_take]; omega)).mono ?_
    rintro e w' ⟨rfl, b, t, n1, n2, kk⟩
    refine ⟨rfl, b, t, n1, ?_, (Kept.grown (grown_setCell _ _ _ _) (fun g hg => by cases hg; exact .inl rfl)).trans kk (fun g hg => .inl hg)⟩
    rcases n2 with n2 | ⟨_, n2⟩
    · exact .inl n2
    · exact .inr (by omega)
  have FIN : Hid (∀ w2 b, Four w2 p (.map (some b)) (.slice none 0 0) tv (.int .i64 (n : Int)) → NamesAt w2 b (actsOn L0 (A.take u)) → (mapOf lv = some b ∨ w.heap.size ≤ b) → Kept (fun g => g = p ∨ mapOf lv = some g) w w2 → ∀ w3 v3, MapIs w3 v3 (actsOn L0 (A.take u)) → (∀ b, mapOf v3 = some b → w2.heap.size ≤ b) → Below w2.heap.size w2 w3 → WentS w p av fs M I ⟨actsOn L0 (A.take u), [], n⟩ (w3.setCell ⟨p, 2, none⟩ v3)) := Lib.hid fun w2 b t n1 n2 kk w3 v3 m3 g3 hb3 => by
    have hlen := actsOn_length L0 (A.take u)
    rw [List.length_take] at hlen
    have hz := kk.size
    have t3 : Four w3 p _ _ _ _ := t.same (hb3.block p t.lt)
    have hbp : b ≠ p := fun e => by
      obtain ⟨es, clock, hm⟩ := n1.mem
      have hq := t
      unfold Four at hq
      rw [e, hq] at hm; cases hm
    have h3p : ∀ g, mapOf v3 = some g → g ≠ p := fun g hg e => by
      have := g3 g hg; have := t.lt; omega
    refine folder_synced (tv := v3) h' h4 h5 (fun g hg => .inr (by have := g3 g hg; omega)) (by omega) (t3.set2 _) (n1.same ((heap_setCell_ne hbp).trans (hb3.block b n1.lt))) (m3.same fun g hg => heap_setCell_ne (h3p g hg)) (fun e => ?_) n2 ?_ (fun g hg => ?_)
    · have := g3 b e; have := n1.lt; omega
    · refine ((kk.mono fun g hg => ?_).trans (Kept.below hb3) (fun g hg => .inl hg)).trans (Kept.grown (grown_setCell _ _ _ _) (fun g hg => by cases hg; exact h4)) (fun g hg => .inl hg)
      rcases hg with rfl | hg
      · exact .inl h4
      · exact .inl (h5 g hg)
    · obtain ⟨q1, q2, q3⟩ := av_ne g hg
      exact (heap_setCell_ne q1).trans ((hb3.block g (by omega)).trans (kk.block g q3 (fun e => by rcases e with e | e <;> contradiction)))
  have k1 := h1.at1
  have f1 := h1.free 1
  obtain ⟨ad, c, rfl, hc1, _⟩ := hrow.shape
  clear h h' h1 h2 h3 h4 h5 h6 h7 hrow hsv av_ne hu
  have hsm := store_map
  obtain ⟨lu, hlu⟩ : ∃ lu, (fs.take u).length = lu := ⟨_, rfl⟩
  have HLU := Lib.hid hlu
  clear hlu
  go_enter Tryz.func56, Tryz.ntmps56
  go_wp2_with (first
    | (go_at_call 104; (with_reducible refine Q44.out.mono ?_); rintro e w1 ⟨v', rfl, q1, q2, rfl⟩; obtain ⟨ad', c', hv', _, _⟩ := q1.shape; rw [HLU.out] at hv'; subst hv'; have Q1 := Lib.hid (And.intro q1 q2); clear q1 q2)
    | (go_at_call 41; (with_reducible refine (Q17.out _ Q1.out.1 Q1.out.2).mono ?_); rintro e w2 ⟨rfl, b, t, n1, n2, kk⟩; have y0 := t.at0; have y2 := t.at2; have f2 := t.free 2; have F2 := Lib.hid (FIN.out w2 b t n1 n2 kk); have hcl := clone_any (.inr ⟨b, rfl, n1⟩ : MapIs w2 (.map (some b)) _); have HCL := Lib.hid hcl; have T2 := Lib.hid t; clear t n1 n2 kk hcl)
    | (go_at_call 103; (with_reducible refine HCL.out.mono ?_); rintro e w3 ⟨v3, rfl, m3, g3, hb3⟩; have y3 := ((T2.out.same (hb3.block p T2.out.lt)).at2); have f3 := ((T2.out.same (hb3.block p T2.out.lt)).free 2); obtain ⟨m', rfl⟩ := m3.shape; have F3 := Lib.hid (F2.out w3 _ m3 g3 hb3); clear m3 g3 hb3))
  exact bodyPost_end (v := .tuple #[]) (by simp [results, Tryz.results56, go_sem]) rfl ⟨rfl, F3.out⟩

end Go.Proofs.YtmmoilmfpiclgaaGreat.Fld
namespace Go.Proofs.YtmmoilmfpiclgaaGreat.Fld
open Go.RowKit Go.Shelf
set_option linter.unusedSectionVars false
/-- A folder that is a block of its own. -/
@[reducible] def alone : FoldIn := ⟨[], 71, by decide⟩

variable [FoldIn]

set_option maxHeartbeats 8000000 in
set_option maxRecDepth 100000 in
theorem copy_any {w : World} {p : Nat} {S : FS} {av : Value} {fs : List Value} {M I : Nat → Prop} (h : FolderS w p S av fs M I) (hl : S.weight ≤ 90000) :
    Calls Tryz.prog 45 #[.pointer (some ⟨p, 0, none⟩)] w fun e w' => ∃ q cv Mc Ic, e = .returned (.pointer (some ⟨q, 0, none⟩)) ∧ @FolderS alone w' q S cv fs Mc Ic ∧ (∀ g, Mc g → w.heap.size ≤ g) ∧ (∀ g, Ic g → I g ∨ cv.ownBlock = some g) ∧ (cv = .slice none 0 0 ∨ cv.ownBlock = av.ownBlock) ∧ capOf cv = fs.length ∧ Below w.heap.size w w' := by
  obtain ⟨L0, A, n⟩ := S
  have h' : FolderIn w p L0 A n av fs M I := h
  obtain ⟨lv, tv, h1, h2, h3, h4, h5, h6, h7⟩ := h'.it
  have hw : L0.length + A.length + n ≤ 90000 := hl
  have hfl := h'.acts.1
  have Q0 : Hid (∀ W, Below w.heap.size w W → Calls Tryz.prog 103 #[lv] W fun e w' => ∃ v', e = .returned v' ∧ MapIs w' v' L0 ∧ (∀ b, mapOf v' = some b → W.heap.size ≤ b) ∧ Below W.heap.size W w') := Lib.hid fun W hW => clone_any (h2.same fun b hb => hW.block b (h2.lt hb))
  have Q2 : Hid (∀ W, Below w.heap.size w W → Calls Tryz.prog 103 #[tv] W fun e w' => ∃ v', e = .returned v' ∧ MapIs w' v' (actsOn L0 A) ∧ (∀ b, mapOf v' = some b → W.heap.size ≤ b) ∧ Below W.heap.size W w') := Lib.hid fun W hW => clone_any (h3.same fun b hb => hW.block b (h3.lt hb))
  obtain ⟨l, hll⟩ : ∃ l, fs.length = l := ⟨_, rfl⟩
  have Q1 : Hid (∀ W, Below w.heap.size w W → Calls Tryz.prog 104 #[av, .int .i64 (l : Int)] W fun e w' => ∃ v', e = .returned v' ∧ (ARow W v' fs ∧ (v' = .slice none 0 0 ∨ v'.ownBlock = av.ownBlock) ∧ capOf v' = l) ∧ W = w') := Lib.hid fun W hW => by
    have hu : upTo (l : Int) fs.length = fs.length := by unfold upTo; omega
    refine (first_any (h'.row.same fun g hg => hW.block g (h'.row.lt hg)) (l : Int) (by omega) (by omega)).mono ?_
    rw [hu, List.take_length]
    rintro e w' ⟨v', rfl, q1, q2, q3, rfl⟩
    exact ⟨v', rfl, ⟨q1, q2, by rw [q3, hll]⟩, rfl⟩
  have HP : Hid (∀ W, Below w.heap.size w W → W.cell? ⟨p, 0, none⟩ = some lv ∧ W.cell? ⟨p, 1, none⟩ = some av ∧ W.cell? ⟨p, 2, none⟩ = some tv ∧ W.cell? ⟨p, 3, none⟩ = some (.int .i64 (n : Int))) := Lib.hid fun W hW => by
    have t : Four W p _ _ _ _ := h1.same (hW.block p h1.lt)
    exact ⟨t.at0, t.at1, t.at2, t.at3⟩
  obtain ⟨ad, c, rfl, hc1, _⟩ := h'.row.shape
  rw [hll] at Q1 HP hc1
  obtain ⟨k0, k1, k2, k3⟩ := HP.out w (Below.refl _ w)
  have HF := Lib.hid h'
  obtain ⟨m0, rfl⟩ := h2.shape
  obtain ⟨m2, rfl⟩ := h3.shape
  clear h h' h1 h2 h3 h4 h5 h6 h7
  go_enter Tryz.func45, Tryz.ntmps45
  go_upto_region 3 with fail
  go_region_held3 (fun W => W.cell? ⟨p, 0, none⟩ = some (.map m0) ∧ W.cell? ⟨p, 1, none⟩ = some (.slice ad l c) ∧ W.cell? ⟨p, 2, none⟩ = some (.map m2) ∧ W.cell? ⟨p, 3, none⟩ = some (.int .i64 (n : Int)) ∧ Below w.heap.size w W)
    ((refine (fun hB => ⟨(HP.out _ hB).1, (HP.out _ hB).2.1, (HP.out _ hB).2.2.1, (HP.out _ hB).2.2.2, hB⟩ : Below w.heap.size w _ → _) ?_; repeat (first | with_reducible exact Below.refl _ _ | (with_reducible apply below_drewO) | (with_reducible apply below_alloc') | (with_reducible apply N1) | (with_reducible apply N3))))
    (first
      | (go_at_call 103; (with_reducible refine Calls.mono (Q0.out _ (by repeat (first | with_reducible exact Below.refl _ _ | (with_reducible apply below_drewO) | (with_reducible apply N1) | (with_reducible apply N3)))) ?_); rintro e w1 ⟨v1, rfl, r1, f1, b1⟩; obtain ⟨a1, rfl⟩ := r1.shape; have N1 := fun (u : World) (h : Below u.heap.size u _) => Below.next h b1)
      | (go_at_call 104; (with_reducible refine Calls.mono (Q1.out _ (by repeat (first | with_reducible exact Below.refl _ _ | (with_reducible apply below_drewO) | (with_reducible apply N1) | (with_reducible apply N3)))) ?_); rintro e w2 ⟨v2, rfl, r2, rfl⟩; obtain ⟨ad2, c2, hv2, _, _⟩ := r2.1.shape; rw [hll] at hv2; subst hv2)
      | (go_at_call 103; (with_reducible refine Calls.mono (Q2.out _ (by repeat (first | with_reducible exact Below.refl _ _ | (with_reducible apply below_drewO) | (with_reducible apply N1) | (with_reducible apply N3)))) ?_); rintro e w3 ⟨v3, rfl, r3, f3, b3⟩; obtain ⟨a3, rfl⟩ := r3.shape; have N3 := fun (u : World) (h : Below u.heap.size u _) => Below.next h b3))
  go_wp2
  go_ret
  have h := HF.out
  obtain ⟨q1, q2, q3⟩ := r2
  have hb1 : Below w.heap.size w w1 := Below.next (below_drewO (Below.refl _ w)) b1
  have hb3 : Below w.heap.size w w3 := Below.next hb1 b3
  have hz1 := hb1.size
  have hz3 := b3.size
  obtain ⟨w4, hw4⟩ : ∃ w4, w3.alloc (.cells #[.map a1, .slice ad2 l c2, .map a3, .int .i64 (n : Int)] 71) = w4 := ⟨_, rfl⟩
  have b4 : Below w3.heap.size w3 w4 := by rw [← hw4]; exact below_alloc' (Below.refl _ w3)
  have t4 : @Four alone w4 w3.heap.size (.map a1) (.slice ad2 l c2) (.map a3) (.int .i64 (n : Int)) := by rw [← hw4]; exact heap_alloc_new w3 _
  have hz4 : w4.heap.size = w3.heap.size + 1 := by rw [← hw4]; simp
  rw [hw4]
  have hb4 : Below w.heap.size w w4 := Below.next hb3 b4
  have hrow : ∀ g, (Value.slice ad2 l c2).ownBlock = some g → (Value.slice ad fs.length c).ownBlock = some g := fun g hg => by
    rcases q2 with q2 | q2
    · rw [q2] at hg; cases hg
    · rw [hll, ← q2]; exact hg
  have hsz : w.drew.heap.size = w.heap.size := rfl
  have h_acts := h.acts
  have h_fine := h.fine
  have h_mem := h.mem
  have h_row := h.row
  have h_small := h.small
  letI : FoldIn := alone
  refine ⟨_, .slice ad2 l c2, fun g => g = w3.heap.size ∨ a1 = some g ∨ a3 = some g, fun g => I g ∨ (Value.slice ad2 l c2).ownBlock = some g, rfl, ⟨⟨.map a1, .map a3, t4, r1.same fun g hg => ?_, r3.same fun g hg => b4.block g (r3.lt hg), .inl rfl, fun g hg => .inr (.inl hg), fun g hg => .inr (.inr hg), fun e => ?_⟩, q1.same fun g hg => ?_, ⟨h_acts.1, fun k hk => ?_⟩, fun g hg => .inr ⟨.inr hg, ?_⟩, h_fine, h_small, fun g hg => ?_, fun g hg hm => ?_⟩, fun g hg => ?_, fun g hg => hg, ?_, ?_, hb4⟩
  · exact (b4.block g (by have := r1.lt hg; omega)).trans (b3.block g (r1.lt hg))
  · cases h1' : a1 with
    | none => rfl
    | some g =>
      have k1' := r1.lt (b := g) (by rw [h1']; rfl)
      have k3' := f3 g (by rw [← e, h1']; rfl)
      omega
  · have := q1.lt hg
    exact (b4.block g (by omega)).trans (b3.block g this)
  · obtain ⟨f, y1, y2⟩ := h_acts.2 k hk
    exact ⟨f, y1, y2.same (fun g hg _ => hb4.block g (h_mem g (.inr hg))) (fun g hg => .inl hg)⟩
  · rw [q3, hll]
  · rcases hg with (rfl | hg | hg) | hg | hg
    · omega
    · have := r1.lt (b := g) hg; omega
    · have := r3.lt (b := g) hg; omega
    · have := h_mem g (.inr hg); omega
    · have := q1.lt hg; omega
  · have hgw : g < w.heap.size := by
      rcases hg with hg | hg
      · exact h_mem g (.inr hg)
      · exact h_row.lt (hrow g hg)
    rcases hm with rfl | hm | hm
    · omega
    · have := f1 g hm; omega
    · have := f3 g hm; omega
  · rcases hg with rfl | hg | hg
    · omega
    · have := f1 g hg; omega
    · have := f3 g hg; omega
  · rcases q2 with q2 | q2
    · exact .inl q2
    · exact .inr (by rw [q2, hll])
  · rw [q3, hll]
end Go.Proofs.YtmmoilmfpiclgaaGreat.Fld

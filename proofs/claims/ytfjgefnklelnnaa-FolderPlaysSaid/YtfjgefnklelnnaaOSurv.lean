/-
  What survives; a folder of its own, alike; a new folder.
-/
import Derived.Test.YtfjgefnklelnnaaOSync
namespace Go.Proofs.Ytfjgefnklelnnaa
open Go.RowKit Go.Shelf

/-- A folder whose acts all last. -/
theorem folder_synced {w w' : World} {p b : Nat} {L0 : Names} {A : List FAct} {n : Nat} {av tv lv : Value} {fs : List Value} {M I : Nat → Prop} {T : Names} (h : FolderIn w p L0 A n av fs M I) (hp : M p) (h5 : ∀ b, mapOf lv = some b → M b) (h6 : ∀ b, mapOf tv = some b → M b ∨ w.heap.size ≤ b) (hl : T.length ≤ 100000)
    (t : Four w' p (.map (some b)) (.slice none 0 0) tv (.int .i64 (n : Int))) (n1 : NamesAt w' b T) (m1 : MapIs w' tv T) (hbt : mapOf tv ≠ some b) (n2 : mapOf lv = some b ∨ w.heap.size ≤ b) (k : Kept M w w') (hrow : ∀ g, av.ownBlock = some g → w'.heap[g]? = w.heap[g]?) :
    WentS w p av fs M I ⟨T, [], n⟩ w' := by
  have hM : ∀ g, OfF p (.map (some b)) tv (.slice none 0 0) g → M g ∨ w.heap.size ≤ g := fun g hg => by
    rcases hg with rfl | hg | hg | hg
    · exact .inl hp
    · cases hg
      rcases n2 with n2 | n2
      · exact .inl (h5 b n2)
      · exact .inr n2
    · exact h6 g hg
    · cases hg
  refine ⟨.slice none 0 0, [], OfF p (.map (some b)) tv (.slice none 0 0), fun _ => False, ⟨⟨.map (some b), tv, t, .inr ⟨b, rfl, n1⟩, m1, .inl rfl, fun g hg => .inr (.inl hg), fun g hg => .inr (.inr (.inl hg)), fun e => absurd e.symm hbt⟩, .inl ⟨rfl, rfl⟩, ⟨rfl, fun k hk => absurd hk (Nat.not_lt_zero _)⟩, (fun g hg => by cases hg), (fun x hx => by cases hx), ⟨by simpa using hl, h.small.2⟩, ?_, fun _ h => h.elim⟩, hM, fun _ h => h.elim, k, ?_⟩
  · intro g hg
    rcases hg with hg | hg
    · rcases hg with rfl | hg | hg | hg
      · exact t.lt
      · cases hg; exact n1.lt
      · exact m1.lt hg
      · cases hg
    · exact hg.elim
  · intro g m hg hm
    refine ⟨(h.row.cut hg hm).same fun g' hg' => ?_, fun e => by cases e⟩
    cases hg'
    exact hrow g hg

theorem sync_any {w : World} {p : Nat} {S : FS} {av : Value} {fs : List Value} {M I : Nat → Prop} (h : FolderS w p S av fs M I) (hl : S.weight ≤ 90000) :
    Calls Try.prog 17 #[.pointer (some ⟨p, 0, none⟩)] w fun e w' => e = .returned (.tuple #[]) ∧ WentS w p av fs M I S.sync w' := by
  obtain ⟨L0, A, n⟩ := S
  have h' : FolderIn w p L0 A n av fs M I := h
  obtain ⟨lv, tv, h1, h2, h3, h4, h5, h6, h7⟩ := h'.it
  have hw : L0.length + A.length + n ≤ 90000 := hl
  refine (sync_walk h1 h2 h'.row h'.acts (fun g hg => h'.mem g (.inr hg)) h'.fine h'.small.1).mono ?_
  rintro e w' ⟨rfl, b, t, n1, n2, k⟩
  have nm : ∀ g, (∃ cs T, w.heap[g]? = some (.cells cs T (0, 0))) → ¬ mapOf lv = some g := fun g ⟨cs, T, hc⟩ e => by
    obtain ⟨es, clock, hm⟩ := h2.mem e
    rw [hm] at hc; cases hc
  have hth : ∀ g, mapOf tv = some g → g ≠ p ∧ ¬ mapOf lv = some g := fun g hg => by
    obtain ⟨es, clock, hm⟩ := h3.mem hg
    refine ⟨fun e => (by unfold Four at h1; rw [e, h1] at hm; cases hm), fun e => ?_⟩
    have := h7 (e.trans hg.symm)
    rw [e] at this; cases this
  refine ⟨rfl, folder_synced h' h4 h5 (fun g hg => .inl (h6 g hg)) (by have := actsOn_length L0 A; show (actsOn L0 A).length ≤ _; omega) t n1 (h3.same fun g hg => k.block g (h3.lt hg) (fun e => ?_)) (fun e => ?_) ?_ (k.mono fun g hg => ?_) (fun g hg => ?_)⟩
  · rcases e with e | e
    · exact (hth g hg).1 e
    · exact (hth g hg).2 e
  · rcases n2 with n2 | ⟨_, n2⟩
    · exact (hth b e).2 n2
    · have := h3.lt e; omega
  · rcases n2 with n2 | ⟨_, n2⟩
    · exact .inl n2
    · exact .inr n2
  · rcases hg with rfl | hg
    · exact .inl h4
    · exact .inl (h5 g hg)
  · obtain ⟨cs, hc⟩ := h'.row.mem hg
    refine k.block g (h'.row.lt hg) fun e => ?_
    rcases e with e | e
    · exact two_types hc h1 (by decide) e
    · exact nm g ⟨cs, 90, hc⟩ e

theorem clone_any {w : World} {v : Value} {L : Names} (h : MapIs w v L) :
    Calls Try.prog 45 #[v] w fun e w' => ∃ v', e = .returned v' ∧ MapIs w' v' L ∧ (∀ b, mapOf v' = some b → w.heap.size ≤ b) ∧ Below w.heap.size w w' := by
  rcases h with ⟨rfl, rfl⟩ | ⟨b, rfl, h⟩
  · refine (AnyW.maps_Clone_nil Try.clone45 w).mono ?_
    rintro e w' ⟨rfl, rfl⟩
    exact ⟨_, rfl, .inl ⟨rfl, rfl⟩, (fun b hb => by cases hb), Below.refl _ _⟩
  · refine (AnyW.maps_Clone_owns Try.clone45 9 (plainElem Try.prog 3) b _ _ w h.1).mono ?_
    rintro e w' ⟨rfl, h1, _, h3⟩
    exact ⟨_, rfl, .inr ⟨_, rfl, h1, h.2⟩, (fun b hb => by cases hb; exact Nat.le_refl _), h3⟩

theorem take_fine {A : List FAct} (h : ∀ x ∈ A, x.fine) (u : Nat) : ∀ x ∈ A.take u, x.fine := fun x hx => h x (List.mem_of_mem_take hx)
theorem acts_take {w : World} {fs : List Value} {A : List FAct} {I : Nat → Prop} (h : FActs w fs A I) (u : Nat) : FActs w (fs.take u) (A.take u) I := by
  refine ⟨by rw [List.length_take, List.length_take, h.1], fun k hk => ?_⟩
  have hk' : k < u ∧ k < A.length := by rw [List.length_take] at hk; omega
  obtain ⟨f, h1, h2⟩ := h.2 k hk'.2
  refine ⟨f, by rw [List.getElem?_take, if_pos hk'.1]; exact h1, ?_⟩
  rw [List.getElem_take]
  exact h2

set_option maxHeartbeats 8000000 in
set_option maxRecDepth 100000 in
theorem survive_any {w : World} {p : Nat} {S : FS} {av : Value} {fs : List Value} {M I : Nat → Prop} (h : FolderS w p S av fs M I) (k : Int) (hk : -1000000 ≤ k ∧ k ≤ 1000000) (hl : S.weight ≤ 90000) :
    Calls Try.prog 20 #[.pointer (some ⟨p, 0, none⟩), .int .i64 k] w fun e w' => e = .returned (.tuple #[]) ∧ WentS w p av fs M I (S.survive k) w' := by
  obtain ⟨L0, A, n⟩ := S
  have h' : FolderIn w p L0 A n av fs M I := h
  obtain ⟨lv, tv, h1, h2, h3, h4, h5, h6, h7⟩ := h'.it
  have hw : L0.length + A.length + n ≤ 90000 := hl
  obtain ⟨u, hu⟩ : ∃ u, upTo k A.length = u := ⟨_, rfl⟩
  have hsv : FS.survive ⟨L0, A, n⟩ k = ⟨actsOn L0 (A.take u), [], n⟩ := by unfold FS.survive; rw [hu]
  rw [hsv]
  have hrow := h'.row
  have Q44 : Hid (Calls Try.prog 44 #[av, .int .i64 k] w fun e w' => ∃ v', e = .returned v' ∧ ARow w v' (fs.take u) ∧ (v' = .slice none 0 0 ∨ v'.ownBlock = av.ownBlock) ∧ w = w') := Lib.hid (by
    refine (first_any hrow k hk (by rw [h'.acts.1]; omega)).mono ?_
    rw [h'.acts.1, hu]
    rintro e w' ⟨v', rfl, q1, q2, _, rfl⟩
    exact ⟨v', rfl, q1, q2, rfl⟩)
  have av_ne : ∀ g, av.ownBlock = some g → g ≠ p ∧ ¬ mapOf lv = some g ∧ g < w.heap.size := fun g hg => by
    obtain ⟨cs, hc⟩ := hrow.mem hg
    refine ⟨two_types hc h1 (by decide), fun e => ?_, hrow.lt hg⟩
    obtain ⟨es, clock, hm⟩ := h2.mem e
    rw [hm] at hc; cases hc
  have Q17 : Hid (∀ v', ARow w v' (fs.take u) → (v' = .slice none 0 0 ∨ v'.ownBlock = av.ownBlock) → Calls Try.prog 17 #[.pointer (some ⟨p, 0, none⟩)] (w.setCell ⟨p, 1, none⟩ v') fun e w' => e = .returned (.tuple #[]) ∧ ∃ b, Four w' p (.map (some b)) (.slice none 0 0) tv (.int .i64 (n : Int)) ∧ NamesAt w' b (actsOn L0 (A.take u)) ∧ (mapOf lv = some b ∨ w.heap.size ≤ b) ∧ Kept (fun g => g = p ∨ mapOf lv = some g) w w') := Lib.hid fun v' hv1 hv2 => by
    have hvn : ∀ g, v'.ownBlock = some g → g ≠ p := fun g hg => by
      rcases hv2 with rfl | hv2
      · cases hg
      · exact (av_ne g (by rw [← hv2]; exact hg)).1
    have nmp : ∀ g, mapOf lv = some g → g ≠ p := fun g hg e => by
      obtain ⟨es, clock, hm⟩ := h2.mem hg
      have hq := h1
      unfold Four at hq
      rw [e, hq] at hm; cases hm
    have hz : (w.setCell ⟨p, 1, none⟩ v').heap.size = w.heap.size := by simp
    refine (sync_walk (h1.set1 v') (h2.same fun g hg => heap_setCell_ne (nmp g hg)) (hv1.same fun g hg => heap_setCell_ne (hvn g hg)) ((acts_take h'.acts u).same (fun g hg _ => heap_setCell_ne fun e => h'.apart g hg (by rw [e]; exact h4)) (fun _ h => h)) (fun g hg => by rw [hz]; exact h'.mem g (.inr hg)) (take_fine h'.fine u) (by rw [List.length_take]; omega)).mono ?_
    rintro e w' ⟨rfl, b, t, n1, n2, kk⟩
    refine ⟨rfl, b, t, n1, ?_, (Kept.grown (grown_setCell _ _ _ _) (fun g hg => by cases hg; exact .inl rfl)).trans kk (fun g hg => .inl hg)⟩
    rcases n2 with n2 | ⟨_, n2⟩
    · exact .inl n2
    · exact .inr (by omega)
  have FIN : Hid (∀ w2 b, Four w2 p (.map (some b)) (.slice none 0 0) tv (.int .i64 (n : Int)) → NamesAt w2 b (actsOn L0 (A.take u)) → (mapOf lv = some b ∨ w.heap.size ≤ b) → Kept (fun g => g = p ∨ mapOf lv = some g) w w2 → ∀ w3 v3, MapIs w3 v3 (actsOn L0 (A.take u)) → (∀ b, mapOf v3 = some b → w2.heap.size ≤ b) → Below w2.heap.size w2 w3 → WentS w p av fs M I ⟨actsOn L0 (A.take u), [], n⟩ (w3.setCell ⟨p, 2, none⟩ v3)) := Lib.hid fun w2 b t n1 n2 kk w3 v3 m3 g3 hb3 => by
    have hlen := actsOn_length L0 (A.take u)
    rw [List.length_take] at hlen
    have hz := kk.size
    have t3 : Four w3 p _ _ _ _ := t.same (hb3.block p t.lt)
    have hbp : b ≠ p := fun e => by
      obtain ⟨es, clock, hm⟩ := n1.mem
      have hq := t
      unfold Four at hq
      rw [e, hq] at hm; cases hm
    have h3p : ∀ g, mapOf v3 = some g → g ≠ p := fun g hg e => by
      have := g3 g hg; have := t.lt; omega
    refine folder_synced (tv := v3) h' h4 h5 (fun g hg => .inr (by have := g3 g hg; omega)) (by omega) (t3.set2 _) (n1.same ((heap_setCell_ne hbp).trans (hb3.block b n1.lt))) (m3.same fun g hg => heap_setCell_ne (h3p g hg)) (fun e => ?_) n2 ?_ (fun g hg => ?_)
    · have := g3 b e; have := n1.lt; omega
    · refine ((kk.mono fun g hg => ?_).trans (Kept.below hb3) (fun g hg => .inl hg)).trans (Kept.grown (grown_setCell _ _ _ _) (fun g hg => by cases hg; exact h4)) (fun g hg => .inl hg)
      rcases hg with rfl | hg
      · exact .inl h4
      · exact .inl (h5 g hg)
    · obtain ⟨q1, q2, q3⟩ := av_ne g hg
      exact (heap_setCell_ne q1).trans ((hb3.block g (by omega)).trans (kk.block g q3 (fun e => by rcases e with e | e <;> contradiction)))
  have k1 := h1.at1
  have f1 := h1.free 1
  obtain ⟨ad, c, rfl, hc1, _⟩ := hrow.shape
  clear h h' h1 h2 h3 h4 h5 h6 h7 hrow hsv av_ne hu
  have hsm := store_map
  obtain ⟨lu, hlu⟩ : ∃ lu, (fs.take u).length = lu := ⟨_, rfl⟩
  have HLU := Lib.hid hlu
  clear hlu
  go_enter Try.func20, Try.ntmps20
  go_wp2_with (first
    | (go_at_call 44; (with_reducible refine Q44.out.mono ?_); rintro e w1 ⟨v', rfl, q1, q2, rfl⟩; obtain ⟨ad', c', hv', _, _⟩ := q1.shape; rw [HLU.out] at hv'; subst hv'; have Q1 := Lib.hid (And.intro q1 q2); clear q1 q2)
    | (go_at_call 17; (with_reducible refine (Q17.out _ Q1.out.1 Q1.out.2).mono ?_); rintro e w2 ⟨rfl, b, t, n1, n2, kk⟩; have y0 := t.at0; have y2 := t.at2; have f2 := t.free 2; have F2 := Lib.hid (FIN.out w2 b t n1 n2 kk); have hcl := clone_any (.inr ⟨b, rfl, n1⟩ : MapIs w2 (.map (some b)) _); have HCL := Lib.hid hcl; have T2 := Lib.hid t; clear t n1 n2 kk hcl)
    | (go_at_call 45; (with_reducible refine HCL.out.mono ?_); rintro e w3 ⟨v3, rfl, m3, g3, hb3⟩; have y3 := ((T2.out.same (hb3.block p T2.out.lt)).at2); have f3 := ((T2.out.same (hb3.block p T2.out.lt)).free 2); obtain ⟨m', rfl⟩ := m3.shape; have F3 := Lib.hid (F2.out w3 _ m3 g3 hb3); clear m3 g3 hb3))
  exact bodyPost_end (v := .tuple #[]) (by simp [results, Try.results20, go_sem]) rfl ⟨rfl, F3.out⟩

set_option maxHeartbeats 1000000 in
set_option maxRecDepth 100000 in
theorem new_any (w : World) : Calls Try.prog 8 #[] w fun e w' => ∃ p, e = .returned (.pointer (some ⟨p, 0, none⟩)) ∧ FolderS w' p FS.new (.slice none 0 0) [] (fun g => g = p) (fun _ => False) ∧ w.heap.size ≤ p ∧ Below w.heap.size w w' := by
  go_enter Try.func8, Try.ntmps8
  go_wp2
  go_ret
  have hn := heap_alloc_new w (.cells #[.map none, .slice none 0 0, .map none, .int .i64 0] 56)
  refine ⟨_, rfl, ⟨⟨.map none, .map none, hn, .inl ⟨rfl, rfl⟩, .inl ⟨rfl, rfl⟩, rfl, (fun b hb => by cases hb), (fun b hb => by cases hb), fun _ => rfl⟩, .inl ⟨rfl, rfl⟩, ⟨rfl, fun k hk => absurd hk (Nat.not_lt_zero _)⟩, (fun b hb => by cases hb), fun x hx => (by cases hx), ⟨by simp [FS.new], by simp [FS.new]⟩, fun g hg => ?_, fun _ h => h.elim⟩, Nat.le_refl _, below_alloc' (Below.refl _ w)⟩
  rcases hg with rfl | hg
  · simp
  · exact hg.elim
end Go.Proofs.Ytfjgefnklelnnaa

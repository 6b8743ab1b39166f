/-
  The document's folder: one more of what was there.
-/
import Derived.Test.YtfjgefnklelnnaaORefG
namespace Go.Proofs.Ytfjgefnklelnnaa
open Go.RowKit Go.Shelf

theorem i64n : (Try.prog.info? 64).map (fun i => (i.zero, i.size, i.bytes)) = some (some (.slice none 0 0), 1, 24) := by kernel_rfl

theorem row_one {w : World} {base size n : Nat} {e : TypeId} {v : Value} {xs : List Value} (h : w.ownsRow base e size v n xs) : v.oneCell' = true := by
  obtain ⟨ad, c, rfl⟩ := row_shape h
  rfl

/-- One more. -/
theorem ref_snoc {w W : World} {q n m : Nat} {Ws : List Names} {J : Nat → Prop} (h : RefAt w q Ws n J) {l : Names} {lv av : Value} {vs : List Value} (hvs : w.ownsRow 0 64 1 av Ws.length vs ∧ vs.length = Ws.length ∧ ∀ i (h : i < Ws.length), ∃ v, vs[i]? = some v ∧ w.ownsRow 0 68 2 v Ws[i].length (nams Ws[i]) ∧ ∀ g, v.ownBlock = some g → J g)
    (hb : Kept (fun g => g = q) w W) (hq : ∀ v, w.heap[q]? = some v → ∃ cs, v = .cells cs 59 (0, 0)) {v' : Value} (hW : W.heap[q]? = some (.cells #[v', .int .i64 (m : Int)] 59 (0, 0))) (hv' : W.ownsRow w.heap.size 64 1 v' (Ws.length + 1) (vs ++ [lv])) (hl : W.ownsRow 0 68 2 lv l.length (nams l)) (hr : Rising l) (hll : l.length ≤ 100000) (hm : m ≤ 100000) (hlen : Ws.length < 100000) :
    RefAt W q (Ws ++ [l]) m fun g => J g ∨ lv.ownBlock = some g ∨ v'.ownBlock = some g := by
  have hJq : J q := by
    obtain ⟨_, _, _, _, _, h4, _⟩ := h.it
    exact h4
  have hne : ∀ g, (∃ cs T, w.heap[g]? = some (.cells cs T (0, 0)) ∧ T ≠ 59) → g ≠ q := fun g ⟨cs, T, hg, ht⟩ e => by
    subst e
    obtain ⟨ds, hd⟩ := hq _ hg
    cases hd
    exact ht rfl
  refine ⟨⟨v', vs ++ [lv], hW, by rw [List.length_append]; exact owns_weaken hv' (Nat.zero_le _), by simp [hvs.2.1], .inl hJq, fun g hg => .inr (.inr hg), fun i hi => ?_⟩, by simp, fun i hi => ?_, ⟨by simp; omega, hm, fun i hi => ?_⟩, fun g hg => ?_⟩
  · rw [List.length_append] at hi
    by_cases hi2 : i < Ws.length
    · obtain ⟨v, k1, k2, k3⟩ := hvs.2.2 i hi2
      refine ⟨v, by rw [List.getElem?_append_left (by omega)]; exact k1, ?_, fun g hg => .inl (k3 g hg)⟩
      rw [List.getElem_append_left hi2]
      refine owns_same k2 fun g hg => ?_
      obtain ⟨cs, hcs⟩ := owns_mem k2 hg
      exact hb.block g (k2.lt g hg).2 (hne g ⟨cs, 68, hcs, by decide⟩)
    · obtain rfl : i = Ws.length := by simp at hi; omega
      refine ⟨lv, by rw [List.getElem?_append_right (by omega), hvs.2.1]; simp, ?_, fun g hg => .inr (.inl hg)⟩
      rw [List.getElem_append_right (by omega)]
      simpa using hl
  · rw [List.length_append] at hi
    by_cases hi2 : i < Ws.length
    · rw [List.getElem_append_left hi2]; exact h.rising i hi2
    · rw [List.getElem_append_right (by omega)]
      simpa using hr
  · rw [List.length_append] at hi
    by_cases hi2 : i < Ws.length
    · rw [List.getElem_append_left hi2]; exact h.small.2.2 i hi2
    · rw [List.getElem_append_right (by omega)]
      simpa using hll
  · rcases hg with hg | hg | hg
    · exact Nat.lt_of_lt_of_le (h.mem g hg) hb.size
    · exact (hl.lt g hg).2
    · exact (hv'.lt g hg).2

set_option maxHeartbeats 1000000 in
set_option maxRecDepth 100000 in
theorem refAct_any {w : World} {q n : Nat} {Ws : List Names} {J : Nat → Prop} (h : RefAt w q Ws n J) {l : Names} {lv : Value} (hl : w.ownsRow 0 68 2 lv l.length (nams l)) (hr : Rising l) (hll : l.length ≤ 100000) (hlen : Ws.length < 100000) :
    Calls Try.prog 37 #[.pointer (some ⟨q, 0, none⟩), lv] w fun e w' => e = .returned (.tuple #[]) ∧ (∃ J', RefAt w' q (Ws ++ [l]) n J' ∧ ∀ g, J' g → J g ∨ lv.ownBlock = some g ∨ w.heap.size ≤ g) ∧ Kept (fun g => g = q) w w' := by
  obtain ⟨av, vs, h1, h2, h3, h4, h5, h6⟩ := h.it
  have hs := h.some
  have hvs := And.intro h2 (And.intro h3 h6)
  obtain ⟨g, c, rfl, hc1, hc2, hlt, hcell⟩ := was_cells h2 h3 hs
  have c0 : w.cell? ⟨q, 0, none⟩ = some (.slice (some ⟨g, 0, none⟩) Ws.length c) := by rw [cell_of_row w q 0 _ 59 (0, 0) h1]; rfl
  have f0 : w.frozen? ⟨q, 0, none⟩ = false := by simp [World.frozen?, h1]
  have hone : ∀ u ∈ vs, u.oneCell' = true := fun u hu => by
    obtain ⟨i, hi, rfl⟩ := List.mem_iff_getElem.1 hu
    obtain ⟨v, k1, k2, _⟩ := h6 i (by omega)
    rw [List.getElem?_eq_getElem hi] at k1
    cases k1
    exact row_one k2
  obtain ⟨ladd, lc, rfl⟩ := row_shape hl
  obtain ⟨i0, hi, hz1, hz2, hz3⟩ := info_parts i64n
  have hsm := h.small.1
  have hql : q < w.heap.size := (Array.getElem?_eq_some_iff.1 h1).1
  have HP : Hid (∀ W, Below w.heap.size w W → W.cell? ⟨q, 0, none⟩ = some (.slice (some ⟨g, 0, none⟩) Ws.length c) ∧ W.frozen? ⟨q, 0, none⟩ = false) := Lib.hid fun W hW => ⟨by rw [hW.cell (p := ⟨q, 0, none⟩) hql]; exact c0, by rw [hW.frozen (p := ⟨q, 0, none⟩) hql]; exact f0⟩
  have HN : Hid (∀ W, Below w.heap.size w W → ∀ j u, vs[j]? = some u → W.cell? ((⟨g, 0, none⟩ : Addr).add j) = some u) := Lib.hid fun W hW j u hj => by
    have hjl := (List.getElem?_eq_some_iff.1 hj).1
    rw [Addr.add_lit, Nat.zero_add, hW.cell (p := ⟨g, j, none⟩) hlt]
    exact hcell j (by omega) u hj
  have hbA := below_alloc' (o := .cells #[] 64) (Below.refl _ w)
  have HBA := Lib.hid hbA
  obtain ⟨a0, af⟩ := HP.out _ hbA
  have hqne : q ≠ w.heap.size := by omega
  have FIN : Hid (∀ w4 v4, Below w.heap.size w w4 → w4.ownsRow w.heap.size 64 1 v4 (Ws.length + 1) (vs ++ [.slice ladd l.length lc]) → (∃ J', RefAt (w4.setCell ⟨q, 0, none⟩ v4) q (Ws ++ [l]) n J' ∧ ∀ g, J' g → J g ∨ (Value.slice ladd l.length lc).ownBlock = some g ∨ w.heap.size ≤ g) ∧ Kept (fun g => g = q) w (w4.setCell ⟨q, 0, none⟩ v4)) := Lib.hid fun w4 v4 hb4 ho4 => by
    have hk : Kept (fun g => g = q) w (w4.setCell ⟨q, 0, none⟩ v4) := (Kept.below hb4).trans (Kept.grown (grown_setCell _ _ _ _) (M := fun g => g = q) (fun g hg => by cases hg; rfl)) (fun g hg => .inl hg)
    have h4q := (hb4.block q hql).trans h1
    have h4q' := setCell_heap h4q 0 v4
    have ho4' : (w4.setCell ⟨q, 0, none⟩ v4).ownsRow w.heap.size 64 1 v4 (Ws.length + 1) (vs ++ [.slice ladd l.length lc]) := owns_same ho4 fun g hg => heap_setCell_ne (by have := (ho4.lt g hg).1; omega)
    have hl4 : (w4.setCell ⟨q, 0, none⟩ v4).ownsRow 0 68 2 (.slice ladd l.length lc) l.length (nams l) := owns_same (owns_same hl fun g hg => hb4.block g (hl.lt g hg).2) fun g hg => heap_setCell_ne (fun e => by
      subst e
      obtain ⟨cs, hcs⟩ := owns_mem hl hg
      rw [h1] at hcs
      cases hcs)
    refine ⟨⟨_, ref_snoc h hvs hk (fun v hv => by rw [h1] at hv; cases hv; exact ⟨_, rfl⟩) h4q' ho4' hl4 hr hll h.small.2.1 hlen, fun g hg => ?_⟩, hk⟩
    rcases hg with hg | hg | hg
    · exact .inl hg
    · exact .inr (.inl hg)
    · exact .inr (.inr (ho4.lt g hg).1)
  have hvl : vs.length = Ws.length * 1 := by omega
  clear hvs h6 h5 h4 h1 h2 h hl hcell hbA hr
  go_enter Try.func37, Try.ntmps37
  go_wp2_with (first
    | (at_builtin; refine wpList_append_own_at _ rfl _ _ 57 rfl w.heap.size 64 i0 (.slice none 0 0) 1 24 Try.underlying57 hi hz1 hz2 hz3 rfl (by decide) (.slice (some ⟨w.heap.size, 0, none⟩) 0 0) 0 [] rfl (World.ownsRow_made w #[] 0 (Nat.le_refl _) (Nat.zero_le _) rfl) ⟨g, 0, none⟩ Ws.length c vs rfl hvl (HN.out _ HBA.out) hone (by unfold maxLen; omega) (by omega) (by simp) ?_; intro v3 w3 o3 g3 _ _; rw [List.nil_append, Nat.zero_add] at o3; have hb3 := HBA.out.grown g3 (by simp) (fun k hk => by cases hk; exact Nat.le_refl _); have HB3 := Lib.hid hb3; have HO3 := Lib.hid o3; have HZ3 := Lib.hid hb3.size; obtain ⟨k0, kf⟩ := HP.out _ hb3; clear o3 g3 hb3)
    | (at_builtin; refine wpList_append_own_at _ rfl _ _ 57 rfl w.heap.size 64 i0 (.slice none 0 0) 1 24 Try.underlying57 hi hz1 hz2 hz3 rfl (by decide) _ _ _ rfl (HO3.out.alloc _) ⟨w3.heap.size, 0, none⟩ 1 1 [.slice ladd l.length lc] rfl rfl (cell_one_new _ _ _) (by simp [Value.oneCell']) (by unfold maxLen; omega) (by omega) (by have := HZ3.out; simp; omega) ?_; intro v4 w4 o4 g4 _ _; have hb4 := (below_alloc' HB3.out).grown g4 (by have := HZ3.out; simp; omega) (fun k hk => (HO3.out.lt k hk).1); have HB4 := Lib.hid hb4; have HO4 := Lib.hid o4; obtain ⟨m0, mf⟩ := HP.out _ hb4; obtain ⟨ad4, c4, rfl⟩ := row_shape o4; clear o4 g4 hb4))
  exact bodyPost_end (v := .tuple #[]) (by simp [results, Try.results37, go_sem]) rfl ⟨rfl, FIN.out _ _ HB4.out HO4.out⟩
end Go.Proofs.Ytfjgefnklelnnaa

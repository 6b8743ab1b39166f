/-
  The document's file: Cut.
-/
import Derived.Test.YtloijbhilfbliaaFRefOps
namespace Go.Proofs.Ytloijbhilfbliaa
open Go.RowKit Go.Shelf

/-- One more act. -/
theorem ref_more {w w2 : World} {p : Nat} {D : List UInt8} {A : List Do} {J : Nat → Prop} {av v2 : Value} {a : Do} (hd : Duo w p (.string (strO D)) av) (hj : J p) (hb : Below w.heap.size w w2)
    (ho : w2.ownsRow w.heap.size 72 3 v2 (A.length + 1) (A.flatMap actC ++ actC a)) (hf : Fits D (A ++ [a])) (hs : bulk D (A ++ [a]) ≤ 100000) (r : Value) :
    RefWent w p D (A ++ [a]) J r (.returned r) (w2.setCell ⟨p, 1, none⟩ v2) := by
  have d1 := (hd.below hb).set1 v2
  have hg : w2.grownBy (w2.setCell ⟨p, 1, none⟩ v2) (some p) := grown_setCell _ _ _ _
  have hk : Kept J w (w2.setCell ⟨p, 1, none⟩ v2) := (Kept.below hb).trans (Kept.grown (M := J) hg (fun g e => by cases e; exact hj)) (fun g hg => .inl hg)
  have hz := hg.size
  have hz2 := hk.size
  have ho2 : (w2.setCell ⟨p, 1, none⟩ v2).ownsRow w.heap.size 72 3 v2 (A.length + 1) (A.flatMap actC ++ actC a) := owns_same ho fun g hv => hg.block g (by
    obtain ⟨cs, hc⟩ := owns_mem ho hv
    exact (Array.getElem?_eq_some_iff.1 hc).1) (fun e => by cases e; have := owns_new ho p hv; have := hd.lt; omega)
  refine ⟨rfl, fun g => (J g ∨ w.heap.size ≤ g) ∧ g < (w2.setCell ⟨p, 1, none⟩ v2).heap.size, ⟨⟨v2, d1, ?_, ⟨.inl hj, by have := hd.lt; omega⟩, fun g hv => ⟨.inr (owns_new ho g hv), ?_⟩⟩, hf, hs, fun g hg => hg.2⟩, fun g hg => hg.1, hk⟩
  · rw [List.length_append, List.flatMap_append]
    have := owns_base ho2
    simpa using this
  · obtain ⟨cs, hc⟩ := owns_mem ho2 hv
    exact (Array.getElem?_eq_some_iff.1 hc).1

theorem i72 : (Try.prog.info? 72).map (fun i => (i.zero, i.size, i.bytes)) = some (some (.agg #[.bool false, .int .i64 0, .string ⟨#[]⟩]), 3, 32) := by kernel_rfl

/-- An append of acts to a row of the call's own: what a walk goes on with. -/
theorem wpList_append_ref {w : World} {ops : Array Oper} {rest : List Oper} {o : Oper} {a : Act} {Q : Exit → Act → World → Prop} (hgd : o.guard = none) (s x : Operand)
    (hop : o.op = Op.call { callee := Callee.builtin Builtin.append, args := #[s, x], argTypes := #[26, 26] }) (ht : o.type = 26) (base : Nat) (v : Value) (n : Nat) (fs : List Value) (ad : Addr) (m c : Nat) (news : List Value)
    (hs : a.eval s = v) (hx : a.eval x = .slice (some ad) m c) (hl : news.length = m * 3) (hc : ∀ j u, news[j]? = some u → w.cell? (ad.add j) = some u) (hf : ∀ u ∈ news, u.oneCell' = true) (hv : w.ownsRow base 72 3 v n fs) (hb : base ≤ w.heap.size) (hlen : n + m ≤ 1000000)
    (h : ∀ v' w', w'.ownsRow base 72 3 v' (n + m) (fs ++ news) → w.grownBy w' v.ownBlock → wpList Try.prog ops Q rest (a.put o.dst v') w') : wpList Try.prog ops Q (o :: rest) a w := by
  obtain ⟨i0, hi, hz0, hz1, hz2⟩ := info_parts i72
  obtain ⟨v', w1, h1, h2, h3, _, _⟩ := run_append_own_at (P := Try.prog) w base 26 26 72 i0 _ 3 32 Try.underlying26 hi hz0 hz1 hz2 rfl (by decide) v n fs hv ad m c news hl
    hc hf (by unfold maxLen; omega) (by omega) hb
  refine wpList_plain hgd fun _ hK => ?_
  unfold Oper.wp execOp
  simp only [hop, ht, resolve, invoke, builtin, Sem.run_bind, Sem.run_pure, Result.andThen_ok, List.map_toArray, List.map_cons, List.map_nil, hs, hx, h1]
  exact hK _ _ (h v' w1 h2 h3)

theorem cells_new (w : World) (xs : List Value) (t : TypeId) : ∀ j u, xs[j]? = some u → (w.alloc (.cells xs.toArray t)).cell? ((⟨w.heap.size, 0, none⟩ : Addr).add j) = some u := fun j u hj => by
  rw [Addr.add_lit, Nat.zero_add, cell_of_row _ _ j _ _ _ (heap_alloc_new w _)]
  simpa using hj

theorem owns_slice72 {w : World} {base n : Nat} {v : Value} {xs : List Value} (h : w.ownsRow base 72 3 v n xs) : ∃ ad c, v = .slice ad n c := by
  rcases h.2 with ⟨rfl, h0⟩ | ⟨g, cap, cur, rfl, _⟩
  · exact ⟨none, 0, by rw [h0]⟩
  · exact ⟨_, cap, rfl⟩

theorem actC_one (A : List Do) : ∀ u ∈ A.flatMap actC, u.oneCell' = true := by
  intro u hu
  obtain ⟨a, _, ha⟩ := List.mem_flatMap.1 hu
  cases a <;> (simp [actC] at ha; rcases ha with rfl | rfl | rfl <;> rfl)

set_option maxHeartbeats 1000000 in
set_option maxRecDepth 100000 in
theorem ref_cut {w : World} {p : Nat} {D : List UInt8} {A : List Do} {J : Nat → Prop} {n : Int} (h : RefAt w p D A J) (hlen : A.length ≤ 1000) :
    Calls Try.prog 29 #[.pointer (some ⟨p, 0, none⟩), .int .i64 n] w (RefWent w p D (cutT (reads D A) A n) J (.int .i64 (cutE (reads D A) n))) := by
  obtain ⟨av, hp, ha, hj, hj2⟩ := id h.it
  have hp : Duo w p (.string (strO D)) av := hp
  have hpl := hp.lt
  have hS : (reads D A).length ≤ 100000 := Nat.le_trans (reads_length D A) h.small
  have HSTAY : Hid (∀ W, Below w.heap.size w W → ∀ r, RefWent w p D A J r (.returned r) W) := Lib.hid fun W hW r => ⟨rfl, J, h.below hW, fun g hg => .inl hg, Kept.below hW⟩
  obtain ⟨L, hL⟩ : ∃ L, reads D A = L := ⟨_, rfl⟩
  have Q28 : Hid (∀ W, Below w.heap.size w W → Calls Try.prog 28 #[.pointer (some ⟨p, 0, none⟩)] W fun e w' => e = .returned (.string (strO L)) ∧ Below W.heap.size W w') := Lib.hid fun W hW => by rw [← hL]; exact ref_bytes (h.below hW)
  rw [hL] at hS ⊢
  have hz : (strO L).size = L.length := strO_size L
  obtain ⟨S, hSL⟩ : ∃ S, strO L = S := ⟨_, rfl⟩
  rw [hSL] at Q28 hz
  clear hSL
  by_cases hc : n < 0 ∨ (L.length : Int) < n
  · rw [show cutT L A n = A by unfold cutT; rw [if_neg (by omega)], show cutE L n = 17 by unfold cutE; rw [if_pos hc]]
    clear h hp ha hj hj2 hL
    by_cases hn : n < 0
    · have d1 : decide (n < 0) = true := decide_eq_true hn
      go_enter Try.func29, Try.ntmps29
      go_wp2
      go_ret
      exact HSTAY.out _ (Below.refl _ w) _
    · have d1 : decide (n < 0) = false := decide_eq_false hn
      have d2 : decide ((L.length : Int) < n) = true := decide_eq_true (by omega)
      go_enter Try.func29, Try.ntmps29
      go_wp2_with (go_at_call 28; (with_reducible refine (Q28.out _ (Below.refl _ w)).mono ?_); rintro e w1 ⟨rfl, hb⟩; have HB := Lib.hid hb; clear hb)
      go_ret
      exact HSTAY.out _ HB.out _
  · obtain ⟨m, rfl⟩ : ∃ m : Nat, n = (m : Int) := ⟨n.toNat, by omega⟩
    have d1 : decide ((m : Int) < 0) = false := decide_eq_false (by omega)
    have d2 : decide (L.length < m) = false := decide_eq_false (by omega)
    rw [show cutE L m = 0 by unfold cutE; rw [if_neg hc]]
    by_cases hm : m < L.length
    · rw [show cutT L A m = A ++ [.cut m] by unfold cutT; rw [if_pos ⟨by omega, by omega⟩]; rfl]
      have d3 : decide (m < L.length) = true := decide_eq_true hm
      obtain ⟨ad, c, rfl, hc1, hc2, hrow⟩ := acts_cells ha
      have hfits : Fits D (A ++ [.cut m]) := (fits_append D A [.cut m]).2 ⟨h.fits, by rw [hL]; exact ⟨hm, trivial⟩⟩
      have hbulk : bulk D (A ++ [.cut m]) ≤ 100000 := by have := h.small; unfold bulk at this ⊢; simpa using this
      have HE := Lib.hid fun (w2 : World) (v2 : Value) (hb : Below w.heap.size w w2) (ho : w2.ownsRow w.heap.size 72 3 v2 (A.length + 1) (A.flatMap actC ++ actC (.cut m))) => ref_more hp hj hb ho hfits hbulk (.int .i64 0)
      have HP : Hid (∀ W, Below w.heap.size w W → W.cell? ⟨p, 0, none⟩ = some (.string (strO D)) ∧ W.cell? ⟨p, 1, none⟩ = some (.slice ad A.length c) ∧ W.frozen? ⟨p, 0, none⟩ = false ∧ W.frozen? ⟨p, 1, none⟩ = false) := Lib.hid fun W hW => ⟨(hp.below hW).at0, (hp.below hW).at1, (hp.below hW).free 0, (hp.below hW).free 1⟩
      have HA := Lib.hid ha
      have HROW : Hid (∀ g, ad = some g → ∀ W, Below w.heap.size w W → ∀ j u, (A.flatMap actC)[j]? = some u → W.cell? (g.add j) = some u) := Lib.hid fun g hg W hW j u hju => by
        subst hg
        rcases (owns_below ha hW).2 with ⟨hv, _⟩ | ⟨g', cap, cur, hv, _, hgc, h1, h2, h3, ht⟩
        · cases hv
        · cases hv
          rw [Addr.add_lit, Nat.zero_add, cell_of_row W g' _ _ _ _ hgc, ← Array.getElem?_toList]
          have hjl := (List.getElem?_eq_some_iff.1 hju).1
          rw [← ht, List.getElem?_take] at hju
          split at hju
          · exact hju
          · cases hju
      clear h hp ha hj hj2 hL hrow hc
      go_enter Try.func29, Try.ntmps29
      go_upto_region 4 with (first
        | (go_at_call 28; (with_reducible refine (Q28.out _ (Below.refl _ w)).mono ?_); rintro e w1 ⟨rfl, hb⟩)
        | (go_at_call 28; (with_reducible refine (Q28.out _ hb).mono ?_); rintro e w2 ⟨rfl, hb2⟩; have hb2 := Below.next hb hb2))
      obtain ⟨k0, k1, f0, f1⟩ := HP.out _ hb2
      have hz2 := hb2.size
      have HB2 := Lib.hid (below_alloc' (o := .cells #[] 72) hb2)
      have hcut : ∀ u ∈ actC (.cut m), u.oneCell' = true := by intro u hu; simp [actC] at hu; rcases hu with rfl | rfl | rfl <;> rfl
      have hp2 : p < w2.heap.size := by omega
      obtain ⟨j0, j1, i0, i1⟩ := HP.out _ HB2.out
      clear hb hb2
      cases ad with
      | some g =>
        go_wp2_with (first
          | (at_builtin; refine wpList_append_ref rfl _ _ rfl rfl w.heap.size (.slice (some ⟨w2.heap.size, 0, none⟩) 0 0) 0 [] g A.length c (A.flatMap actC) rfl rfl (flat_length A) (HROW.out g rfl _ HB2.out) (actC_one A) (World.ownsRow_made w2 #[] 0 hz2 (Nat.zero_le _) (by simp)) HB2.out.size (by omega) ?_; intro v3 w3 o3 g3;
              rw [List.nil_append, Nat.zero_add] at o3; have hb3 := HB2.out.grown g3 HB2.out.size (fun k hk => by cases hk; exact hz2); have HB3 := Lib.hid hb3; have HO3 := Lib.hid o3; obtain ⟨k0, k1, f0, f1⟩ := HP.out _ hb3; obtain ⟨l0, l1, m0, m1⟩ := HP.out _ (below_alloc' (o := .cells (actC (.cut m)).toArray 72) hb3); unfold actC at l0 l1 m0 m1; clear o3 g3 hb3)
          | (at_builtin; refine wpList_append_ref rfl _ _ rfl rfl w.heap.size v3 A.length (A.flatMap actC) ⟨w3.heap.size, 0, none⟩ 1 1 (actC (.cut m)) rfl rfl rfl (cells_new w3 (actC (.cut m)) 72) hcut (owns_below HO3.out (below_alloc' (Below.refl _ w3))) (below_alloc' HB3.out).size (by omega) ?_; intro v4 w4 o4 g4; have hb4 := (below_alloc' HB3.out).grown g4 (below_alloc' HB3.out).size (fun k hk => owns_new HO3.out k hk); have HB4 := Lib.hid hb4; have HO4 := Lib.hid o4; obtain ⟨l0, l1, m0, m1⟩ := HP.out _ hb4; obtain ⟨ad4, c4, rfl⟩ := owns_slice72 o4; clear o4 g4 hb4))
        go_ret
        exact HE.out _ _ HB4.out HO4.out
      | none =>
        have hA0 : A = [] := by
          rcases HA.out.2 with ⟨_, h0⟩ | ⟨g, cap, cur, hv, _⟩
          · exact List.eq_nil_of_length_eq_zero h0
          · cases hv
        subst hA0
        have hC2 : ∀ j u, (actC (.cut m))[j]? = some u → ((w2.alloc (.cells #[] 72)).alloc (.cells #[.bool true, .int .i64 (m : Int), .string ⟨#[]⟩] 72)).cell? ((⟨w2.heap.size + 1, 0, none⟩ : Addr).add j) = some u := by
          have e : (w2.alloc (.cells #[] 72)).heap.size = w2.heap.size + 1 := by simp
          have h := cells_new (w2.alloc (.cells #[] 72)) (actC (.cut m)) 72
          rw [e] at h
          exact h
        have HO2 := Lib.hid (World.ownsRow_made (base := w.heap.size) (e := 72) (size := 3) w2 #[] 0 hz2 (Nat.zero_le _) (by simp))
        obtain ⟨l0, l1, m0, m1⟩ := HP.out _ (below_alloc' (o := .cells (actC (.cut m)).toArray 72) HB2.out)
        unfold actC at l0 l1 m0 m1
        go_wp2_with (at_builtin; refine wpList_append_ref rfl _ _ rfl rfl w.heap.size (.slice (some ⟨w2.heap.size, 0, none⟩) 0 0) 0 [] ⟨w2.heap.size + 1, 0, none⟩ 1 1 (actC (.cut m)) rfl rfl rfl hC2 hcut (owns_below HO2.out (below_alloc' (Below.refl _ _))) (below_alloc' HB2.out).size (by omega) ?_; intro v4 w4 o4 g4; have hb4 := (below_alloc' HB2.out).grown g4 (below_alloc' HB2.out).size (fun k hk => by cases hk; exact hz2); have HB4 := Lib.hid hb4; have HO4 := Lib.hid o4; obtain ⟨l0, l1, m0, m1⟩ := HP.out _ hb4; obtain ⟨ad4, c4, rfl⟩ := owns_slice72 o4; clear o4 g4 hb4)
        go_ret
        exact HE.out _ _ HB4.out HO4.out
    · rw [show cutT L A m = A by unfold cutT; rw [if_neg (by omega)]]
      have d3 : decide (m < L.length) = false := decide_eq_false hm
      clear h hp ha hj hj2 hL
      go_enter Try.func29, Try.ntmps29
      go_wp2_with (first
        | (go_at_call 28; (with_reducible refine (Q28.out _ (Below.refl _ w)).mono ?_); rintro e w1 ⟨rfl, hb⟩)
        | (go_at_call 28; (with_reducible refine (Q28.out _ hb).mono ?_); rintro e w2 ⟨rfl, hb2⟩; have hb2 := Below.next hb hb2; have HB := Lib.hid hb2))
      go_ret
      exact HSTAY.out _ HB.out _
end Go.Proofs.Ytloijbhilfbliaa

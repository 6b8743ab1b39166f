/-
  The document's file: Append.
-/
import Derived.Test.YtloijbhilfbliaaFRefCut
namespace Go.Proofs.Ytloijbhilfbliaa
open Go.RowKit Go.Shelf

/-- The acts' cells, one behind the other. -/
theorem acts_row {w : World} {ad : Option Addr} {n c : Nat} {xs : List Value} (ha : w.ownsRow 0 72 3 (.slice ad n c) n xs) : ∀ g, ad = some g → ∀ W, Below w.heap.size w W → ∀ j u, xs[j]? = some u → W.cell? (g.add j) = some u := fun g hg W hW j u hju => by
  subst hg
  rcases (owns_below ha hW).2 with ⟨hv, _⟩ | ⟨g', cap, cur, hv, _, hgc, h1, h2, h3, ht⟩
  · cases hv
  · cases hv
    rw [Addr.add_lit, Nat.zero_add, cell_of_row W g' _ _ _ _ hgc, ← Array.getElem?_toList]
    rw [← ht, List.getElem?_take] at hju
    split at hju
    · exact hju
    · cases hju

set_option maxHeartbeats 1000000 in
set_option maxRecDepth 100000 in
theorem ref_append {w : World} {p : Nat} {D : List UInt8} {A : List Do} {J : Nat → Prop} {l : List ByteArray} {v : Value} (h : RefAt w p D A J) (hv : Strs w v l) (hll : l.length ≤ 1000) (hbulk : bulk D A + (joined l).length ≤ 100000) (hlen : A.length ≤ 1000) :
    Calls Try.prog 33 #[.pointer (some ⟨p, 0, none⟩), v] w (RefWent w p D (appT A (joined l)) J (.tuple #[])) := by
  obtain ⟨av, hp, ha, hj, hj2⟩ := id h.it
  have hp : Duo w p (.string (strO D)) av := hp
  have hpl := hp.lt
  have HSTAY : Hid (∀ W, Below w.heap.size w W → ∀ r, RefWent w p D A J r (.returned r) W) := Lib.hid fun W hW r => ⟨rfl, J, h.below hW, fun g hg => .inl hg, Kept.below hW⟩
  obtain ⟨ads, cs, rfl, hc⟩ := hv
  have HC : Hid (∀ W, Below w.heap.size w W → ∀ i, i < l.length → ∃ b o, ads = some ⟨b, o, none⟩ ∧ W.cell? ⟨b, o + i, none⟩ = some (.string (l.getD i ⟨#[]⟩))) := Lib.hid fun W hW i hi => by
    obtain ⟨b, o, ha, hE⟩ := hc i hi
    exact ⟨b, o, ha, by rw [hW.cell (p := ⟨b, o + i, none⟩) (block_lt_of_cell hE)]; exact hE⟩
  have HBK := Lib.hid hbulk
  have HH := Lib.hid h
  have HP : Hid (∀ W, Below w.heap.size w W → W.cell? ⟨p, 0, none⟩ = some (.string (strO D)) ∧ W.cell? ⟨p, 1, none⟩ = some av ∧ W.frozen? ⟨p, 0, none⟩ = false ∧ W.frozen? ⟨p, 1, none⟩ = false) := Lib.hid fun W hW => ⟨(hp.below hW).at0, (hp.below hW).at1, (hp.below hW).free 0, (hp.below hW).free 1⟩
  have HA := Lib.hid ha
  have HE : Hid (joined l ≠ [] → ∀ (w2 : World) (v2 : Value), Below w.heap.size w w2 → w2.ownsRow w.heap.size 72 3 v2 (A.length + 1) (A.flatMap actC ++ actC (.app (joined l))) → RefWent w p D (A ++ [.app (joined l)]) J (.tuple #[]) (.returned (.tuple #[])) (w2.setCell ⟨p, 1, none⟩ v2)) := Lib.hid fun hne w2 v2 hb ho =>
    ref_more hp hj hb ho ((fits_append D A [.app (joined l)]).2 ⟨h.fits, hne, trivial⟩) (by rw [bulk_app]; exact hbulk) (.tuple #[])
  clear h hp ha hj hj2 hc hbulk
  go_enter Try.func33, Try.ntmps33
  go_wp2
  go_loopw [4, 5] (fun s4 s5 wr => ∃ k : Nat, k ≤ l.length ∧ s5 = .int .i64 k ∧ s4 = .string (strO (joined (l.take k))) ∧ Below w.heap.size w wr) (fun _ s5 _ => l.length - (intOf s5).toNat)
  case atStart => exact ⟨0, Nat.zero_le _, rfl, rfl, Below.refl _ w⟩
  case round =>
    obtain ⟨k, hk, rfl, rfl, hb⟩ := hrel
    by_cases hlt : k < l.length
    · obtain ⟨b, o, rfl, hcx⟩ := HC.out _ hb k hlt
      have hsn := joined_take l k hlt
      have hle := joined_le l (k + 1)
      have HB := Lib.hid hb
      generalize l.getD k ⟨#[]⟩ = x at hcx hsn
      have hjx : strO (joined (l.take (k + 1))) = strO (joined (l.take k)) ++ x := by rw [hsn, ← strO_join, strO_of]
      have hsz : (strO (joined (l.take k))).size + x.size = (joined (l.take (k + 1))).length := by rw [← strO_size (joined (l.take (k + 1))), hjx, ByteArray.size_append]
      have HBO := HBK.out
      have hov : ¬ 9223372036854775807 < (strO (joined (l.take k))).size + x.size := by omega
      have HJX := Lib.hid hjx
      clear hsn hjx hle hsz hb
      go_wp2
      exact ⟨⟨k + 1, by omega, by go_num, by rw [HJX.out], HB.out⟩, by simp [intOf]; omega⟩
    · obtain rfl : k = l.length := by omega
      rw [List.take_length]
      by_cases hj : joined l = []
      · have HAP := Lib.hid (show appT A (joined l) = A by unfold appT; rw [if_pos hj])
        have hn : (strO (joined l)).toList.isEmpty = true := by rw [ByteArray.toList_eq, strO_list, hj]; rfl
        have HB := Lib.hid hb
        clear hb HE hj
        go_wp2
        have hfin := HSTAY.out _ HB.out (.tuple #[])
        rw [← HAP.out] at hfin
        exact bodyPost_end (v := .tuple #[]) (by simp [results, Try.results33, go_sem]) rfl hfin
      · have hap : appT A (joined l) = A ++ [.app (joined l)] := by unfold appT; rw [if_neg hj]
        have hn : (strO (joined l)).toList.isEmpty = false := by
          rw [ByteArray.toList_eq, strO_list]
          cases hjj : joined l with
          | nil => exact absurd hjj hj
          | cons _ _ => rfl
        have HE := Lib.hid (HE.out hj)
        obtain ⟨Y, hY⟩ : ∃ Y, joined l = Y := ⟨_, rfl⟩
        have HAP : Hid (appT A (joined l) = A ++ [.app Y]) := Lib.hid (by rw [hap, hY])
        rw [hY] at hn HE
        rw [hY]
        clear hap
        obtain ⟨ad, c, rfl, hc1, hc2, _⟩ := acts_cells HA.out
        have HROW := Lib.hid (acts_row HA.out)
        obtain ⟨k0, k1, f0, f1⟩ := HP.out _ hb
        have hz2 := hb.size
        have HB2 := Lib.hid (below_alloc' (o := .cells #[] 72) hb)
        have hone : ∀ u ∈ actC (.app Y), u.oneCell' = true := by intro u hu; simp [actC] at hu; rcases hu with rfl | rfl | rfl <;> rfl
        have hp2 : p < wr.heap.size := by omega
        obtain ⟨j0, j1, i0, i1⟩ := HP.out _ HB2.out
        clear hb hj hY
        cases ad with
        | some g =>
          go_wp2_with (first
            | (at_builtin; refine wpList_append_ref rfl _ _ rfl rfl w.heap.size (.slice (some ⟨wr.heap.size, 0, none⟩) 0 0) 0 [] g A.length c (A.flatMap actC) rfl rfl (flat_length A) (HROW.out g rfl _ HB2.out) (actC_one A) (World.ownsRow_made wr #[] 0 hz2 (Nat.zero_le _) (by simp)) HB2.out.size (by omega) ?_; intro v3 w3 o3 g3;
                rw [List.nil_append, Nat.zero_add] at o3; have hb3 := HB2.out.grown g3 HB2.out.size (fun k hk => by cases hk; exact hz2); have HB3 := Lib.hid hb3; have HO3 := Lib.hid o3; obtain ⟨k0, k1, f0, f1⟩ := HP.out _ hb3; obtain ⟨l0, l1, m0, m1⟩ := HP.out _ (below_alloc' (o := .cells (actC (.app Y)).toArray 72) hb3); unfold actC at l0 l1 m0 m1; clear o3 g3 hb3)
            | (at_builtin; refine wpList_append_ref rfl _ _ rfl rfl w.heap.size v3 A.length (A.flatMap actC) ⟨w3.heap.size, 0, none⟩ 1 1 (actC (.app Y)) rfl rfl rfl (cells_new w3 (actC (.app Y)) 72) hone (owns_below HO3.out (below_alloc' (Below.refl _ w3))) (below_alloc' HB3.out).size (by omega) ?_; intro v4 w4 o4 g4; have hb4 := (below_alloc' HB3.out).grown g4 (below_alloc' HB3.out).size (fun k hk => owns_new HO3.out k hk); have HB4 := Lib.hid hb4; have HO4 := Lib.hid o4; obtain ⟨l0, l1, m0, m1⟩ := HP.out _ hb4; obtain ⟨ad4, c4, rfl⟩ := owns_slice72 o4; clear o4 g4 hb4))
          have hfin := HE.out _ _ HB4.out HO4.out
          rw [← HAP.out] at hfin
          exact bodyPost_end (v := .tuple #[]) (by simp [results, Try.results33, go_sem]) rfl hfin
        | none =>
          have hA0 : A = [] := by
            rcases HA.out.2 with ⟨_, h0⟩ | ⟨g, cap, cur, hv, _⟩
            · exact List.eq_nil_of_length_eq_zero h0
            · cases hv
          subst hA0
          have hC2 : ∀ j u, (actC (.app Y))[j]? = some u → ((wr.alloc (.cells #[] 72)).alloc (.cells #[.bool false, .int .i64 0, .string (strO Y)] 72)).cell? ((⟨wr.heap.size + 1, 0, none⟩ : Addr).add j) = some u := by
            have e : (wr.alloc (.cells #[] 72)).heap.size = wr.heap.size + 1 := by simp
            have h := cells_new (wr.alloc (.cells #[] 72)) (actC (.app Y)) 72
            rw [e] at h
            exact h
          have HO2 := Lib.hid (World.ownsRow_made (base := w.heap.size) (e := 72) (size := 3) wr #[] 0 hz2 (Nat.zero_le _) (by simp))
          obtain ⟨l0, l1, m0, m1⟩ := HP.out _ (below_alloc' (o := .cells (actC (.app Y)).toArray 72) HB2.out)
          unfold actC at l0 l1 m0 m1
          go_wp2_with (at_builtin; refine wpList_append_ref rfl _ _ rfl rfl w.heap.size (.slice (some ⟨wr.heap.size, 0, none⟩) 0 0) 0 [] ⟨wr.heap.size + 1, 0, none⟩ 1 1 (actC (.app Y)) rfl rfl rfl hC2 hone (owns_below HO2.out (below_alloc' (Below.refl _ _))) (below_alloc' HB2.out).size (by omega) ?_; intro v4 w4 o4 g4; have hb4 := (below_alloc' HB2.out).grown g4 (below_alloc' HB2.out).size (fun k hk => by cases hk; exact hz2); have HB4 := Lib.hid hb4; have HO4 := Lib.hid o4; obtain ⟨l0, l1, m0, m1⟩ := HP.out _ hb4; obtain ⟨ad4, c4, rfl⟩ := owns_slice72 o4; clear o4 g4 hb4)
          have hfin := HE.out _ _ HB4.out HO4.out
          rw [← HAP.out] at hfin
          exact bodyPost_end (v := .tuple #[]) (by simp [results, Try.results33, go_sem]) rfl hfin
end Go.Proofs.Ytloijbhilfbliaa

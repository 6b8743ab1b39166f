/-
  A name is removed; a name is renamed.
-/
import Derived.Test.YtfjgefnklelnnaaOState
namespace Go.Proofs.Ytfjgefnklelnnaa
open Go.RowKit Go.Shelf

set_option maxHeartbeats 4000000 in
set_option maxRecDepth 100000 in
theorem remove_any {w : World} {p : Nat} {S : FS} {av : Value} {fs : List Value} {M I : Nat → Prop} (h : FolderS w p S av fs M I) (s : ByteArray) (hs : s.size ≤ 1000000) (hl : S.weight ≤ 90000) :
    Calls Try.prog 15 #[.pointer (some ⟨p, 0, none⟩), .string s] w fun e w' => e = .returned (.int .i64 ((S.remove s).2 : Nat)) ∧ WentS w p av fs M I (S.remove s).1 w' := by
  obtain ⟨L0, A, n⟩ := S
  have h' : FolderIn w p L0 A n av fs M I := h
  obtain ⟨lv, tv, h1, _, h3, h4, _⟩ := h'.it
  have hw : L0.length + A.length + n ≤ 90000 := hl
  obtain ⟨w1, hw1⟩ : ∃ w1, w.alloc (.cells #[.string s] 9) = w1 := ⟨_, rfl⟩
  have hb1 : Below w.heap.size w w1 := by rw [← hw1]; exact below_alloc' (Below.refl _ w)
  have hz1 : w1.heap.size = w.heap.size + 1 := by rw [← hw1]; simp
  have hf1 := FolderIn.below h' hb1
  have hbox : w1.heap[w.heap.size]? = some (.cells #[.string s] 9 (0, 0)) := by rw [← hw1]; exact heap_alloc_new w _
  have k0 : w1.cell? ⟨w.heap.size, 0, none⟩ = some (.string s) := by rw [cell_of_row _ _ _ _ _ _ hbox]; rfl
  have t1 : Four w1 p lv av tv (.int .i64 (n : Int)) := h1.same (hb1.block p h1.lt)
  have k2 := t1.at2
  have gk0 := fun d os => cell_regrown k0 d os
  have gk2 := fun d os => cell_regrown k2 d os
  have m1 : MapIs w1 tv (actsOn L0 A) := h3.same fun b hb => hb1.block b (h3.lt hb)
  have hlk := fun d os => (m1.same (w' := Sort.grow (redrawn w1 d) os) fun b hb => (below_regrown w1 d os).block b (m1.lt hb)).look s hs
  obtain ⟨m, rfl⟩ := h3.shape
  have HWW := Lib.hid fun (w' : World) (hb : Below w1.heap.size w1 w') => went_below h (Below.next hb1 hb)
  have HADD : Hid (∀ w4, Below w1.heap.size w1 w4 → Calls Try.prog 33 #[.pointer (some ⟨p, 0, none⟩), .func (.func 42) #[] #[.pointer (some ⟨w.heap.size, 0, none⟩)]] w4 fun e w' => e = .returned (.tuple #[]) ∧ WentS w p av fs M I ⟨L0, A ++ [.remove s], n⟩ w') := Lib.hid fun w4 hb4 => by
    have hb14 := Below.next hb1 hb4
    have hz4 := hb4.size
    have hf4 := FolderIn.below h' hb14
    have hbox4 := (hb4.block w.heap.size (by omega)).trans hbox
    refine (add_walk hf4 (x := .remove s) (J := fun g => g = w.heap.size) ⟨_, rfl, hbox4, rfl⟩ (fun g hg => ?_) hs (by omega) ⟨_, _, rfl⟩).mono ?_
    · have hm : ¬ M g := fun hm => by
        have := h'.mem _ (.inl hm)
        omega
      exact ⟨by omega, hm⟩
    · rintro e w' ⟨rfl, hq⟩
      exact ⟨rfl, went_add (S' := ⟨L0, A ++ [.remove s], n⟩) hb14.size (fun g hg => by omega) (Kept.below hb14) hq⟩
  have hB : (foundB (actsOn L0 A) s.data.toList = false ∧ FS.remove ⟨L0, A, n⟩ s = (⟨L0, A, n⟩, 9)) ∨ (foundB (actsOn L0 A) s.data.toList = true ∧ FS.remove ⟨L0, A, n⟩ s = (⟨L0, A ++ [.remove s], n⟩, 0)) := by
    unfold FS.remove FS.there
    cases hf : foundB (actsOn L0 A) s.data.toList with
    | true => exact .inr ⟨rfl, if_neg (by simp)⟩
    | false => exact .inl ⟨rfl, if_pos rfl⟩
  obtain ⟨fb, hfb⟩ : ∃ fb, foundB (actsOn L0 A) s.data.toList = fb := ⟨_, rfl⟩
  obtain ⟨fn, hfn⟩ : ∃ fn, foundN (actsOn L0 A) s.data.toList = fn := ⟨_, rfl⟩
  rw [hfb, hfn] at hlk
  rw [hfb] at hB
  clear h h' h1 h3 h4 hf1 hbox m1 t1 hb1 hfb hfn
  go_enter Try.func15, Try.ntmps15
  rcases hB with ⟨rfl, hB⟩ | ⟨rfl, hB⟩
  · rw [hB]
    clear hB
    go_upto_region 3 with fail
    refine wp_region_quiet_below (by kernel_rfl) (by kernel_rfl) ?_
    repeat (go_big_quiet_step (fail))
    refine wpQuiet_nil ?_
    intro _ hw'
    obtain ⟨⟨dq, osq⟩, hw''⟩ := hw'
    subst hw''
    have HW2 := Lib.hid (HWW.out _ (below_regrown w1 dq osq))
    generalize Sort.grow (redrawn w1 dq) osq = w4 at HW2 ⊢
    go_wp2
    go_ret
    exact ⟨rfl, HW2.out⟩
  · rw [hB]
    clear hB
    go_upto_region 3 with fail
    refine wp_region_quiet_below (by kernel_rfl) (by kernel_rfl) ?_
    repeat (go_big_quiet_step (fail))
    refine wpQuiet_nil ?_
    intro _ hw'
    obtain ⟨⟨dq, osq⟩, hw''⟩ := hw'
    subst hw''
    have HA := Lib.hid (HADD.out _ (below_regrown w1 dq osq))
    clear gk0 gk2 hlk
    generalize Sort.grow (redrawn w1 dq) osq = w4 at HA ⊢
    go_wp2_with (go_at_call 33; (with_reducible refine HA.out.mono ?_); rintro e w5 ⟨rfl, h5⟩; have H5 := Lib.hid h5; clear h5)
    go_ret
    exact ⟨rfl, H5.out⟩

set_option maxHeartbeats 4000000 in
set_option maxRecDepth 100000 in
theorem rename_any {w : World} {p : Nat} {S : FS} {av : Value} {fs : List Value} {M I : Nat → Prop} (h : FolderS w p S av fs M I) (a b : ByteArray) (ha : a.size ≤ 1000000) (hb : b.size ≤ 1000000) (hl : S.weight ≤ 90000) (hfb : foundN S.there a.data.toList ≤ 100000) :
    Calls Try.prog 13 #[.pointer (some ⟨p, 0, none⟩), .string a, .string b] w fun e w' => e = .returned (.int .i64 ((S.rename a b).2 : Nat)) ∧ WentS w p av fs M I (S.rename a b).1 w' := by
  obtain ⟨L0, A, n⟩ := S
  have h' : FolderIn w p L0 A n av fs M I := h
  have hfb : foundN (actsOn L0 A) a.data.toList ≤ 100000 := hfb
  obtain ⟨lv, tv, h1, _, h3, h4, _⟩ := h'.it
  have hw : L0.length + A.length + n ≤ 90000 := hl
  obtain ⟨w0, hw0⟩ : ∃ w0, w.alloc (.cells #[.string a] 9) = w0 := ⟨_, rfl⟩
  have hb0 : Below w.heap.size w w0 := by rw [← hw0]; exact below_alloc' (Below.refl _ w)
  have hz0 : w0.heap.size = w.heap.size + 1 := by rw [← hw0]; simp
  have hbox0 : w0.heap[w.heap.size]? = some (.cells #[.string a] 9 (0, 0)) := by rw [← hw0]; exact heap_alloc_new w _
  obtain ⟨w1, hw1⟩ : ∃ w1, w0.alloc (.cells #[.string b] 9) = w1 := ⟨_, rfl⟩
  have hb01 : Below w0.heap.size w0 w1 := by rw [← hw1]; exact below_alloc' (Below.refl _ w0)
  have hb1 : Below w.heap.size w w1 := Below.next hb0 hb01
  have hz1 : w1.heap.size = w0.heap.size + 1 := by rw [← hw1]; simp
  have hbox : w1.heap[w.heap.size]? = some (.cells #[.string a] 9 (0, 0)) := (hb01.block _ (by omega)).trans hbox0
  have hboxb : w1.heap[w0.heap.size]? = some (.cells #[.string b] 9 (0, 0)) := by rw [← hw1]; exact heap_alloc_new w0 _
  have k0 : w1.cell? ⟨w.heap.size, 0, none⟩ = some (.string a) := by rw [cell_of_row _ _ _ _ _ _ hbox]; rfl
  have k1 : w1.cell? ⟨w.heap.size + 1, 0, none⟩ = some (.string b) := by rw [← hz0, cell_of_row _ _ _ _ _ _ hboxb]; rfl
  have t1 : Four w1 p lv av tv (.int .i64 (n : Int)) := h1.same (hb1.block p h1.lt)
  have k2 := t1.at2
  have m1 : MapIs w1 tv (actsOn L0 A) := h3.same fun b hb => hb1.block b (h3.lt hb)
  obtain ⟨fbb, hfbb⟩ : ∃ fb, foundB (actsOn L0 A) a.data.toList = fb := ⟨_, rfl⟩
  obtain ⟨fn, hfn⟩ : ∃ fn, foundN (actsOn L0 A) a.data.toList = fn := ⟨_, rfl⟩
  have HLK : Hid (∀ W, Below w1.heap.size w1 W → (Instr.lookup 53 tv (.string a) true).run Try.prog W = .ok (.tuple #[.int .i64 (fn : Nat), .bool fbb]) W) := Lib.hid fun W hW => by
    have := (m1.same (w' := W) fun b hb => hW.block b (m1.lt hb)).look a ha
    rw [hfbb, hfn] at this
    exact this
  obtain ⟨m, rfl⟩ := h3.shape
  have HWW := Lib.hid fun (w' : World) (hb : Below w1.heap.size w1 w') => went_below h (Below.next hb1 hb)
  have HADD : Hid (Calls Try.prog 33 #[.pointer (some ⟨p, 0, none⟩), .func (.func 40) #[] #[.pointer (some ⟨w.heap.size, 0, none⟩), .pointer (some ⟨w.heap.size + 1 + 1, 0, none⟩), .pointer (some ⟨w.heap.size + 1, 0, none⟩)]] (w1.alloc (.cells #[.int .i64 (fn : Int)] 3)).drew fun e w' => e = .returned (.tuple #[]) ∧ WentS w p av fs M I ⟨L0, A ++ [.rename a b fn], n⟩ w') := Lib.hid (by
    have hn3 : ((w1.alloc (.cells #[.int .i64 (fn : Int)] 3)).drew).heap[w1.heap.size]? = some (.cells #[.int .i64 (fn : Int)] 3 (0, 0)) := heap_alloc_new w1 _
    have hb43 := below_drewO (below_alloc' (o := .cells #[.int .i64 (fn : Int)] 3) (Below.refl _ w1))
    have hz3 : ((w1.alloc (.cells #[.int .i64 (fn : Int)] 3)).drew).heap.size = w1.heap.size + 1 := by show (w1.alloc _).heap.size = _; simp
    rw [hz1, hz0] at hn3
    generalize (w1.alloc (.cells #[.int .i64 (fn : Int)] 3)).drew = W at hn3 hb43 hz3 ⊢
    have hb14 := Below.next hb1 hb43
    have hf4 := FolderIn.below h' hb14
    have hbox4 := (hb43.block w.heap.size (by omega)).trans hbox
    have hbox5 := (hb43.block w0.heap.size (by omega)).trans hboxb
    rw [hz0] at hbox5
    refine (add_walk hf4 (x := .rename a b fn) (J := fun g => g = w.heap.size ∨ g = w.heap.size + 1 + 1 ∨ g = w.heap.size + 1) ⟨_, _, _, rfl, hbox4, hn3, hbox5, .inl rfl, .inr (.inl rfl), .inr (.inr rfl)⟩ (fun g hg => ?_) ⟨ha, hb, by omega⟩ (by omega) ⟨_, _, rfl⟩).mono ?_
    · have hm : ¬ M g := fun hm => by
        have := h'.mem _ (.inl hm)
        omega
      exact ⟨by omega, hm⟩
    · rintro e w' ⟨rfl, hq⟩
      exact ⟨rfl, went_add (S' := ⟨L0, A ++ [.rename a b fn], n⟩) hb14.size (fun g hg => by omega) (Kept.below hb14) hq⟩)
  have HC : Hid (∀ W, Below w1.heap.size w1 W → W.cell? ⟨p, 2, none⟩ = some (.map m) ∧ W.cell? ⟨w.heap.size, 0, none⟩ = some (.string a)) := Lib.hid fun W hW => by
    have t : Four W p _ _ _ _ := t1.same (hW.block p t1.lt)
    exact ⟨t.at2, by rw [cell_of_row _ _ _ _ _ _ ((hW.block _ (by omega)).trans hbox)]; rfl⟩
  have q32 := fun W => may_any b W hb
  have hB : (mayB b = false ∧ FS.rename ⟨L0, A, n⟩ a b = (⟨L0, A, n⟩, 2)) ∨ (mayB b = true ∧ fbb = false ∧ FS.rename ⟨L0, A, n⟩ a b = (⟨L0, A, n⟩, 9)) ∨ (mayB b = true ∧ fbb = true ∧ FS.rename ⟨L0, A, n⟩ a b = (⟨L0, A ++ [.rename a b fn], n⟩, 0)) := by
    unfold FS.rename FS.there
    cases hm : mayB b with
    | false => exact .inl ⟨rfl, if_pos rfl⟩
    | true =>
      rw [if_neg (by simp), hfbb, hfn]
      cases fbb with
      | true => exact .inr (.inr ⟨rfl, rfl, if_neg (by simp)⟩)
      | false => exact .inr (.inl ⟨rfl, rfl, if_pos rfl⟩)
  have hW0 := HWW.out w1 (Below.refl _ _)
  have HW0 := Lib.hid hW0
  clear h h' h1 h3 h4 hbox hbox0 hboxb m1 t1 hb1 hb0 hb01 hfbb hfn hW0
  go_enter Try.func13, Try.ntmps13
  rcases hB with ⟨hm, hB⟩ | ⟨hm, rfl, hB⟩ | ⟨hm, rfl, hB⟩
  · rw [hB]
    rw [hm] at q32
    clear hB hm HLK
    go_wp2_with (go_at_call 32; (with_reducible refine (q32 _).mono ?_); rintro e w2 ⟨rfl, rfl⟩)
    go_ret
    exact ⟨rfl, HW0.out⟩
  · rw [hB]
    rw [hm] at q32
    clear hB hm
    go_upto_region 5 with (go_at_call 32; (with_reducible refine (q32 _).mono ?_); rintro e w2 ⟨rfl, rfl⟩)
    have hlk := HLK.out w1.drew (below_drewO (Below.refl _ _))
    have hba := below_drewO (below_alloc' (o := .cells #[.int .i64 0] 3) (Below.refl _ w1))
    have hlk2 := HLK.out _ hba
    obtain ⟨c2, c0⟩ := HC.out _ hba
    clear hba
    have HWX := Lib.hid (HWW.out _ (below_drewO (below_alloc' (o := .cells #[.int .i64 (fn : Int)] 3) (Below.refl _ w1))))
    go_region
    all_goals
      go_wp2
      go_ret
      exact ⟨rfl, HWX.out⟩
  · rw [hB]
    rw [hm] at q32
    clear hB hm
    go_upto_region 5 with (go_at_call 32; (with_reducible refine (q32 _).mono ?_); rintro e w2 ⟨rfl, rfl⟩)
    have hlk := HLK.out w1.drew (below_drewO (Below.refl _ _))
    have hba := below_drewO (below_alloc' (o := .cells #[.int .i64 0] 3) (Below.refl _ w1))
    have hlk2 := HLK.out _ hba
    obtain ⟨c2, c0⟩ := HC.out _ hba
    clear hba
    go_region
    all_goals
      go_wp2_with (go_at_call 33; (with_reducible refine HADD.out.mono ?_); rintro e w5 ⟨rfl, h5⟩; have H5 := Lib.hid h5; clear h5)
      go_ret
      exact ⟨rfl, H5.out⟩
end Go.Proofs.Ytfjgefnklelnnaa

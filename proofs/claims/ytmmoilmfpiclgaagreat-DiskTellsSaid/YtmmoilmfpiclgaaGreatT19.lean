/-
  A folder, told: what lasts, the acts behind it, the greatest number; what its methods make of that. A name is removed; a name is renamed.
-/
import Derived.Test.YtmmoilmfpiclgaaGreatT18
import Derived.Lib.QuietBelow
import Derived.BigQuiet
set_option linter.unusedVariables false
set_option linter.unusedSimpArgs false
namespace Go.Proofs.YtmmoilmfpiclgaaGreat.Fld
open Go.RowKit Go.Shelf
set_option linter.unusedSectionVars false
variable [FoldIn]

structure FS where
  L0 : Names
  A : List FAct
  n : Nat

def FS.there (S : FS) : Names := actsOn S.L0 S.A
def FS.new : FS := ⟨[], [], 0⟩
/-- A name is created: the folder, its number, the error. -/
def FS.create (S : FS) (s : ByteArray) : FS × Nat × Nat :=
  if mayB s = false then (S, 0, 2) else if foundB S.there s.data.toList = true then (S, 0, 8) else (⟨S.L0, S.A ++ [.create s (S.n + 1)], S.n + 1⟩, S.n + 1, 0)
def FS.rename (S : FS) (a b : ByteArray) : FS × Nat :=
  if mayB b = false then (S, 2) else if foundB S.there a.data.toList = false then (S, 9) else (⟨S.L0, S.A ++ [.rename a b (foundN S.there a.data.toList)], S.n⟩, 0)
def FS.remove (S : FS) (s : ByteArray) : FS × Nat :=
  if foundB S.there s.data.toList = false then (S, 9) else (⟨S.L0, S.A ++ [.remove s], S.n⟩, 0)
def FS.sync (S : FS) : FS := ⟨S.there, [], S.n⟩
def FS.survive (S : FS) (k : Int) : FS := ⟨actsOn S.L0 (S.A.take (upTo k S.A.length)), [], S.n⟩

/-- How great it is: what the contracts' bounds ask. -/
def FS.weight (S : FS) : Nat := S.L0.length + S.A.length + S.n

/-- A folder in memory: av, fs: the slice of its acts, and what is in it; M: the blocks that it writes; I: those that it only reads. -/
def FolderS (w : World) (p : Nat) (S : FS) (av : Value) (fs : List Value) (M I : Nat → Prop) : Prop := FolderIn w p S.L0 S.A S.n av fs M I

/-- Behind a method. -/
def WentS (w : World) (p : Nat) (av : Value) (fs : List Value) (M I : Nat → Prop) (S : FS) (w' : World) : Prop :=
  ∃ av' fs' M' I', FolderS w' p S av' fs' M' I' ∧ (∀ g, M' g → M g ∨ w.heap.size ≤ g) ∧ (∀ g, I' g → I g ∨ w.heap.size ≤ g) ∧ Kept M w w' ∧ RowKeeps w' av fs av' fs'

theorem rowKeeps_same {w w' : World} {av : Value} {fs : List Value} (h : ARow w av fs) (he : ∀ g, av.ownBlock = some g → w'.heap[g]? = w.heap[g]?) : RowKeeps w' av fs av fs := fun b m hb hm =>
  ⟨(h.cut hb hm).same fun g hg => by cases hg; exact he b hb, fun _ => ⟨hm, rfl⟩⟩

/-- Where nothing but new blocks has come. -/
theorem went_below {w w' : World} {p : Nat} {S : FS} {av : Value} {fs : List Value} {M I : Nat → Prop} (h : FolderS w p S av fs M I) (hb : Below w.heap.size w w') : WentS w p av fs M I S w' :=
  ⟨av, fs, M, I, FolderIn.below h hb, fun _ h => .inl h, fun _ h => .inl h, Kept.below hb, rowKeeps_same h.row fun g hg => hb.block g (h.row.lt hg)⟩

theorem FolderIn.count {w : World} {p : Nat} {L0 : Names} {A : List FAct} {n : Nat} {av : Value} {fs : List Value} {M I : Nat → Prop} (h : FolderIn w p L0 A n av fs M I) (n' : Nat) (hn : n' ≤ 100000) :
    FolderIn (w.setCell ⟨p, 3, none⟩ (.int .i64 (n' : Int))) p L0 A n' av fs M I ∧ Kept M w (w.setCell ⟨p, 3, none⟩ (.int .i64 (n' : Int))) ∧ RowKeeps (w.setCell ⟨p, 3, none⟩ (.int .i64 (n' : Int))) av fs av fs := by
  obtain ⟨lv, tv, h1, h2, h3, h4, h5, h6, h7⟩ := h.it
  have nm : ∀ g, (∃ es clock, w.heap[g]? = some (.map es clock)) → g ≠ p := fun g ⟨es, clock, hm⟩ e => by
    rw [e, h1] at hm; cases hm
  have nr : ∀ g, av.ownBlock = some g → g ≠ p := fun g hg => by
    obtain ⟨cs, hc⟩ := h.row.mem hg
    exact two_types hc h1 (FoldIn.hT.symm)
  refine ⟨⟨⟨lv, tv, h1.set3 _, h2.same fun b hb => heap_setCell_ne (nm b (h2.mem hb)), h3.same fun b hb => heap_setCell_ne (nm b (h3.mem hb)), h4, h5, h6, h7⟩, h.row.same fun g hg => heap_setCell_ne (nr g hg), h.acts.same (fun g hg _ => heap_setCell_ne fun e => h.apart g hg (by rw [e]; exact h4)) (fun _ h => h), h.room, h.fine, ⟨h.small.1, hn⟩, fun g hg => by simpa using h.mem g hg, h.apart⟩, Kept.grown (grown_setCell _ _ _ _) (fun g hg => by cases hg; exact h4), rowKeeps_same h.row fun g hg => heap_setCell_ne (nr g hg)⟩

theorem kept_m {w w' : World} {M : Nat → Prop} {av : Value} {fs : List Value} (h : ARow w av fs) : Kept M w w' → (∀ g, av.ownBlock = some g → ¬ M g) → ∀ g, av.ownBlock = some g → w'.heap[g]? = w.heap[g]? := fun hk hn g hg => hk.block g (h.lt hg) (hn g hg)

/-- Behind the call that does an act, in a world that has come of w without the row. -/
theorem went_add {w wb w' : World} {p : Nat} {S' : FS} {av : Value} {fs : List Value} {M I J : Nat → Prop} (hz : w.heap.size ≤ wb.heap.size) (hJ : ∀ g, J g → w.heap.size ≤ g) (hk : Kept M w wb)
    (h : ∃ av' fs' M', FolderIn w' p S'.L0 S'.A S'.n av' fs' M' (fun g => I g ∨ J g) ∧ (∀ g, M' g → M g ∨ wb.heap.size ≤ g) ∧ Kept M wb w' ∧ RowKeeps w' av fs av' fs') : WentS w p av fs M I S' w' := by
  obtain ⟨av', fs', M', h1, h2, h3, h4⟩ := h
  refine ⟨av', fs', M', _, h1, fun g hg => ?_, fun g hg => ?_, hk.trans h3 (fun g hg => .inl hg), h4⟩
  · rcases h2 g hg with k | k
    · exact .inl k
    · exact .inr (by omega)
  · rcases hg with k | k
    · exact .inl k
    · exact .inr (hJ g k)

set_option maxHeartbeats 4000000 in
set_option maxRecDepth 100000 in
theorem create_any {w : World} {p : Nat} {S : FS} {av : Value} {fs : List Value} {M I : Nat → Prop} (h : FolderS w p S av fs M I) (s : ByteArray) (hs : s.size ≤ nameMax) (hl : S.weight ≤ 90000) :
    Calls Tryz.prog 38 #[.pointer (some ⟨p, 0, none⟩), .string s] w fun e w' => e = .returned (.tuple #[.int .i64 ((S.create s).2.1 : Nat), .int .i64 ((S.create s).2.2 : Nat)]) ∧ WentS w p av fs M I (S.create s).1 w' := by
  obtain ⟨L0, A, n⟩ := S
  have h' : FolderIn w p L0 A n av fs M I := h
  obtain ⟨lv, tv, h1, _, h3, h4, _⟩ := h'.it
  have hw : L0.length + A.length + n ≤ 90000 := hl
  obtain ⟨w1, hw1⟩ : ∃ w1, w.alloc (.cells #[.string s] 9) = w1 := ⟨_, rfl⟩
  have hb1 : Below w.heap.size w w1 := by rw [← hw1]; exact below_alloc' (Below.refl _ w)
  have hz1 : w1.heap.size = w.heap.size + 1 := by rw [← hw1]; simp
  have hf1 := FolderIn.below h' hb1
  have hbox : w1.heap[w.heap.size]? = some (.cells #[.string s] 9 (0, 0)) := by rw [← hw1]; exact heap_alloc_new w _
  have k0 : w1.cell? ⟨w.heap.size, 0, none⟩ = some (.string s) := by rw [cell_of_row _ _ _ _ _ _ hbox]; rfl
  have t1 : Four w1 p lv av tv (.int .i64 (n : Int)) := h1.same (hb1.block p h1.lt)
  have k2 := t1.at2
  have k3 := t1.at3
  have gk0 := fun d os => cell_regrown k0 d os
  have gk2 := fun d os => cell_regrown k2 d os
  have f3 := t1.free 3
  have m1 : MapIs w1 tv (actsOn L0 A) := h3.same fun b hb => hb1.block b (h3.lt hb)
  have hlk := fun d os => (m1.same (w' := Sort.grow (redrawn w1 d) os) fun b hb => (below_regrown w1 d os).block b (m1.lt hb)).look s hs
  obtain ⟨m, rfl⟩ := h3.shape
  have q32 := fun W => may_any s W hs
  have HW := Lib.hid (went_below h hb1)
  have HWW := Lib.hid fun (w' : World) (hb : Below w1.heap.size w1 w') => went_below h (Below.next hb1 hb)
  have HADD : Hid (∀ w4, Below w1.heap.size w1 w4 → ∀ W, W = (w4.setCell ⟨p, 3, none⟩ (.int .i64 ((n + 1 : Nat) : Int))).alloc (.cells #[.int .i64 ((n + 1 : Nat) : Int)] 3) → Calls Tryz.prog 93 #[.pointer (some ⟨p, 0, none⟩), .func (.func 94) #[] #[.pointer (some ⟨w4.heap.size, 0, none⟩), .pointer (some ⟨w.heap.size, 0, none⟩)]] W fun e w' => e = .returned (.tuple #[]) ∧ WentS w p av fs M I ⟨L0, A ++ [.create s (n + 1)], n + 1⟩ w' ∧ w'.cell? ⟨w4.heap.size, 0, none⟩ = some (.int .i64 ((n + 1 : Nat) : Int))) := Lib.hid fun w4 hb4 W hW => by
    subst hW
    have hb14 := Below.next hb1 hb4
    have hz4 := hb4.size
    have hf4 := FolderIn.below h' hb14
    have hbox4 := (hb4.block w.heap.size (by omega)).trans hbox
    clear hbox hf1
    obtain ⟨c1, c2, c3⟩ := hf4.count (n + 1) (by omega)
    have hbz : (w4.setCell ⟨p, 3, none⟩ (.int .i64 ((n + 1 : Nat) : Int))).heap.size = w4.heap.size := by simp
    generalize w4.setCell ⟨p, 3, none⟩ (.int .i64 ((n + 1 : Nat) : Int)) = w2 at c1 c2 c3 hbz ⊢
    have hb3 := below_alloc' (o := .cells #[.int .i64 ((n + 1 : Nat) : Int)] 3) (Below.refl _ w2)
    have c4 := c1.below hb3
    have hn3 := heap_alloc_new w2 (.cells #[.int .i64 ((n + 1 : Nat) : Int)] 3)
    have hz3 : (w2.alloc (.cells #[.int .i64 ((n + 1 : Nat) : Int)] 3)).heap.size = w4.heap.size + 1 := by simp; omega
    rw [hbz] at hn3
    have hbx : (w2.alloc (.cells #[.int .i64 ((n + 1 : Nat) : Int)] 3)).heap[w.heap.size]? = some (.cells #[.string s] 9 (0, 0)) := by
      rw [hb3.block _ (by omega), c2.block _ (by omega) (fun hm => by have := h'.mem _ (.inl hm); omega)]
      exact hbox4
    generalize w2.alloc (.cells #[.int .i64 ((n + 1 : Nat) : Int)] 3) = w3 at c4 hn3 hz3 hbx hb3
    have hk3 : Kept M w w3 := ((Kept.below hb14).trans c2 (fun g hg => .inl hg)).trans (Kept.below hb3) (fun g hg => .inl hg)
    refine (add_walk c4 (x := .create s (n + 1)) (J := fun g => g = w4.heap.size ∨ g = w.heap.size) ⟨_, _, rfl, hn3, hbx, .inl rfl, .inr rfl⟩ (fun g hg => ?_) ⟨hs, by omega⟩ (by omega) ⟨_, _, rfl⟩).mono ?_
    · have hm : ¬ M g := fun hm => by
        have := h'.mem _ (.inl hm)
        rcases hg with rfl | rfl <;> omega
      rcases hg with rfl | rfl
      · exact ⟨by omega, hm⟩
      · exact ⟨by omega, hm⟩
    · rintro e w' ⟨rfl, hq⟩
      refine ⟨rfl, went_add (S' := ⟨L0, A ++ [.create s (n + 1)], n + 1⟩) hk3.size (fun g hg => by rcases hg with rfl | rfl <;> omega) hk3 hq, ?_⟩
      obtain ⟨_, _, _, q1, q2, q3, q4⟩ := hq
      have := q3.block w4.heap.size (by omega) (fun hm => by have := h'.mem _ (.inl hm); omega)
      rw [cell_of_row _ _ _ _ _ _ (this.trans hn3)]
      rfl
  have hnw : wrap64 ((n : Int) + 1) = ((n + 1 : Nat) : Int) := by unfold wrap64; omega
  have F4 := Lib.hid t1
  obtain ⟨n1, hn1⟩ : ∃ n1, n + 1 = n1 := ⟨_, rfl⟩
  rw [hn1] at hnw
  simp only [hn1] at HADD
  have hnw2 : (n : Int) + 1 = (n1 : Int) := by omega
  clear h h' h1 h3 h4 hf1 hbox m1 t1 hb1
  have hm : mayB s = true ∨ mayB s = false := by cases mayB s <;> simp
  rcases hm with hm | hm
  · have hB : (foundB (actsOn L0 A) s.data.toList = true ∧ FS.create ⟨L0, A, n⟩ s = (⟨L0, A, n⟩, 0, 8)) ∨ (foundB (actsOn L0 A) s.data.toList = false ∧ FS.create ⟨L0, A, n⟩ s = (⟨L0, A ++ [.create s (n + 1)], n + 1⟩, n + 1, 0)) := by
      unfold FS.create FS.there
      rw [if_neg (by rw [hm]; simp)]
      cases hf : foundB (actsOn L0 A) s.data.toList with
      | true => exact .inl ⟨rfl, if_pos rfl⟩
      | false => exact .inr ⟨rfl, if_neg (by simp)⟩
    rw [hm] at q32
    obtain ⟨fb, hfb⟩ : ∃ fb, foundB (actsOn L0 A) s.data.toList = fb := ⟨_, rfl⟩
    obtain ⟨fn, hfn⟩ : ∃ fn, foundN (actsOn L0 A) s.data.toList = fn := ⟨_, rfl⟩
    rw [hfb, hfn] at hlk
    rw [hfb] at hB
    simp only [hn1] at hB
    clear hfb hfn hm hn1
    go_enter Tryz.func38, Tryz.ntmps38
    rcases hB with ⟨rfl, hB⟩ | ⟨rfl, hB⟩
    · rw [hB]
      clear hB
      go_upto_region 5 with (go_at_call 92; (with_reducible refine (q32 _).mono ?_); rintro e w2 ⟨rfl, rfl⟩)
      refine wp_region_quiet_below (by kernel_rfl) (by kernel_rfl) ?_
      repeat (go_big_quiet_step (fail))
      refine wpQuiet_nil ?_
      intro _ hw'
      obtain ⟨⟨dq, osq⟩, hw''⟩ := hw'
      subst hw''
      have HW2 := Lib.hid (HWW.out _ (below_regrown w1 dq osq))
      generalize Sort.grow (redrawn w1 dq) osq = w4 at HW2 ⊢
      go_wp2
      go_ret2
      exact ⟨rfl, HW2.out⟩
    · rw [hB]
      clear hB
      go_upto_region 5 with (go_at_call 92; (with_reducible refine (q32 _).mono ?_); rintro e w2 ⟨rfl, rfl⟩)
      refine wp_region_quiet_below (by kernel_rfl) (by kernel_rfl) ?_
      repeat (go_big_quiet_step (fail))
      refine wpQuiet_nil ?_
      intro _ hw'
      obtain ⟨⟨dq, osq⟩, hw''⟩ := hw'
      subst hw''
      have hb4 := below_regrown w1 dq osq
      have y3 := fun d os => cell_regrown k3 d os
      have y3 := y3 dq osq
      have z3 : (Sort.grow (redrawn w1 dq) osq).frozen? ⟨p, 3, none⟩ = false := (F4.out.same (hb4.block p F4.out.lt)).free 3
      have HA := Lib.hid (HADD.out _ hb4 _ rfl)
      clear gk0 gk2 hlk hb4
      generalize Sort.grow (redrawn w1 dq) osq = w4 at HA y3 z3 ⊢
      go_wp2_with (go_at_call 93; (with_reducible refine HA.out.mono ?_); rintro e w5 ⟨rfl, h5, c5⟩; have H5 := Lib.hid h5; clear h5)
      go_ret2
      exact ⟨rfl, H5.out⟩
  · rw [show FS.create ⟨L0, A, n⟩ s = (⟨L0, A, n⟩, 0, 2) by unfold FS.create; rw [if_pos hm]]
    rw [hm] at q32
    go_enter Tryz.func38, Tryz.ntmps38
    go_wp2_with (go_at_call 92; (with_reducible refine (q32 _).mono ?_); rintro e w2 ⟨rfl, rfl⟩)
    go_ret2
    exact ⟨rfl, HW.out⟩
end Go.Proofs.YtmmoilmfpiclgaaGreat.Fld
namespace Go.Proofs.YtmmoilmfpiclgaaGreat.Fld
open Go.RowKit Go.Shelf
set_option linter.unusedSectionVars false
variable [FoldIn]

set_option maxHeartbeats 4000000 in
set_option maxRecDepth 100000 in
theorem remove_any {w : World} {p : Nat} {S : FS} {av : Value} {fs : List Value} {M I : Nat → Prop} (h : FolderS w p S av fs M I) (s : ByteArray) (hs : s.size ≤ nameMax) (hl : S.weight ≤ 90000) :
    Calls Tryz.prog 87 #[.pointer (some ⟨p, 0, none⟩), .string s] w fun e w' => e = .returned (.int .i64 ((S.remove s).2 : Nat)) ∧ WentS w p av fs M I (S.remove s).1 w' := by
  obtain ⟨L0, A, n⟩ := S
  have h' : FolderIn w p L0 A n av fs M I := h
  obtain ⟨lv, tv, h1, _, h3, h4, _⟩ := h'.it
  have hw : L0.length + A.length + n ≤ 90000 := hl
  obtain ⟨w1, hw1⟩ : ∃ w1, w.alloc (.cells #[.string s] 9) = w1 := ⟨_, rfl⟩
  have hb1 : Below w.heap.size w w1 := by rw [← hw1]; exact below_alloc' (Below.refl _ w)
  have hz1 : w1.heap.size = w.heap.size + 1 := by rw [← hw1]; simp
  have hf1 := FolderIn.below h' hb1
  have hbox : w1.heap[w.heap.size]? = some (.cells #[.string s] 9 (0, 0)) := by rw [← hw1]; exact heap_alloc_new w _
  have k0 : w1.cell? ⟨w.heap.size, 0, none⟩ = some (.string s) := by rw [cell_of_row _ _ _ _ _ _ hbox]; rfl
  have t1 : Four w1 p lv av tv (.int .i64 (n : Int)) := h1.same (hb1.block p h1.lt)
  have k2 := t1.at2
  have gk0 := fun d os => cell_regrown k0 d os
  have gk2 := fun d os => cell_regrown k2 d os
  have m1 : MapIs w1 tv (actsOn L0 A) := h3.same fun b hb => hb1.block b (h3.lt hb)
  have hlk := fun d os => (m1.same (w' := Sort.grow (redrawn w1 d) os) fun b hb => (below_regrown w1 d os).block b (m1.lt hb)).look s hs
  obtain ⟨m, rfl⟩ := h3.shape
  have HWW := Lib.hid fun (w' : World) (hb : Below w1.heap.size w1 w') => went_below h (Below.next hb1 hb)
  have HADD : Hid (∀ w4, Below w1.heap.size w1 w4 → Calls Tryz.prog 93 #[.pointer (some ⟨p, 0, none⟩), .func (.func 134) #[] #[.pointer (some ⟨w.heap.size, 0, none⟩)]] w4 fun e w' => e = .returned (.tuple #[]) ∧ WentS w p av fs M I ⟨L0, A ++ [.remove s], n⟩ w') := Lib.hid fun w4 hb4 => by
    have hb14 := Below.next hb1 hb4
    have hz4 := hb4.size
    have hf4 := FolderIn.below h' hb14
    have hbox4 := (hb4.block w.heap.size (by omega)).trans hbox
    refine (add_walk hf4 (x := .remove s) (J := fun g => g = w.heap.size) ⟨_, rfl, hbox4, rfl⟩ (fun g hg => ?_) hs (by omega) ⟨_, _, rfl⟩).mono ?_
    · have hm : ¬ M g := fun hm => by
        have := h'.mem _ (.inl hm)
        omega
      exact ⟨by omega, hm⟩
    · rintro e w' ⟨rfl, hq⟩
      exact ⟨rfl, went_add (S' := ⟨L0, A ++ [.remove s], n⟩) hb14.size (fun g hg => by omega) (Kept.below hb14) hq⟩
  have hB : (foundB (actsOn L0 A) s.data.toList = false ∧ FS.remove ⟨L0, A, n⟩ s = (⟨L0, A, n⟩, 9)) ∨ (foundB (actsOn L0 A) s.data.toList = true ∧ FS.remove ⟨L0, A, n⟩ s = (⟨L0, A ++ [.remove s], n⟩, 0)) := by
    unfold FS.remove FS.there
    cases hf : foundB (actsOn L0 A) s.data.toList with
    | true => exact .inr ⟨rfl, if_neg (by simp)⟩
    | false => exact .inl ⟨rfl, if_pos rfl⟩
  obtain ⟨fb, hfb⟩ : ∃ fb, foundB (actsOn L0 A) s.data.toList = fb := ⟨_, rfl⟩
  obtain ⟨fn, hfn⟩ : ∃ fn, foundN (actsOn L0 A) s.data.toList = fn := ⟨_, rfl⟩
  rw [hfb, hfn] at hlk
  rw [hfb] at hB
  clear h h' h1 h3 h4 hf1 hbox m1 t1 hb1 hfb hfn
  go_enter Tryz.func87, Tryz.ntmps87
  rcases hB with ⟨rfl, hB⟩ | ⟨rfl, hB⟩
  · rw [hB]
    clear hB
    go_upto_region 3 with fail
    refine wp_region_quiet_below (by kernel_rfl) (by kernel_rfl) ?_
    repeat (go_big_quiet_step (fail))
    refine wpQuiet_nil ?_
    intro _ hw'
    obtain ⟨⟨dq, osq⟩, hw''⟩ := hw'
    subst hw''
    have HW2 := Lib.hid (HWW.out _ (below_regrown w1 dq osq))
    generalize Sort.grow (redrawn w1 dq) osq = w4 at HW2 ⊢
    go_wp2
    go_ret
    exact ⟨rfl, HW2.out⟩
  · rw [hB]
    clear hB
    go_upto_region 3 with fail
    refine wp_region_quiet_below (by kernel_rfl) (by kernel_rfl) ?_
    repeat (go_big_quiet_step (fail))
    refine wpQuiet_nil ?_
    intro _ hw'
    obtain ⟨⟨dq, osq⟩, hw''⟩ := hw'
    subst hw''
    have HA := Lib.hid (HADD.out _ (below_regrown w1 dq osq))
    clear gk0 gk2 hlk
    generalize Sort.grow (redrawn w1 dq) osq = w4 at HA ⊢
    go_wp2_with (go_at_call 93; (with_reducible refine HA.out.mono ?_); rintro e w5 ⟨rfl, h5⟩; have H5 := Lib.hid h5; clear h5)
    go_ret
    exact ⟨rfl, H5.out⟩

set_option maxHeartbeats 4000000 in
set_option maxRecDepth 100000 in
theorem rename_any {w : World} {p : Nat} {S : FS} {av : Value} {fs : List Value} {M I : Nat → Prop} (h : FolderS w p S av fs M I) (a b : ByteArray) (ha : a.size ≤ nameMax) (hb : b.size ≤ nameMax) (hl : S.weight ≤ 90000) (hfb : foundN S.there a.data.toList ≤ 100000) :
    Calls Tryz.prog 84 #[.pointer (some ⟨p, 0, none⟩), .string a, .string b] w fun e w' => e = .returned (.int .i64 ((S.rename a b).2 : Nat)) ∧ WentS w p av fs M I (S.rename a b).1 w' := by
  obtain ⟨L0, A, n⟩ := S
  have h' : FolderIn w p L0 A n av fs M I := h
  have hfb : foundN (actsOn L0 A) a.data.toList ≤ 100000 := hfb
  obtain ⟨lv, tv, h1, _, h3, h4, _⟩ := h'.it
  have hw : L0.length + A.length + n ≤ 90000 := hl
  obtain ⟨w0, hw0⟩ : ∃ w0, w.alloc (.cells #[.string a] 9) = w0 := ⟨_, rfl⟩
  have hb0 : Below w.heap.size w w0 := by rw [← hw0]; exact below_alloc' (Below.refl _ w)
  have hz0 : w0.heap.size = w.heap.size + 1 := by rw [← hw0]; simp
  have hbox0 : w0.heap[w.heap.size]? = some (.cells #[.string a] 9 (0, 0)) := by rw [← hw0]; exact heap_alloc_new w _
  obtain ⟨w1, hw1⟩ : ∃ w1, w0.alloc (.cells #[.string b] 9) = w1 := ⟨_, rfl⟩
  have hb01 : Below w0.heap.size w0 w1 := by rw [← hw1]; exact below_alloc' (Below.refl _ w0)
  have hb1 : Below w.heap.size w w1 := Below.next hb0 hb01
  have hz1 : w1.heap.size = w0.heap.size + 1 := by rw [← hw1]; simp
  have hbox : w1.heap[w.heap.size]? = some (.cells #[.string a] 9 (0, 0)) := (hb01.block _ (by omega)).trans hbox0
  have hboxb : w1.heap[w0.heap.size]? = some (.cells #[.string b] 9 (0, 0)) := by rw [← hw1]; exact heap_alloc_new w0 _
  have k0 : w1.cell? ⟨w.heap.size, 0, none⟩ = some (.string a) := by rw [cell_of_row _ _ _ _ _ _ hbox]; rfl
  have k1 : w1.cell? ⟨w.heap.size + 1, 0, none⟩ = some (.string b) := by rw [← hz0, cell_of_row _ _ _ _ _ _ hboxb]; rfl
  have t1 : Four w1 p lv av tv (.int .i64 (n : Int)) := h1.same (hb1.block p h1.lt)
  have k2 := t1.at2
  have m1 : MapIs w1 tv (actsOn L0 A) := h3.same fun b hb => hb1.block b (h3.lt hb)
  obtain ⟨fbb, hfbb⟩ : ∃ fb, foundB (actsOn L0 A) a.data.toList = fb := ⟨_, rfl⟩
  obtain ⟨fn, hfn⟩ : ∃ fn, foundN (actsOn L0 A) a.data.toList = fn := ⟨_, rfl⟩
  have HLK : Hid (∀ W, Below w1.heap.size w1 W → (Instr.lookup 68 tv (.string a) true).run Tryz.prog W = .ok (.tuple #[.int .i64 (fn : Nat), .bool fbb]) W) := Lib.hid fun W hW => by
    have := (m1.same (w' := W) fun b hb => hW.block b (m1.lt hb)).look a ha
    rw [hfbb, hfn] at this
    exact this
  obtain ⟨m, rfl⟩ := h3.shape
  have HWW := Lib.hid fun (w' : World) (hb : Below w1.heap.size w1 w') => went_below h (Below.next hb1 hb)
  have HADD : Hid (Calls Tryz.prog 93 #[.pointer (some ⟨p, 0, none⟩), .func (.func 133) #[] #[.pointer (some ⟨w.heap.size, 0, none⟩), .pointer (some ⟨w.heap.size + 1 + 1, 0, none⟩), .pointer (some ⟨w.heap.size + 1, 0, none⟩)]] (w1.alloc (.cells #[.int .i64 (fn : Int)] 3)).drew fun e w' => e = .returned (.tuple #[]) ∧ WentS w p av fs M I ⟨L0, A ++ [.rename a b fn], n⟩ w') := Lib.hid (by
    have hn3 : ((w1.alloc (.cells #[.int .i64 (fn : Int)] 3)).drew).heap[w1.heap.size]? = some (.cells #[.int .i64 (fn : Int)] 3 (0, 0)) := heap_alloc_new w1 _
    have hb43 := below_drewO (below_alloc' (o := .cells #[.int .i64 (fn : Int)] 3) (Below.refl _ w1))
    have hz3 : ((w1.alloc (.cells #[.int .i64 (fn : Int)] 3)).drew).heap.size = w1.heap.size + 1 := by show (w1.alloc _).heap.size = _; simp
    rw [hz1, hz0] at hn3
    generalize (w1.alloc (.cells #[.int .i64 (fn : Int)] 3)).drew = W at hn3 hb43 hz3 ⊢
    have hb14 := Below.next hb1 hb43
    have hf4 := FolderIn.below h' hb14
    have hbox4 := (hb43.block w.heap.size (by omega)).trans hbox
    have hbox5 := (hb43.block w0.heap.size (by omega)).trans hboxb
    rw [hz0] at hbox5
    refine (add_walk hf4 (x := .rename a b fn) (J := fun g => g = w.heap.size ∨ g = w.heap.size + 1 + 1 ∨ g = w.heap.size + 1) ⟨_, _, _, rfl, hbox4, hn3, hbox5, .inl rfl, .inr (.inl rfl), .inr (.inr rfl)⟩ (fun g hg => ?_) ⟨ha, hb, by omega⟩ (by omega) ⟨_, _, rfl⟩).mono ?_
    · have hm : ¬ M g := fun hm => by
        have := h'.mem _ (.inl hm)
        omega
      exact ⟨by omega, hm⟩
    · rintro e w' ⟨rfl, hq⟩
      exact ⟨rfl, went_add (S' := ⟨L0, A ++ [.rename a b fn], n⟩) hb14.size (fun g hg => by omega) (Kept.below hb14) hq⟩)
  have HC : Hid (∀ W, Below w1.heap.size w1 W → W.cell? ⟨p, 2, none⟩ = some (.map m) ∧ W.cell? ⟨w.heap.size, 0, none⟩ = some (.string a)) := Lib.hid fun W hW => by
    have t : Four W p _ _ _ _ := t1.same (hW.block p t1.lt)
    exact ⟨t.at2, by rw [cell_of_row _ _ _ _ _ _ ((hW.block _ (by omega)).trans hbox)]; rfl⟩
  have q32 := fun W => may_any b W hb
  have hB : (mayB b = false ∧ FS.rename ⟨L0, A, n⟩ a b = (⟨L0, A, n⟩, 2)) ∨ (mayB b = true ∧ fbb = false ∧ FS.rename ⟨L0, A, n⟩ a b = (⟨L0, A, n⟩, 9)) ∨ (mayB b = true ∧ fbb = true ∧ FS.rename ⟨L0, A, n⟩ a b = (⟨L0, A ++ [.rename a b fn], n⟩, 0)) := by
    unfold FS.rename FS.there
    cases hm : mayB b with
    | false => exact .inl ⟨rfl, if_pos rfl⟩
    | true =>
      rw [if_neg (by simp), hfbb, hfn]
      cases fbb with
      | true => exact .inr (.inr ⟨rfl, rfl, if_neg (by simp)⟩)
      | false => exact .inr (.inl ⟨rfl, rfl, if_pos rfl⟩)
  have hW0 := HWW.out w1 (Below.refl _ _)
  have HW0 := Lib.hid hW0
  clear h h' h1 h3 h4 hbox hbox0 hboxb m1 t1 hb1 hb0 hb01 hfbb hfn hW0
  go_enter Tryz.func84, Tryz.ntmps84
  rcases hB with ⟨hm, hB⟩ | ⟨hm, rfl, hB⟩ | ⟨hm, rfl, hB⟩
  · rw [hB]
    rw [hm] at q32
    clear hB hm HLK
    go_wp2_with (go_at_call 92; (with_reducible refine (q32 _).mono ?_); rintro e w2 ⟨rfl, rfl⟩)
    go_ret
    exact ⟨rfl, HW0.out⟩
  · rw [hB]
    rw [hm] at q32
    clear hB hm
    go_upto_region 5 with (go_at_call 92; (with_reducible refine (q32 _).mono ?_); rintro e w2 ⟨rfl, rfl⟩)
    have hlk := HLK.out w1.drew (below_drewO (Below.refl _ _))
    have hba := below_drewO (below_alloc' (o := .cells #[.int .i64 0] 3) (Below.refl _ w1))
    have hlk2 := HLK.out _ hba
    obtain ⟨c2, c0⟩ := HC.out _ hba
    clear hba
    have HWX := Lib.hid (HWW.out _ (below_drewO (below_alloc' (o := .cells #[.int .i64 (fn : Int)] 3) (Below.refl _ w1))))
    go_region
    all_goals
      go_wp2
      go_ret
      exact ⟨rfl, HWX.out⟩
  · rw [hB]
    rw [hm] at q32
    clear hB hm
    go_upto_region 5 with (go_at_call 92; (with_reducible refine (q32 _).mono ?_); rintro e w2 ⟨rfl, rfl⟩)
    have hlk := HLK.out w1.drew (below_drewO (Below.refl _ _))
    have hba := below_drewO (below_alloc' (o := .cells #[.int .i64 0] 3) (Below.refl _ w1))
    have hlk2 := HLK.out _ hba
    obtain ⟨c2, c0⟩ := HC.out _ hba
    clear hba
    go_region
    all_goals
      go_wp2_with (go_at_call 93; (with_reducible refine HADD.out.mono ?_); rintro e w5 ⟨rfl, h5⟩; have H5 := Lib.hid h5; clear h5)
      go_ret
      exact ⟨rfl, H5.out⟩
end Go.Proofs.YtmmoilmfpiclgaaGreat.Fld

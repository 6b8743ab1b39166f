/-
  The call that does an act.
-/
import Derived.Test.YtmmoilmfpiclgaaGreatT17
set_option linter.unusedVariables false
set_option linter.unusedSimpArgs false
namespace Go.Proofs.YtmmoilmfpiclgaaGreat.Fld
open Go.RowKit Go.Shelf
set_option linter.unusedSectionVars false
variable [FoldIn]

theorem below_drewO {w0 w : World} (h : Below w0.heap.size w0 w) : Below w0.heap.size w0 w.drew := Below.drew h

set_option maxRecDepth 100000 in
theorem slice_last (g l N c : Nat) (hN : l + 1 = N) (hc : N ≤ c) (w : World) : (Instr.slice 69 (.slice (some ⟨g, 0, none⟩) N c) (some (.int .i64 (l : Int))) none none).run Tryz.prog w = .ok (.slice (some ⟨g, l, none⟩) 1 (c - l)) w := by
  have h1 : (0 : Int) ≤ (l : Int) := by omega
  have h2 : (l : Int) ≤ (N : Int) := by omega
  have h3 : l ≤ N := by omega
  have h4 : N - l = 1 := by omega
  have h5 : ¬ c = l := by omega
  have h6 : ¬ c ≤ l := by omega
  have hs : (sizeOf (Tryz.prog.elem 69)).run Tryz.prog w = .ok 1 w := by kernel_rfl
  rw [run_slice_l w 69 _ _ _ Tryz.underlying69 .i64 (l : Int) h1 h2, hs]
  show Result.ok (sliced (some ⟨g, 0, none⟩) l N c 1) w = _
  unfold sliced
  rw [if_neg h5, h4]
  simp [Addr.add_lit]

theorem ARow.form {w : World} {v : Value} {fs : List Value} (h : ARow w v fs) {g : Nat} (hg : v.ownBlock = some g) : ∃ c, v = .slice (some ⟨g, 0, none⟩) fs.length c ∧ fs.length ≤ c ∧ c ≤ 9223372036854775807 := by
  rcases h with ⟨rfl, _⟩ | ⟨g', cap, cs, rfl, h1, h2, _⟩
  · cases hg
  · cases hg; exact ⟨cap, rfl, h1, h2⟩

set_option maxHeartbeats 8000000 in
set_option maxRecDepth 100000 in
theorem add_walk {w : World} {p : Nat} {L0 : Names} {A : List FAct} {n : Nat} {av : Value} {fs : List Value} {M I J : Nat → Prop} (h : FolderIn w p L0 A n av fs M I) {x : FAct} {f : Value} (hf : FActAt w f x J) (hJ : ∀ g, J g → g < w.heap.size ∧ ¬ M g) (hx : x.fine) (hl : L0.length + A.length + 1 ≤ 100000)
    (hsh : ∃ g cs, f = .func (.func g) #[] cs) :
    Calls Tryz.prog 93 #[.pointer (some ⟨p, 0, none⟩), f] w fun e w' => e = .returned (.tuple #[]) ∧ ∃ av' fs' M', FolderIn w' p L0 (A ++ [x]) n av' fs' M' (fun g => I g ∨ J g) ∧ (∀ g, M' g → M g ∨ w.heap.size ≤ g) ∧ Kept M w w' ∧ RowKeeps w' av fs av' fs' := by
  obtain ⟨lv, tv, h1, h2, h3, h4, h5, h6, h7⟩ := h.it
  have hfo := hf.one
  have HAH := Lib.hid fun wa w1 av' g0 r1 g1 o1 => ahead_mk (wa := wa) (w1 := w1) (av' := av') h hf hJ h1 h2 h3 h4 g0 r1 g1 o1
  have HDN := Lib.hid fun w2 w3 b av' q m1 m2 m3 => done_mk (w2 := w2) (w3 := w3) (b := b) (av' := av') (f := f) (x := x) (tv := tv) h hJ hx hl h4 h5 h6 h7 q m1 m2 m3
  have HR := Lib.hid h.row
  have HFL := h.acts.1
  have hsm := h.small.1
  have HB : Hid (∀ w2 av', Ahead w w2 p L0 A n lv tv av av' fs f x M I J → ∀ g c, av' = .slice (some ⟨g, 0, none⟩) (fs.length + 1) c → ∀ W, Below w2.heap.size w2 W → Calls Tryz.prog 96 #[tv, .slice (some ⟨g, fs.length, none⟩) 1 (c - fs.length)] W fun e w' => ∃ b, e = .returned (.map (some b)) ∧ NamesAt w' b (x.on (actsOn L0 A)) ∧ (mapOf tv = some b ∨ mapOf tv = none ∧ w2.heap.size ≤ b) ∧ Kept (fun g => mapOf tv = some g) w2 w') := Lib.hid fun w2 av' q g c hav W hW => by
    have hz := hW.size
    have hin : ActsIn W (some ⟨g, fs.length, none⟩) [x] (fun g => I g ∨ J g) := fun k hk => by
      obtain rfl : k = 0 := by simpa using hk
      obtain ⟨b, o, ha, hb, ⟨cs, T, hc⟩, f', hf1, hf2⟩ := q.row.acts q.acts hav A.length (by simp)
      cases ha
      have e1 := hW.block g hb
      refine ⟨g, fs.length, rfl, by omega, ⟨cs, T, e1.trans hc⟩, f', ?_, ?_⟩
      · rw [cell_of_row _ _ _ _ _ _ (e1.trans hc)]
        rw [cell_of_row _ _ _ _ _ _ hc, Nat.zero_add, ← h.acts.1] at hf1
        exact hf1
      · simp only [List.getElem_append_right (Nat.le_refl _), Nat.sub_self, List.getElem_cons_zero] at hf2 ⊢
        exact hf2.same (fun g' _ ⟨cs', T', hc'⟩ => hW.block g' (Array.getElem?_eq_some_iff.1 hc').1) (fun _ h => h)
    have hth : MapIs W tv (actsOn L0 A) := q.there.same fun b hb => hW.block b (q.there.lt hb)
    have hlen := actsOn_length L0 A
    refine (behind_any hth hin rfl (fun g hg => ?_) (fun y hy => by rw [List.mem_singleton.1 hy]; exact hx) (by simp; omega)).mono ?_
    · have hk := q.kept.size
      rcases hg with hg | hg
      · have := h.mem g (.inr hg); omega
      · have := (hJ g hg).1; omega
    · rintro e w' ⟨b, rfl, k1, k2, k3⟩
      refine ⟨b, rfl, k1, ?_, (Kept.below hW).trans k3 (fun g hg => .inl hg)⟩
      rcases k2 with k2 | ⟨k2, k4⟩
      · exact .inl k2
      · exact .inr ⟨k2, by omega⟩
  have k1 := h1.at1
  obtain ⟨ad, c, rfl, hcl, _⟩ := h.row.shape
  obtain ⟨m, rfl⟩ := h3.shape
  have hpl := h1.lt
  obtain ⟨l, hfl⟩ : ∃ l, fs.length = l := ⟨_, rfl⟩
  have HLL := Lib.hid hfl
  obtain ⟨N, hN⟩ : ∃ N, l + 1 = N := ⟨_, rfl⟩
  have HNN := Lib.hid hN
  obtain ⟨gg, cs, rfl⟩ := hsh
  have hl1 : fs.length ≤ 1000000 := by rw [HFL]; omega
  have HNP : Hid (∀ g, (Value.slice ad fs.length c).ownBlock = some g → g ≠ p) := Lib.hid fun g hg => by
    obtain ⟨cs', hc'⟩ := HR.out.mem hg
    exact two_types hc' h1 (FoldIn.hT.symm)
  have HT := Lib.hid h1
  clear h hf hJ h1 h2 h3 h4 h5 h6 h7 HFL
  rw [hfl] at hl1 k1 hcl
  go_enter Tryz.func93, Tryz.ntmps93
  go_upto_region 1 with (first
    | (at_builtin; refine wpList_append_arow rfl _ _ rfl rfl (.slice ad l c) fs w.heap.size (.func (.func gg) #[] cs) rfl rfl (by simp) rfl (by rw [← HLL.out]; exact HR.out.same (fun g hg => (below_alloc' (Below.refl _ w)).block g (HR.out.lt hg))) (by rw [HLL.out]; exact hl1) ?_; intro av' w1 r1 g1 o1 _ ob1; clear k1;
        have t1 : Four w1 p lv (.slice ad l c) (.map m) (.int .i64 (n : Int)) := (by rw [← HLL.out]; exact grown_four (HT.out.same ((below_alloc' (Below.refl _ w)).block p hpl)) g1 (fun e => HNP.out p (by rw [HLL.out]; exact e) rfl));
        have y1 := t1.at1; have z1 := t1.free 1;
        have q1 := HAH.out (w.alloc (.cells #[.func (.func gg) #[] cs] 163)) w1 av' (below_alloc' (Below.refl _ w)) r1 (by (rw [HLL.out]; exact g1)) (by (rw [HLL.out]; rw [HLL.out] at o1; exact o1));
        obtain ⟨g', hg'⟩ := ob1; obtain ⟨c', hv', hc1, hc2⟩ := r1.form hg'; rw [List.length_append, List.length_singleton, HLL.out, HNN.out] at hv' hc1; subst hv';
        have Q1 := Lib.hid q1; have y2 := q1.four.at1; have z2 := q1.four.at2; have f2 := q1.four.free 2;
        have HQB := Lib.hid (HB.out _ _ q1 g' c' (by rw [HLL.out, HNN.out])); clear t1 q1 g1 o1 hg'))
  have i1 : (N : Int) - 1 = (l : Int) := by omega
  have hsl := slice_last g' l N c' HNN.out hc1
  have i12 : IntKind.i64.wrap (l : Int) = (l : Int) := IntWalk.i64_in _ (by omega)
  have i2 : (0 : Int) ≤ (l : Int) := by omega
  have i3 : (l : Int) ≤ (N : Int) := by omega
  rw [HLL.out] at HQB
  clear hc1 hc2 HAH HB y1 z1 r1 hN
  generalize w1.setCell ⟨p, 1, none⟩ (.slice (some ⟨g', 0, none⟩) N c') = w2 at Q1 y2 z2 f2 HQB ⊢
  have K4 : Hid (∀ W, Kept (fun g => mapOf (.map m) = some g) w2 W → W.cell? ⟨p, 1, none⟩ = some (.slice (some ⟨g', 0, none⟩) N c') ∧ W.cell? ⟨p, 2, none⟩ = some (.map m) ∧ W.frozen? ⟨p, 2, none⟩ = false) := Lib.hid fun W hW => by
    have t : Four W p _ _ _ _ := Q1.out.four.same (hW.block p Q1.out.four.lt fun e => by
      obtain ⟨es, clock, hm⟩ := Q1.out.there.mem e
      have h4 := Q1.out.four
      unfold Four at h4
      rw [h4] at hm; cases hm)
    exact ⟨t.at1, t.at2, t.free 2⟩
  have k0 : Kept (fun g => mapOf (.map m) = some g) w2 w2.drew := Kept.below (below_drewO (Below.refl _ _))
  have K0 := Lib.hid k0
  clear k0
  go_region_with (go_at_call 96; (with_reducible refine (HQB.out _ (below_drewO (Below.refl _ _))).mono ?_); rintro e w3 ⟨b, rfl, m1, m2, m3⟩; obtain ⟨_, y3, f3⟩ := K4.out _ m3; have HM := Lib.hid (And.intro m1 (And.intro m2 m3)); clear m1 m2 m3)
  all_goals
    go_wp2
    exact bodyPost_end (v := .tuple #[]) (by simp [results, Tryz.results93, go_sem]) rfl ⟨rfl, _, _, HDN.out _ _ _ _ Q1.out HM.out.1 HM.out.2.1 HM.out.2.2⟩
end Go.Proofs.YtmmoilmfpiclgaaGreat.Fld

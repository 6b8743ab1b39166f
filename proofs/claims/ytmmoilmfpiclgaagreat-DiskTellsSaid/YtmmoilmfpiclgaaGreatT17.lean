/-
  An act more: it stands in the row of acts, and what is there is what it makes of that.
-/
import Derived.Test.YtmmoilmfpiclgaaGreatT15
import Derived.Deep.RegionHeld3
set_option linter.unusedVariables false
set_option linter.unusedSimpArgs false
namespace Go.Proofs.YtmmoilmfpiclgaaGreat.Fld
open Go.RowKit Go.Shelf
set_option linter.unusedSectionVars false
variable [FoldIn]

/-- What stands of a row's beginnings, also where they are another one's. -/
def RowKeeps (w' : World) (av : Value) (fs : List Value) (av' : Value) (fs' : List Value) : Prop :=
  ∀ b m, av.ownBlock = some b → m ≤ fs.length → ARow w' (.slice (some ⟨b, 0, none⟩) m m) (fs.take m) ∧ (av'.ownBlock = some b → m ≤ fs'.length ∧ fs'.take m = fs.take m)

/-- Behind a method: the folder as it then is. -/
def Went (w : World) (p : Nat) (av : Value) (fs : List Value) (M I : Nat → Prop) (L0 : Names) (A : List FAct) (n : Nat) (w' : World) : Prop :=
  ∃ av' fs' M' I', FolderIn w' p L0 A n av' fs' M' I' ∧ (∀ g, M' g → M g ∨ w.heap.size ≤ g) ∧ (∀ g, I' g → I g ∨ w.heap.size ≤ g) ∧ Kept M w w' ∧ RowKeeps w' av fs av' fs'

/-- The blocks that a folder writes, told by its values. -/
def OfF (p : Nat) (lv tv av : Value) (g : Nat) : Prop := g = p ∨ mapOf lv = some g ∨ mapOf tv = some g ∨ av.ownBlock = some g

theorem grown_four {w w' : World} {p : Nat} {a b c d : Value} {row : Option Nat} (h : Four w p a b c d) (hg : w.grownBy w' row) (hne : row ≠ some p) : Four w' p a b c d := (hg.block p h.lt (fun e => hne e.symm)).trans h

theorem FActs.snoc {w : World} {fs : List Value} {A : List FAct} {I : Nat → Prop} {f : Value} {x : FAct} (h : FActs w fs A I) (hf : FActAt w f x I) : FActs w (fs ++ [f]) (A ++ [x]) I := by
  refine ⟨by rw [List.length_append, List.length_append, h.1]; rfl, fun k hk => ?_⟩
  by_cases hlt : k < A.length
  · obtain ⟨f', k1, k2⟩ := h.2 k hlt
    refine ⟨f', by rw [List.getElem?_append_left (by rw [h.1]; exact hlt)]; exact k1, ?_⟩
    rw [List.getElem_append_left hlt]
    exact k2
  · have hk' : k = A.length := by rw [List.length_append] at hk; simp at hk; omega
    subst hk'
    refine ⟨f, by rw [← h.1]; simp, ?_⟩
    rw [List.getElem_concat_length rfl]
    exact hf

/-- What is known where the act stands in the row, and is not done yet: w the call's world, wa the closure's row made, w1 it appended, w2 it kept. -/
structure Ahead (w w2 : World) (p : Nat) (L0 : Names) (A : List FAct) (n : Nat) (lv tv av av' : Value) (fs : List Value) (f : Value) (x : FAct) (M I J : Nat → Prop) : Prop where
  four : Four w2 p lv av' tv (.int .i64 (n : Int))
  row : ARow w2 av' (fs ++ [f])
  acts : FActs w2 (fs ++ [f]) (A ++ [x]) (fun g => I g ∨ J g)
  lasts : MapIs w2 lv L0
  there : MapIs w2 tv (actsOn L0 A)
  kept : Kept (fun g => g = p ∨ av.ownBlock = some g ∧ M g) w w2
  own : av'.ownBlock = av.ownBlock ∧ (∀ g, av.ownBlock = some g → M g) ∨ ∃ g, av'.ownBlock = some g ∧ w.heap.size ≤ g
  keeps : RowKeeps w2 av fs av' (fs ++ [f])

theorem ahead_mk {w wa w1 : World} {p : Nat} {L0 : Names} {A : List FAct} {n : Nat} {lv tv av av' : Value} {fs : List Value} {f : Value} {x : FAct} {M I J : Nat → Prop} (h : FolderIn w p L0 A n av fs M I)
    (hf : FActAt w f x J) (hJ : ∀ g, J g → g < w.heap.size ∧ ¬ M g)
    (h1 : Four w p lv av tv (.int .i64 (n : Int))) (h2 : MapIs w lv L0) (h3 : MapIs w tv (actsOn L0 A)) (h4 : M p)
    (g0 : Below w.heap.size w wa) (r1 : ARow w1 av' (fs ++ [f])) (g1 : wa.grownBy w1 av.ownBlock) (o1 : av'.ownBlock = av.ownBlock ∧ fs.length < capOf av ∨ ((∃ g, av'.ownBlock = some g ∧ wa.heap.size ≤ g) ∧ wa.grownBy w1 none)) :
    Ahead w (w1.setCell ⟨p, 1, none⟩ av') p L0 A n lv tv av av' fs f x M I J := by
  have ra : ∀ g, av.ownBlock = some g → ∃ cs, w.heap[g]? = some (.cells cs 163 (0, 0)) := fun g hg => h.row.mem hg
  have pa : ∀ g, av.ownBlock = some g → g ≠ p := fun g hg => by
    obtain ⟨cs, hc⟩ := ra g hg
    exact two_types hc h1 (FoldIn.hT.symm)
  have hz0 := g0.size
  have hz1 := g1.size
  have e1 : ∀ g, g < w.heap.size → av.ownBlock ≠ some g → w1.heap[g]? = w.heap[g]? := fun g hg hn => (g1.block g (by omega) (fun e => hn e.symm)).trans (g0.block g hg)
  have t1 : Four w1 p lv av tv (.int .i64 (n : Int)) := h1.same (e1 p h1.lt (fun e => pa p e rfl))
  have hav : ∀ g, av'.ownBlock = some g → g ≠ p := fun g hg => by
    obtain ⟨cs, hc⟩ := r1.mem hg
    exact two_types hc t1 (FoldIn.hT.symm)
  have e2 : ∀ g, g < w.heap.size → av.ownBlock ≠ some g → g ≠ p → (w1.setCell ⟨p, 1, none⟩ av').heap[g]? = w.heap[g]? := fun g hg hn hp => (heap_setCell_ne hp).trans (e1 g hg hn)
  have nm : ∀ g, (∃ es clock, w.heap[g]? = some (.map es clock)) → av.ownBlock ≠ some g ∧ g ≠ p ∧ g < w.heap.size := fun g ⟨es, clock, hm⟩ => by
    refine ⟨fun e => ?_, fun e => ?_, (Array.getElem?_eq_some_iff.1 hm).1⟩
    · obtain ⟨cs, hc⟩ := ra g e
      rw [hm] at hc; cases hc
    · rw [e, h1] at hm; cases hm
  have fr : ∀ g, I g ∨ J g → g < w.heap.size ∧ ¬ M g := fun g hg => by
    rcases hg with hg | hg
    · exact ⟨h.mem g (.inr hg), h.apart g hg⟩
    · exact hJ g hg
  have own : av'.ownBlock = av.ownBlock ∧ (∀ g, av.ownBlock = some g → M g) ∨ ∃ g, av'.ownBlock = some g ∧ w.heap.size ≤ g := by
    rcases o1 with ⟨e, hlt⟩ | ⟨⟨g, e, hg⟩, _⟩
    · refine .inl ⟨e, fun g hg => ?_⟩
      rcases h.room g hg with k | ⟨_, k⟩
      · exact k
      · omega
    · exact .inr ⟨g, e, by omega⟩
  have hrow2 : ARow (w1.setCell ⟨p, 1, none⟩ av') av' (fs ++ [f]) := r1.same fun g hg => heap_setCell_ne (hav g hg)
  refine ⟨t1.set1 av', hrow2, ?_, h2.same fun b hb => ?_, h3.same fun b hb => ?_, ?_, own, ?_⟩
  · have hne : ∀ g cs T, w.heap[g]? = some (.cells cs T (0, 0)) → T ≠ 163 → av.ownBlock ≠ some g := fun g cs T hc ht hg => by
      obtain ⟨ds, hd⟩ := ra g hg
      rw [hd] at hc; cases hc; exact ht rfl
    have eJ : ∀ g, I g ∨ J g → ∀ cs T, w.heap[g]? = some (.cells cs T (0, 0)) → T ≠ 163 → (w1.setCell ⟨p, 1, none⟩ av').heap[g]? = w.heap[g]? := fun g hg cs T hc ht =>
      e2 g (fr g hg).1 (hne g cs T hc ht) (fun e => (fr g hg).2 (by rw [e]; exact h4))
    have one : ∀ {f' : Value} {y : FAct} {K : Nat → Prop}, (∀ g, K g → I g ∨ J g) → FActAt w f' y K → FActAt (w1.setCell ⟨p, 1, none⟩ av') f' y (fun g => I g ∨ J g) := fun {f' y K} hK k2 => by
      cases y with
      | create k n =>
        obtain ⟨c, d, q1, q2, q3, q4, q5⟩ := k2
        exact ⟨c, d, q1, (eJ c (hK c q4) _ _ q2 (by decide)).trans q2, (eJ d (hK d q5) _ _ q3 (by decide)).trans q3, hK c q4, hK d q5⟩
      | rename a b n =>
        obtain ⟨c, d, e, q1, q2, q3, q4, q5, q6, q7⟩ := k2
        exact ⟨c, d, e, q1, (eJ c (hK c q5) _ _ q2 (by decide)).trans q2, (eJ d (hK d q6) _ _ q3 (by decide)).trans q3, (eJ e (hK e q7) _ _ q4 (by decide)).trans q4, hK c q5, hK d q6, hK e q7⟩
      | remove k =>
        obtain ⟨c, q1, q2, q3⟩ := k2
        exact ⟨c, q1, (eJ c (hK c q3) _ _ q2 (by decide)).trans q2, hK c q3⟩
    refine FActs.snoc ⟨h.acts.1, fun k hk => ?_⟩ (one (fun g hg => .inr hg) hf)
    obtain ⟨f', k1, k2⟩ := h.acts.2 k hk
    exact ⟨f', k1, one (fun g hg => .inl hg) k2⟩
  · obtain ⟨q1, q2, q3⟩ := nm b (h2.mem hb)
    exact e2 b q3 q1 q2
  · obtain ⟨q1, q2, q3⟩ := nm b (h3.mem hb)
    exact e2 b q3 q1 q2
  · have gk := grown_setCell w1 p 1 av'
    refine ⟨gk.os.trans (g1.os.trans g0.os), gk.tape.trans (g1.tape.trans g0.tape), gk.output.trans (g1.output.trans g0.output), by have := gk.size; omega, fun g hg hn => ?_⟩
    have hgp : g ≠ p := fun e => hn (.inl e)
    rw [heap_setCell_ne hgp]
    by_cases ha : av.ownBlock = some g
    · rcases o1 with ⟨_, hlt⟩ | ⟨_, hg1⟩
      · refine absurd (.inr ⟨ha, ?_⟩) hn
        rcases h.room g ha with k | ⟨_, k⟩
        · exact k
        · omega
      · exact (hg1.block g (by omega) (by simp)).trans (g0.block g hg)
    · exact e1 g hg ha
  · intro b m hb hm
    have hbw : b < w.heap.size := h.row.lt hb
    rcases o1 with ⟨e, _⟩ | ⟨⟨g, e, hg⟩, hg1⟩
    · have hc := hrow2.cut (g := b) (m := m) (by rw [e]; exact hb) (by rw [List.length_append]; omega)
      rw [List.take_append_of_le_length hm] at hc
      exact ⟨hc, fun _ => ⟨by rw [List.length_append]; omega, List.take_append_of_le_length hm⟩⟩
    · refine ⟨(h.row.cut hb hm).same fun g' hg' => ?_, fun e' => ?_⟩
      · cases hg'
        exact (heap_setCell_ne (pa b hb)).trans ((hg1.block b (by omega) (by simp)).trans (g0.block b hbw))
      · rw [e'] at e; cases e; omega

/-- Behind the act: w3 the act done, the map that is there stored. -/
theorem done_mk {w w2 w3 : World} {p b : Nat} {L0 : Names} {A : List FAct} {n : Nat} {lv tv av av' : Value} {fs : List Value} {f : Value} {x : FAct} {M I J : Nat → Prop} (h : FolderIn w p L0 A n av fs M I) (hJ : ∀ g, J g → g < w.heap.size ∧ ¬ M g) (hx : x.fine) (hl : L0.length + A.length + 1 ≤ 100000)
    (h4 : M p) (h5 : ∀ b, mapOf lv = some b → M b) (h6 : ∀ b, mapOf tv = some b → M b) (h7 : mapOf lv = mapOf tv → mapOf lv = none)
    (q : Ahead w w2 p L0 A n lv tv av av' fs f x M I J) (m1 : NamesAt w3 b (x.on (actsOn L0 A))) (m2 : mapOf tv = some b ∨ mapOf tv = none ∧ w2.heap.size ≤ b) (m3 : Kept (fun g => mapOf tv = some g) w2 w3) :
    ∃ M', FolderIn (w3.setCell ⟨p, 2, none⟩ (.map (some b))) p L0 (A ++ [x]) n av' (fs ++ [f]) M' (fun g => I g ∨ J g) ∧ (∀ g, M' g → M g ∨ w.heap.size ≤ g) ∧ Kept M w (w3.setCell ⟨p, 2, none⟩ (.map (some b))) ∧ RowKeeps (w3.setCell ⟨p, 2, none⟩ (.map (some b))) av fs av' (fs ++ [f]) := by
  have hz2 := q.kept.size
  have hz3 := m3.size
  have fr : ∀ g, I g ∨ J g → g < w.heap.size ∧ ¬ M g := fun g hg => by
    rcases hg with hg | hg
    · exact ⟨h.mem g (.inr hg), h.apart g hg⟩
    · exact hJ g hg
  -- a block of cells is no map's
  have nc : ∀ g cs T, w2.heap[g]? = some (.cells cs T (0, 0)) → ¬ mapOf tv = some g := fun g cs T hc hg => by
    obtain ⟨es, clock, hm⟩ := q.there.mem hg
    rw [hm] at hc; cases hc
  have e3 : ∀ g, g < w2.heap.size → ¬ mapOf tv = some g → w3.heap[g]? = w2.heap[g]? := fun g hg hn => m3.block g hg hn
  have t3 : Four w3 p lv av' tv (.int .i64 (n : Int)) := q.four.same (e3 p q.four.lt (nc p _ _ q.four))
  have hbp : b ≠ p := fun e => by
    obtain ⟨es, clock, hm⟩ := m1.mem
    rw [e, t3] at hm; cases hm
  have rowlt : ∀ g, av'.ownBlock = some g → g < w2.heap.size ∧ ¬ mapOf tv = some g ∧ g ≠ p := fun g hg => by
    obtain ⟨cs, hc⟩ := q.row.mem hg
    exact ⟨(Array.getElem?_eq_some_iff.1 hc).1, nc g _ _ hc, two_types hc q.four (FoldIn.hT.symm)⟩
  have row4 : ARow (w3.setCell ⟨p, 2, none⟩ (.map (some b))) av' (fs ++ [f]) := q.row.same fun g hg => by
    obtain ⟨k1, k2, k3⟩ := rowlt g hg
    exact (heap_setCell_ne k3).trans (e3 g k1 k2)
  have hw4 : (w3.setCell ⟨p, 2, none⟩ (.map (some b))).heap.size = w3.heap.size := by simp
  have lastsb : ∀ g, mapOf lv = some g → g ≠ p ∧ w3.heap[g]? = w2.heap[g]? ∧ g ≠ b := fun g hg => by
    obtain ⟨es, clock, hm⟩ := q.lasts.mem hg
    have hlt := q.lasts.lt hg
    have hne : ¬ mapOf tv = some g := fun e => by
      have := h7 (hg.trans e.symm)
      rw [hg] at this; cases this
    refine ⟨fun e => (by rw [e, q.four] at hm; cases hm), e3 g hlt hne, fun e => ?_⟩
    rcases m2 with m2 | ⟨_, m2⟩
    · exact hne (by rw [e]; exact m2)
    · omega
  have hM : ∀ g, OfF p lv (.map (some b)) av' g → M g ∨ w.heap.size ≤ g := fun g hg => by
    rcases hg with rfl | hg | hg | hg
    · exact .inl h4
    · exact .inl (h5 g hg)
    · cases hg
      rcases m2 with m2 | ⟨_, m2⟩
      · exact .inl (h6 b m2)
      · exact .inr (by omega)
    · rcases q.own with ⟨e, k⟩ | ⟨g', e, k⟩
      · exact .inl (k g (by rw [← e]; exact hg))
      · rw [e] at hg; cases hg; exact .inr k
  have keep : Kept M w (w3.setCell ⟨p, 2, none⟩ (.map (some b))) := by
    have k1 : Kept M w w2 := q.kept.mono fun g hg => by
      rcases hg with rfl | ⟨_, hg⟩
      · exact .inl h4
      · exact .inl hg
    have k2 : Kept M w2 w3 := m3.mono fun g hg => .inl (h6 g hg)
    exact (k1.trans k2 fun g hg => .inl hg).trans (Kept.grown (grown_setCell _ _ _ _) (fun g hg => by cases hg; exact h4)) (fun g hg => .inl hg)
  refine ⟨OfF p lv (.map (some b)) av', ⟨⟨lv, .map (some b), t3.set2 _, ?_, ?_, .inl rfl, fun g hg => .inr (.inl hg), fun g hg => .inr (.inr (.inl hg)), ?_⟩, row4, ?_, fun g hg => .inl (.inr (.inr (.inr hg))), ?_, ?_, ?_, ?_⟩, hM, keep, ?_⟩
  · exact q.lasts.same fun g hg => (heap_setCell_ne (lastsb g hg).1).trans (lastsb g hg).2.1
  · rw [actsOn_snoc]
    exact .inr ⟨b, rfl, m1.same (heap_setCell_ne hbp)⟩
  · intro e
    exact absurd rfl (lastsb b (by rw [e]; rfl)).2.2
  · refine q.acts.same (fun g hg ⟨cs, T, hc⟩ => ?_) (fun _ h => h)
    have hgw : g ≠ p := fun e => (fr g hg).2 (by rw [e]; exact h4)
    exact (heap_setCell_ne hgw).trans (e3 g (Array.getElem?_eq_some_iff.1 hc).1 (nc g _ _ hc))
  · intro y hy
    rcases List.mem_append.1 hy with hy | hy
    · exact h.fine y hy
    · rw [List.mem_singleton.1 hy]; exact hx
  · rw [List.length_append]
    exact ⟨by simp; omega, h.small.2⟩
  · intro g hg
    rw [hw4]
    rcases hg with hg | hg
    · rcases hg with rfl | hg | hg | hg
      · have := q.four.lt; omega
      · have := q.lasts.lt hg; omega
      · cases hg; exact m1.lt
      · have := (rowlt g hg).1; omega
    · have := (fr g hg).1; omega
  · intro g hg hm
    rcases hM g hm with k | k
    · exact (fr g hg).2 k
    · have := (fr g hg).1; omega
  · intro g m hg hm
    obtain ⟨k1, k2⟩ := q.keeps g m hg hm
    refine ⟨k1.same fun g' hg' => ?_, k2⟩
    cases hg'
    obtain ⟨cs, hc⟩ := k1.mem rfl
    exact (heap_setCell_ne (two_types hc q.four (FoldIn.hT.symm))).trans (e3 g (Array.getElem?_eq_some_iff.1 hc).1 (nc g _ _ hc))
end Go.Proofs.YtmmoilmfpiclgaaGreat.Fld

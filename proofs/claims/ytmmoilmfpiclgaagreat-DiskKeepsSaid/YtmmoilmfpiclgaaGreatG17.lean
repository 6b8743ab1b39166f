/-
  An act more: it stands in the row of acts, and what is there is what it makes of that. The call that does an act. A folder, told: what lasts, the acts behind it, the greatest number; what its methods make of that. A name is removed; a name is renamed.
-/
import Derived.Test.YtmmoilmfpiclgaaGreatG15
import Derived.Deep.RegionHeld3
import Derived.Lib.QuietBelow
import Derived.BigQuiet
namespace Go.Proofs.YtmmoilmfpiclgaaGreat.Fld
open Go.RowKit Go.Shelf
set_option linter.unusedSectionVars false
variable [FoldIn]

/-- What stands of a row's beginnings, also where they are another one's. -/
def RowKeeps (w' : World) (av : Value) (fs : List Value) (av' : Value) (fs' : List Value) : Prop :=
  ∀ b m, av.ownBlock = some b → m ≤ fs.length → ARow w' (.slice (some ⟨b, 0, none⟩) m m) (fs.take m) ∧ (av'.ownBlock = some b → m ≤ fs'.length ∧ fs'.take m = fs.take m)

/-- Behind a method: the folder as it then is. -/
def Went (w : World) (p : Nat) (av : Value) (fs : List Value) (M I : Nat → Prop) (L0 : Names) (A : List FAct) (n : Nat) (w' : World) : Prop :=
  ∃ av' fs' M' I', FolderIn w' p L0 A n av' fs' M' I' ∧ (∀ g, M' g → M g ∨ w.heap.size ≤ g) ∧ (∀ g, I' g → I g ∨ w.heap.size ≤ g) ∧ Kept M w w' ∧ RowKeeps w' av fs av' fs'

/-- The blocks that a folder writes, told by its values. -/
def OfF (p : Nat) (lv tv av : Value) (g : Nat) : Prop := g = p ∨ mapOf lv = some g ∨ mapOf tv = some g ∨ av.ownBlock = some g

theorem grown_four {w w' : World} {p : Nat} {a b c d : Value} {row : Option Nat} (h : Four w p a b c d) (hg : w.grownBy w' row) (hne : row ≠ some p) : Four w' p a b c d := (hg.block p h.lt (fun e => hne e.symm)).trans h

theorem FActs.snoc {w : World} {fs : List Value} {A : List FAct} {I : Nat → Prop} {f : Value} {x : FAct} (h : FActs w fs A I) (hf : FActAt w f x I) : FActs w (fs ++ [f]) (A ++ [x]) I := by
  refine ⟨by rw [List.length_append, List.length_append, h.1]; rfl, fun k hk => ?_⟩
  by_cases hlt : k < A.length
  · obtain ⟨f', k1, k2⟩ := h.2 k hlt
    refine ⟨f', by rw [List.getElem?_append_left (by rw [h.1]; exact hlt)]; exact k1, ?_⟩
    rw [List.getElem_append_left hlt]
    exact k2
  · have hk' : k = A.length := by rw [List.length_append] at hk; simp at hk; omega
    subst hk'
    refine ⟨f, by rw [← h.1]; simp, ?_⟩
    rw [List.getElem_concat_length rfl]
    exact hf

/-- What is known where the act stands in the row, and is not done yet: w the call's world, wa the closure's row made, w1 it appended, w2 it kept. -/
structure Ahead (w w2 : World) (p : Nat) (L0 : Names) (A : List FAct) (n : Nat) (lv tv av av' : Value) (fs : List Value) (f : Value) (x : FAct) (M I J : Nat → Prop) : Prop where
  four : Four w2 p lv av' tv (.int .i64 (n : Int))
  row : ARow w2 av' (fs ++ [f])
  acts : FActs w2 (fs ++ [f]) (A ++ [x]) (fun g => I g ∨ J g)
  lasts : MapIs w2 lv L0
  there : MapIs w2 tv (actsOn L0 A)
  kept : Kept (fun g => g = p ∨ av.ownBlock = some g ∧ M g) w w2
  own : av'.ownBlock = av.ownBlock ∧ (∀ g, av.ownBlock = some g → M g) ∨ ∃ g, av'.ownBlock = some g ∧ w.heap.size ≤ g
  keeps : RowKeeps w2 av fs av' (fs ++ [f])

theorem ahead_mk {w wa w1 : World} {p : Nat} {L0 : Names} {A : List FAct} {n : Nat} {lv tv av av' : Value} {fs : List Value} {f : Value} {x : FAct} {M I J : Nat → Prop} (h : FolderIn w p L0 A n av fs M I)
    (hf : FActAt w f x J) (hJ : ∀ g, J g → g < w.heap.size ∧ ¬ M g)
    (h1 : Four w p lv av tv (.int .i64 (n : Int))) (h2 : MapIs w lv L0) (h3 : MapIs w tv (actsOn L0 A)) (h4 : M p)
    (g0 : Below w.heap.size w wa) (r1 : ARow w1 av' (fs ++ [f])) (g1 : wa.grownBy w1 av.ownBlock) (o1 : av'.ownBlock = av.ownBlock ∧ fs.length < capOf av ∨ ((∃ g, av'.ownBlock = some g ∧ wa.heap.size ≤ g) ∧ wa.grownBy w1 none)) :
    Ahead w (w1.setCell ⟨p, 1, none⟩ av') p L0 A n lv tv av av' fs f x M I J := by
  have ra : ∀ g, av.ownBlock = some g → ∃ cs, w.heap[g]? = some (.cells cs 163 (0, 0)) := fun g hg => h.row.mem hg
  have pa : ∀ g, av.ownBlock = some g → g ≠ p := fun g hg => by
    obtain ⟨cs, hc⟩ := ra g hg
    exact two_types hc h1 (FoldIn.hT.symm)
  have hz0 := g0.size
  have hz1 := g1.size
  have e1 : ∀ g, g < w.heap.size → av.ownBlock ≠ some g → w1.heap[g]? = w.heap[g]? := fun g hg hn => (g1.block g (by omega) (fun e => hn e.symm)).trans (g0.block g hg)
  have t1 : Four w1 p lv av tv (.int .i64 (n : Int)) := h1.same (e1 p h1.lt (fun e => pa p e rfl))
  have hav : ∀ g, av'.ownBlock = some g → g ≠ p := fun g hg => by
    obtain ⟨cs, hc⟩ := r1.mem hg
    exact two_types hc t1 (FoldIn.hT.symm)
  have e2 : ∀ g, g < w.heap.size → av.ownBlock ≠ some g → g ≠ p → (w1.setCell ⟨p, 1, none⟩ av').heap[g]? = w.heap[g]? := fun g hg hn hp => (heap_setCell_ne hp).trans (e1 g hg hn)
  have nm : ∀ g, (∃ es clock, w.heap[g]? = some (.map es clock)) → av.ownBlock ≠ some g ∧ g ≠ p ∧ g < w.heap.size := fun g ⟨es, clock, hm⟩ => by
    refine ⟨fun e => ?_, fun e => ?_, (Array.getElem?_eq_some_iff.1 hm).1⟩
    · obtain ⟨cs, hc⟩ := ra g e
      rw [hm] at hc; cases hc
    · rw [e, h1] at hm; cases hm
  have fr : ∀ g, I g ∨ J g → g < w.heap.size ∧ ¬ M g := fun g hg => by
    rcases hg with hg | hg
    · exact ⟨h.mem g (.inr hg), h.apart g hg⟩
    · exact hJ g hg
  have own : av'.ownBlock = av.ownBlock ∧ (∀ g, av.ownBlock = some g → M g) ∨ ∃ g, av'.ownBlock = some g ∧ w.heap.size ≤ g := by
    rcases o1 with ⟨e, hlt⟩ | ⟨⟨g, e, hg⟩, _⟩
    · refine .inl ⟨e, fun g hg => ?_⟩
      rcases h.room g hg with k | ⟨_, k⟩
      · exact k
      · omega
    · exact .inr ⟨g, e, by omega⟩
  have hrow2 : ARow (w1.setCell ⟨p, 1, none⟩ av') av' (fs ++ [f]) := r1.same fun g hg => heap_setCell_ne (hav g hg)
  refine ⟨t1.set1 av', hrow2, ?_, h2.same fun b hb => ?_, h3.same fun b hb => ?_, ?_, own, ?_⟩
  · have hne : ∀ g cs T, w.heap[g]? = some (.cells cs T (0, 0)) → T ≠ 163 → av.ownBlock ≠ some g := fun g cs T hc ht hg => by
      obtain ⟨ds, hd⟩ := ra g hg
      rw [hd] at hc; cases hc; exact ht rfl
    have eJ : ∀ g, I g ∨ J g → ∀ cs T, w.heap[g]? = some (.cells cs T (0, 0)) → T ≠ 163 → (w1.setCell ⟨p, 1, none⟩ av').heap[g]? = w.heap[g]? := fun g hg cs T hc ht =>
      e2 g (fr g hg).1 (hne g cs T hc ht) (fun e => (fr g hg).2 (by rw [e]; exact h4))
    have one : ∀ {f' : Value} {y : FAct} {K : Nat → Prop}, (∀ g, K g → I g ∨ J g) → FActAt w f' y K → FActAt (w1.setCell ⟨p, 1, none⟩ av') f' y (fun g => I g ∨ J g) := fun {f' y K} hK k2 => by
      cases y with
      | create k n =>
        obtain ⟨c, d, q1, q2, q3, q4, q5⟩ := k2
        exact ⟨c, d, q1, (eJ c (hK c q4) _ _ q2 (by decide)).trans q2, (eJ d (hK d q5) _ _ q3 (by decide)).trans q3, hK c q4, hK d q5⟩
      | rename a b n =>
        obtain ⟨c, d, e, q1, q2, q3, q4, q5, q6, q7⟩ := k2
        exact ⟨c, d, e, q1, (eJ c (hK c q5) _ _ q2 (by decide)).trans q2, (eJ d (hK d q6) _ _ q3 (by decide)).trans q3, (eJ e (hK e q7) _ _ q4 (by decide)).trans q4, hK c q5, hK d q6, hK e q7⟩
      | remove k =>
        obtain ⟨c, q1, q2, q3⟩ := k2
        exact ⟨c, q1, (eJ c (hK c q3) _ _ q2 (by decide)).trans q2, hK c q3⟩
    refine FActs.snoc ⟨h.acts.1, fun k hk => ?_⟩ (one (fun g hg => .inr hg) hf)
    obtain ⟨f', k1, k2⟩ := h.acts.2 k hk
    exact ⟨f', k1, one (fun g hg => .inl hg) k2⟩
  · obtain ⟨q1, q2, q3⟩ := nm b (h2.mem hb)
    exact e2 b q3 q1 q2
  · obtain ⟨q1, q2, q3⟩ := nm b (h3.mem hb)
    exact e2 b q3 q1 q2
  · have gk := grown_setCell w1 p 1 av'
    refine ⟨gk.os.trans (g1.os.trans g0.os), gk.tape.trans (g1.tape.trans g0.tape), gk.output.trans (g1.output.trans g0.output), by have := gk.size; omega, fun g hg hn => ?_⟩
    have hgp : g ≠ p := fun e => hn (.inl e)
    rw [heap_setCell_ne hgp]
    by_cases ha : av.ownBlock = some g
    · rcases o1 with ⟨_, hlt⟩ | ⟨_, hg1⟩
      · refine absurd (.inr ⟨ha, ?_⟩) hn
        rcases h.room g ha with k | ⟨_, k⟩
        · exact k
        · omega
      · exact (hg1.block g (by omega) (by simp)).trans (g0.block g hg)
    · exact e1 g hg ha
  · intro b m hb hm
    have hbw : b < w.heap.size := h.row.lt hb
    rcases o1 with ⟨e, _⟩ | ⟨⟨g, e, hg⟩, hg1⟩
    · have hc := hrow2.cut (g := b) (m := m) (by rw [e]; exact hb) (by rw [List.length_append]; omega)
      rw [List.take_append_of_le_length hm] at hc
      exact ⟨hc, fun _ => ⟨by rw [List.length_append]; omega, List.take_append_of_le_length hm⟩⟩
    · refine ⟨(h.row.cut hb hm).same fun g' hg' => ?_, fun e' => ?_⟩
      · cases hg'
        exact (heap_setCell_ne (pa b hb)).trans ((hg1.block b (by omega) (by simp)).trans (g0.block b hbw))
      · rw [e'] at e; cases e; omega

/-- Behind the act: w3 the act done, the map that is there stored. -/
theorem done_mk {w w2 w3 : World} {p b : Nat} {L0 : Names} {A : List FAct} {n : Nat} {lv tv av av' : Value} {fs : List Value} {f : Value} {x : FAct} {M I J : Nat → Prop} (h : FolderIn w p L0 A n av fs M I) (hJ : ∀ g, J g → g < w.heap.size ∧ ¬ M g) (hx : x.fine) (hl : L0.length + A.length + 1 ≤ 100000)
    (h4 : M p) (h5 : ∀ b, mapOf lv = some b → M b) (h6 : ∀ b, mapOf tv = some b → M b) (h7 : mapOf lv = mapOf tv → mapOf lv = none)
    (q : Ahead w w2 p L0 A n lv tv av av' fs f x M I J) (m1 : NamesAt w3 b (x.on (actsOn L0 A))) (m2 : mapOf tv = some b ∨ mapOf tv = none ∧ w2.heap.size ≤ b) (m3 : Kept (fun g => mapOf tv = some g) w2 w3) :
    ∃ M', FolderIn (w3.setCell ⟨p, 2, none⟩ (.map (some b))) p L0 (A ++ [x]) n av' (fs ++ [f]) M' (fun g => I g ∨ J g) ∧ (∀ g, M' g → M g ∨ w.heap.size ≤ g) ∧ Kept M w (w3.setCell ⟨p, 2, none⟩ (.map (some b))) ∧ RowKeeps (w3.setCell ⟨p, 2, none⟩ (.map (some b))) av fs av' (fs ++ [f]) := by
  have hz2 := q.kept.size
  have hz3 := m3.size
  have fr : ∀ g, I g ∨ J g → g < w.heap.size ∧ ¬ M g := fun g hg => by
    rcases hg with hg | hg
    · exact ⟨h.mem g (.inr hg), h.apart g hg⟩
    · exact hJ g hg
  -- a block of cells is no map's
  have nc : ∀ g cs T, w2.heap[g]? = some (.cells cs T (0, 0)) → ¬ mapOf tv = some g := fun g cs T hc hg => by
    obtain ⟨es, clock, hm⟩ := q.there.mem hg
    rw [hm] at hc; cases hc
  have e3 : ∀ g, g < w2.heap.size → ¬ mapOf tv = some g → w3.heap[g]? = w2.heap[g]? := fun g hg hn => m3.block g hg hn
  have t3 : Four w3 p lv av' tv (.int .i64 (n : Int)) := q.four.same (e3 p q.four.lt (nc p _ _ q.four))
  have hbp : b ≠ p := fun e => by
    obtain ⟨es, clock, hm⟩ := m1.mem
    rw [e, t3] at hm; cases hm
  have rowlt : ∀ g, av'.ownBlock = some g → g < w2.heap.size ∧ ¬ mapOf tv = some g ∧ g ≠ p := fun g hg => by
    obtain ⟨cs, hc⟩ := q.row.mem hg
    exact ⟨(Array.getElem?_eq_some_iff.1 hc).1, nc g _ _ hc, two_types hc q.four (FoldIn.hT.symm)⟩
  have row4 : ARow (w3.setCell ⟨p, 2, none⟩ (.map (some b))) av' (fs ++ [f]) := q.row.same fun g hg => by
    obtain ⟨k1, k2, k3⟩ := rowlt g hg
    exact (heap_setCell_ne k3).trans (e3 g k1 k2)
  have hw4 : (w3.setCell ⟨p, 2, none⟩ (.map (some b))).heap.size = w3.heap.size := by simp
  have lastsb : ∀ g, mapOf lv = some g → g ≠ p ∧ w3.heap[g]? = w2.heap[g]? ∧ g ≠ b := fun g hg => by
    obtain ⟨es, clock, hm⟩ := q.lasts.mem hg
    have hlt := q.lasts.lt hg
    have hne : ¬ mapOf tv = some g := fun e => by
      have := h7 (hg.trans e.symm)
      rw [hg] at this; cases this
    refine ⟨fun e => (by rw [e, q.four] at hm; cases hm), e3 g hlt hne, fun e => ?_⟩
    rcases m2 with m2 | ⟨_, m2⟩
    · exact hne (by rw [e]; exact m2)
    · omega
  have hM : ∀ g, OfF p lv (.map (some b)) av' g → M g ∨ w.heap.size ≤ g := fun g hg => by
    rcases hg with rfl | hg | hg | hg
    · exact .inl h4
    · exact .inl (h5 g hg)
    · cases hg
      rcases m2 with m2 | ⟨_, m2⟩
      · exact .inl (h6 b m2)
      · exact .inr (by omega)
    · rcases q.own with ⟨e, k⟩ | ⟨g', e, k⟩
      · exact .inl (k g (by rw [← e]; exact hg))
      · rw [e] at hg; cases hg; exact .inr k
  have keep : Kept M w (w3.setCell ⟨p, 2, none⟩ (.map (some b))) := by
    have k1 : Kept M w w2 := q.kept.mono fun g hg => by
      rcases hg with rfl | ⟨_, hg⟩
      · exact .inl h4
      · exact .inl hg
    have k2 : Kept M w2 w3 := m3.mono fun g hg => .inl (h6 g hg)
    exact (k1.trans k2 fun g hg => .inl hg).trans (Kept.grown (grown_setCell _ _ _ _) (fun g hg => by cases hg; exact h4)) (fun g hg => .inl hg)
  refine ⟨OfF p lv (.map (some b)) av', ⟨⟨lv, .map (some b), t3.set2 _, ?_, ?_, .inl rfl, fun g hg => .inr (.inl hg), fun g hg => .inr (.inr (.inl hg)), ?_⟩, row4, ?_, fun g hg => .inl (.inr (.inr (.inr hg))), ?_, ?_, ?_, ?_⟩, hM, keep, ?_⟩
  · exact q.lasts.same fun g hg => (heap_setCell_ne (lastsb g hg).1).trans (lastsb g hg).2.1
  · rw [actsOn_snoc]
    exact .inr ⟨b, rfl, m1.same (heap_setCell_ne hbp)⟩
  · intro e
    exact absurd rfl (lastsb b (by rw [e]; rfl)).2.2
  · refine q.acts.same (fun g hg ⟨cs, T, hc⟩ => ?_) (fun _ h => h)
    have hgw : g ≠ p := fun e => (fr g hg).2 (by rw [e]; exact h4)
    exact (heap_setCell_ne hgw).trans (e3 g (Array.getElem?_eq_some_iff.1 hc).1 (nc g _ _ hc))
  · intro y hy
    rcases List.mem_append.1 hy with hy | hy
    · exact h.fine y hy
    · rw [List.mem_singleton.1 hy]; exact hx
  · rw [List.length_append]
    exact ⟨by simp; omega, h.small.2⟩
  · intro g hg
    rw [hw4]
    rcases hg with hg | hg
    · rcases hg with rfl | hg | hg | hg
      · have := q.four.lt; omega
      · have := q.lasts.lt hg; omega
      · cases hg; exact m1.lt
      · have := (rowlt g hg).1; omega
    · have := (fr g hg).1; omega
  · intro g hg hm
    rcases hM g hm with k | k
    · exact (fr g hg).2 k
    · have := (fr g hg).1; omega
  · intro g m hg hm
    obtain ⟨k1, k2⟩ := q.keeps g m hg hm
    refine ⟨k1.same fun g' hg' => ?_, k2⟩
    cases hg'
    obtain ⟨cs, hc⟩ := k1.mem rfl
    exact (heap_setCell_ne (two_types hc q.four (FoldIn.hT.symm))).trans (e3 g (Array.getElem?_eq_some_iff.1 hc).1 (nc g _ _ hc))
end Go.Proofs.YtmmoilmfpiclgaaGreat.Fld
namespace Go.Proofs.YtmmoilmfpiclgaaGreat.Fld
open Go.RowKit Go.Shelf
set_option linter.unusedSectionVars false
variable [FoldIn]

theorem below_drewO {w0 w : World} (h : Below w0.heap.size w0 w) : Below w0.heap.size w0 w.drew := Below.drew h

set_option maxRecDepth 100000 in
theorem slice_last (g l N c : Nat) (hN : l + 1 = N) (hc : N ≤ c) (w : World) : (Instr.slice 69 (.slice (some ⟨g, 0, none⟩) N c) (some (.int .i64 (l : Int))) none none).run Tryz.prog w = .ok (.slice (some ⟨g, l, none⟩) 1 (c - l)) w := by
  have h1 : (0 : Int) ≤ (l : Int) := by omega
  have h2 : (l : Int) ≤ (N : Int) := by omega
  have h3 : l ≤ N := by omega
  have h4 : N - l = 1 := by omega
  have h5 : ¬ c = l := by omega
  have h6 : ¬ c ≤ l := by omega
  have hs : (sizeOf (Tryz.prog.elem 69)).run Tryz.prog w = .ok 1 w := by kernel_rfl
  rw [run_slice_l w 69 _ _ _ Tryz.underlying69 .i64 (l : Int) h1 h2, hs]
  show Result.ok (sliced (some ⟨g, 0, none⟩) l N c 1) w = _
  unfold sliced
  rw [if_neg h5, h4]
  simp [Addr.add_lit]

theorem ARow.form {w : World} {v : Value} {fs : List Value} (h : ARow w v fs) {g : Nat} (hg : v.ownBlock = some g) : ∃ c, v = .slice (some ⟨g, 0, none⟩) fs.length c ∧ fs.length ≤ c ∧ c ≤ 9223372036854775807 := by
  rcases h with ⟨rfl, _⟩ | ⟨g', cap, cs, rfl, h1, h2, _⟩
  · cases hg
  · cases hg; exact ⟨cap, rfl, h1, h2⟩

set_option maxHeartbeats 8000000 in
set_option maxRecDepth 100000 in
theorem add_walk {w : World} {p : Nat} {L0 : Names} {A : List FAct} {n : Nat} {av : Value} {fs : List Value} {M I J : Nat → Prop} (h : FolderIn w p L0 A n av fs M I) {x : FAct} {f : Value} (hf : FActAt w f x J) (hJ : ∀ g, J g → g < w.heap.size ∧ ¬ M g) (hx : x.fine) (hl : L0.length + A.length + 1 ≤ 100000)
    (hsh : ∃ g cs, f = .func (.func g) #[] cs) :
    Calls Tryz.prog 93 #[.pointer (some ⟨p, 0, none⟩), f] w fun e w' => e = .returned (.tuple #[]) ∧ ∃ av' fs' M', FolderIn w' p L0 (A ++ [x]) n av' fs' M' (fun g => I g ∨ J g) ∧ (∀ g, M' g → M g ∨ w.heap.size ≤ g) ∧ Kept M w w' ∧ RowKeeps w' av fs av' fs' := by
  obtain ⟨lv, tv, h1, h2, h3, h4, h5, h6, h7⟩ := h.it
  have hfo := hf.one
  have HAH := Lib.hid fun wa w1 av' g0 r1 g1 o1 => ahead_mk (wa := wa) (w1 := w1) (av' := av') h hf hJ h1 h2 h3 h4 g0 r1 g1 o1
  have HDN := Lib.hid fun w2 w3 b av' q m1 m2 m3 => done_mk (w2 := w2) (w3 := w3) (b := b) (av' := av') (f := f) (x := x) (tv := tv) h hJ hx hl h4 h5 h6 h7 q m1 m2 m3
  have HR := Lib.hid h.row
  have HFL := h.acts.1
  have hsm := h.small.1
  have HB : Hid (∀ w2 av', Ahead w w2 p L0 A n lv tv av av' fs f x M I J → ∀ g c, av' = .slice (some ⟨g, 0, none⟩) (fs.length + 1) c → ∀ W, Below w2.heap.size w2 W → Calls Tryz.prog 96 #[tv, .slice (some ⟨g, fs.length, none⟩) 1 (c - fs.length)] W fun e w' => ∃ b, e = .returned (.map (some b)) ∧ NamesAt w' b (x.on (actsOn L0 A)) ∧ (mapOf tv = some b ∨ mapOf tv = none ∧ w2.heap.size ≤ b) ∧ Kept (fun g => mapOf tv = some g) w2 w') := Lib.hid fun w2 av' q g c hav W hW => by
    have hz := hW.size
    have hin : ActsIn W (some ⟨g, fs.length, none⟩) [x] (fun g => I g ∨ J g) := fun k hk => by
      obtain rfl : k = 0 := by simpa using hk
      obtain ⟨b, o, ha, hb, ⟨cs, T, hc⟩, f', hf1, hf2⟩ := q.row.acts q.acts hav A.length (by simp)
      cases ha
      have e1 := hW.block g hb
      refine ⟨g, fs.length, rfl, by omega, ⟨cs, T, e1.trans hc⟩, f', ?_, ?_⟩
      · rw [cell_of_row _ _ _ _ _ _ (e1.trans hc)]
        rw [cell_of_row _ _ _ _ _ _ hc, Nat.zero_add, ← h.acts.1] at hf1
        exact hf1
      · simp only [List.getElem_append_right (Nat.le_refl _), Nat.sub_self, List.getElem_cons_zero] at hf2 ⊢
        exact hf2.same (fun g' _ ⟨cs', T', hc'⟩ => hW.block g' (Array.getElem?_eq_some_iff.1 hc').1) (fun _ h => h)
    have hth : MapIs W tv (actsOn L0 A) := q.there.same fun b hb => hW.block b (q.there.lt hb)
    have hlen := actsOn_length L0 A
    refine (behind_any hth hin rfl (fun g hg => ?_) (fun y hy => by rw [List.mem_singleton.1 hy]; exact hx) (by simp; omega)).mono ?_
    · have hk := q.kept.size
      rcases hg with hg | hg
      · have := h.mem g (.inr hg); omega
      · have := (hJ g hg).1; omega
    · rintro e w' ⟨b, rfl, k1, k2, k3⟩
      refine ⟨b, rfl, k1, ?_, (Kept.below hW).trans k3 (fun g hg => .inl hg)⟩
      rcases k2 with k2 | ⟨k2, k4⟩
      · exact .inl k2
      · exact .inr ⟨k2, by omega⟩
  have k1 := h1.at1
  obtain ⟨ad, c, rfl, hcl, _⟩ := h.row.shape
  obtain ⟨m, rfl⟩ := h3.shape
  have hpl := h1.lt
  obtain ⟨l, hfl⟩ : ∃ l, fs.length = l := ⟨_, rfl⟩
  have HLL := Lib.hid hfl
  obtain ⟨N, hN⟩ : ∃ N, l + 1 = N := ⟨_, rfl⟩
  have HNN := Lib.hid hN
  obtain ⟨gg, cs, rfl⟩ := hsh
  have hl1 : fs.length ≤ 1000000 := by rw [HFL]; omega
  have HNP : Hid (∀ g, (Value.slice ad fs.length c).ownBlock = some g → g ≠ p) := Lib.hid fun g hg => by
    obtain ⟨cs', hc'⟩ := HR.out.mem hg
    exact two_types hc' h1 (FoldIn.hT.symm)
  have HT := Lib.hid h1
  clear h hf hJ h1 h2 h3 h4 h5 h6 h7 HFL
  rw [hfl] at hl1 k1 hcl
  go_enter Tryz.func93, Tryz.ntmps93
  go_upto_region 1 with (first
    | (at_builtin; refine wpList_append_arow rfl _ _ rfl rfl (.slice ad l c) fs w.heap.size (.func (.func gg) #[] cs) rfl rfl (by simp) rfl (by rw [← HLL.out]; exact HR.out.same (fun g hg => (below_alloc' (Below.refl _ w)).block g (HR.out.lt hg))) (by rw [HLL.out]; exact hl1) ?_; intro av' w1 r1 g1 o1 _ ob1; clear k1;
        have t1 : Four w1 p lv (.slice ad l c) (.map m) (.int .i64 (n : Int)) := (by rw [← HLL.out]; exact grown_four (HT.out.same ((below_alloc' (Below.refl _ w)).block p hpl)) g1 (fun e => HNP.out p (by rw [HLL.out]; exact e) rfl));
        have y1 := t1.at1; have z1 := t1.free 1;
        have q1 := HAH.out (w.alloc (.cells #[.func (.func gg) #[] cs] 163)) w1 av' (below_alloc' (Below.refl _ w)) r1 (by (rw [HLL.out]; exact g1)) (by (rw [HLL.out]; rw [HLL.out] at o1; exact o1));
        obtain ⟨g', hg'⟩ := ob1; obtain ⟨c', hv', hc1, hc2⟩ := r1.form hg'; rw [List.length_append, List.length_singleton, HLL.out, HNN.out] at hv' hc1; subst hv';
        have Q1 := Lib.hid q1; have y2 := q1.four.at1; have z2 := q1.four.at2; have f2 := q1.four.free 2;
        have HQB := Lib.hid (HB.out _ _ q1 g' c' (by rw [HLL.out, HNN.out])); clear t1 q1 g1 o1 hg'))
  have i1 : (N : Int) - 1 = (l : Int) := by omega
  have hsl := slice_last g' l N c' HNN.out hc1
  have i12 : IntKind.i64.wrap (l : Int) = (l : Int) := IntWalk.i64_in _ (by omega)
  have i2 : (0 : Int) ≤ (l : Int) := by omega
  have i3 : (l : Int) ≤ (N : Int) := by omega
  rw [HLL.out] at HQB
  clear hc1 hc2 HAH HB y1 z1 r1 hN
  generalize w1.setCell ⟨p, 1, none⟩ (.slice (some ⟨g', 0, none⟩) N c') = w2 at Q1 y2 z2 f2 HQB ⊢
  have K4 : Hid (∀ W, Kept (fun g => mapOf (.map m) = some g) w2 W → W.cell? ⟨p, 1, none⟩ = some (.slice (some ⟨g', 0, none⟩) N c') ∧ W.cell? ⟨p, 2, none⟩ = some (.map m) ∧ W.frozen? ⟨p, 2, none⟩ = false) := Lib.hid fun W hW => by
    have t : Four W p _ _ _ _ := Q1.out.four.same (hW.block p Q1.out.four.lt fun e => by
      obtain ⟨es, clock, hm⟩ := Q1.out.there.mem e
      have h4 := Q1.out.four
      unfold Four at h4
      rw [h4] at hm; cases hm)
    exact ⟨t.at1, t.at2, t.free 2⟩
  have k0 : Kept (fun g => mapOf (.map m) = some g) w2 w2.drew := Kept.below (below_drewO (Below.refl _ _))
  have K0 := Lib.hid k0
  clear k0
  go_region_with (go_at_call 96; (with_reducible refine (HQB.out _ (below_drewO (Below.refl _ _))).mono ?_); rintro e w3 ⟨b, rfl, m1, m2, m3⟩; obtain ⟨_, y3, f3⟩ := K4.out _ m3; have HM := Lib.hid (And.intro m1 (And.intro m2 m3)); clear m1 m2 m3)
  all_goals
    go_wp2
    exact bodyPost_end (v := .tuple #[]) (by simp [results, Tryz.results93, go_sem]) rfl ⟨rfl, _, _, HDN.out _ _ _ _ Q1.out HM.out.1 HM.out.2.1 HM.out.2.2⟩
end Go.Proofs.YtmmoilmfpiclgaaGreat.Fld
namespace Go.Proofs.YtmmoilmfpiclgaaGreat.Fld
open Go.RowKit Go.Shelf
set_option linter.unusedSectionVars false
variable [FoldIn]

structure FS where
  L0 : Names
  A : List FAct
  n : Nat

def FS.there (S : FS) : Names := actsOn S.L0 S.A
def FS.new : FS := ⟨[], [], 0⟩
/-- A name is created: the folder, its number, the error. -/
def FS.create (S : FS) (s : ByteArray) : FS × Nat × Nat :=
  if mayB s = false then (S, 0, 2) else if foundB S.there s.data.toList = true then (S, 0, 8) else (⟨S.L0, S.A ++ [.create s (S.n + 1)], S.n + 1⟩, S.n + 1, 0)
def FS.rename (S : FS) (a b : ByteArray) : FS × Nat :=
  if mayB b = false then (S, 2) else if foundB S.there a.data.toList = false then (S, 9) else (⟨S.L0, S.A ++ [.rename a b (foundN S.there a.data.toList)], S.n⟩, 0)
def FS.remove (S : FS) (s : ByteArray) : FS × Nat :=
  if foundB S.there s.data.toList = false then (S, 9) else (⟨S.L0, S.A ++ [.remove s], S.n⟩, 0)
def FS.sync (S : FS) : FS := ⟨S.there, [], S.n⟩
def FS.survive (S : FS) (k : Int) : FS := ⟨actsOn S.L0 (S.A.take (upTo k S.A.length)), [], S.n⟩

/-- How great it is: what the contracts' bounds ask. -/
def FS.weight (S : FS) : Nat := S.L0.length + S.A.length + S.n

/-- A folder in memory: av, fs: the slice of its acts, and what is in it; M: the blocks that it writes; I: those that it only reads. -/
def FolderS (w : World) (p : Nat) (S : FS) (av : Value) (fs : List Value) (M I : Nat → Prop) : Prop := FolderIn w p S.L0 S.A S.n av fs M I

/-- Behind a method. -/
def WentS (w : World) (p : Nat) (av : Value) (fs : List Value) (M I : Nat → Prop) (S : FS) (w' : World) : Prop :=
  ∃ av' fs' M' I', FolderS w' p S av' fs' M' I' ∧ (∀ g, M' g → M g ∨ w.heap.size ≤ g) ∧ (∀ g, I' g → I g ∨ w.heap.size ≤ g) ∧ Kept M w w' ∧ RowKeeps w' av fs av' fs'

theorem rowKeeps_same {w w' : World} {av : Value} {fs : List Value} (h : ARow w av fs) (he : ∀ g, av.ownBlock = some g → w'.heap[g]? = w.heap[g]?) : RowKeeps w' av fs av fs := fun b m hb hm =>
  ⟨(h.cut hb hm).same fun g hg => by cases hg; exact he b hb, fun _ => ⟨hm, rfl⟩⟩

/-- Where nothing but new blocks has come. -/
theorem went_below {w w' : World} {p : Nat} {S : FS} {av : Value} {fs : List Value} {M I : Nat → Prop} (h : FolderS w p S av fs M I) (hb : Below w.heap.size w w') : WentS w p av fs M I S w' :=
  ⟨av, fs, M, I, FolderIn.below h hb, fun _ h => .inl h, fun _ h => .inl h, Kept.below hb, rowKeeps_same h.row fun g hg => hb.block g (h.row.lt hg)⟩

theorem FolderIn.count {w : World} {p : Nat} {L0 : Names} {A : List FAct} {n : Nat} {av : Value} {fs : List Value} {M I : Nat → Prop} (h : FolderIn w p L0 A n av fs M I) (n' : Nat) (hn : n' ≤ 100000) :
    FolderIn (w.setCell ⟨p, 3, none⟩ (.int .i64 (n' : Int))) p L0 A n' av fs M I ∧ Kept M w (w.setCell ⟨p, 3, none⟩ (.int .i64 (n' : Int))) ∧ RowKeeps (w.setCell ⟨p, 3, none⟩ (.int .i64 (n' : Int))) av fs av fs := by
  obtain ⟨lv, tv, h1, h2, h3, h4, h5, h6, h7⟩ := h.it
  have nm : ∀ g, (∃ es clock, w.heap[g]? = some (.map es clock)) → g ≠ p := fun g ⟨es, clock, hm⟩ e => by
    rw [e, h1] at hm; cases hm
  have nr : ∀ g, av.ownBlock = some g → g ≠ p := fun g hg => by
    obtain ⟨cs, hc⟩ := h.row.mem hg
    exact two_types hc h1 (FoldIn.hT.symm)
  refine ⟨⟨⟨lv, tv, h1.set3 _, h2.same fun b hb => heap_setCell_ne (nm b (h2.mem hb)), h3.same fun b hb => heap_setCell_ne (nm b (h3.mem hb)), h4, h5, h6, h7⟩, h.row.same fun g hg => heap_setCell_ne (nr g hg), h.acts.same (fun g hg _ => heap_setCell_ne fun e => h.apart g hg (by rw [e]; exact h4)) (fun _ h => h), h.room, h.fine, ⟨h.small.1, hn⟩, fun g hg => by simpa using h.mem g hg, h.apart⟩, Kept.grown (grown_setCell _ _ _ _) (fun g hg => by cases hg; exact h4), rowKeeps_same h.row fun g hg => heap_setCell_ne (nr g hg)⟩

theorem kept_m {w w' : World} {M : Nat → Prop} {av : Value} {fs : List Value} (h : ARow w av fs) : Kept M w w' → (∀ g, av.ownBlock = some g → ¬ M g) → ∀ g, av.ownBlock = some g → w'.heap[g]? = w.heap[g]? := fun hk hn g hg => hk.block g (h.lt hg) (hn g hg)

/-- Behind the call that does an act, in a world that has come of w without the row. -/
theorem went_add {w wb w' : World} {p : Nat} {S' : FS} {av : Value} {fs : List Value} {M I J : Nat → Prop} (hz : w.heap.size ≤ wb.heap.size) (hJ : ∀ g, J g → w.heap.size ≤ g) (hk : Kept M w wb)
    (h : ∃ av' fs' M', FolderIn w' p S'.L0 S'.A S'.n av' fs' M' (fun g => I g ∨ J g) ∧ (∀ g, M' g → M g ∨ wb.heap.size ≤ g) ∧ Kept M wb w' ∧ RowKeeps w' av fs av' fs') : WentS w p av fs M I S' w' := by
  obtain ⟨av', fs', M', h1, h2, h3, h4⟩ := h
  refine ⟨av', fs', M', _, h1, fun g hg => ?_, fun g hg => ?_, hk.trans h3 (fun g hg => .inl hg), h4⟩
  · rcases h2 g hg with k | k
    · exact .inl k
    · exact .inr (by omega)
  · rcases hg with k | k
    · exact .inl k
    · exact .inr (hJ g k)

set_option maxHeartbeats 4000000 in
set_option maxRecDepth 100000 in
theorem create_any {w : World} {p : Nat} {S : FS} {av : Value} {fs : List Value} {M I : Nat → Prop} (h : FolderS w p S av fs M I) (s : ByteArray) (hs : s.size ≤ nameMax) (hl : S.weight ≤ 90000) :
    Calls Tryz.prog 38 #[.pointer (some ⟨p, 0, none⟩), .string s] w fun e w' => e = .returned (.tuple #[.int .i64 ((S.create s).2.1 : Nat), .int .i64 ((S.create s).2.2 : Nat)]) ∧ WentS w p av fs M I (S.create s).1 w' := by
  obtain ⟨L0, A, n⟩ := S
  have h' : FolderIn w p L0 A n av fs M I := h
  obtain ⟨lv, tv, h1, _, h3, h4, _⟩ := h'.it
  have hw : L0.length + A.length + n ≤ 90000 := hl
  obtain ⟨w1, hw1⟩ : ∃ w1, w.alloc (.cells #[.string s] 9) = w1 := ⟨_, rfl⟩
  have hb1 : Below w.heap.size w w1 := by rw [← hw1]; exact below_alloc' (Below.refl _ w)
  have hz1 : w1.heap.size = w.heap.size + 1 := by rw [← hw1]; simp
  have hf1 := FolderIn.below h' hb1
  have hbox : w1.heap[w.heap.size]? = some (.cells #[.string s] 9 (0, 0)) := by rw [← hw1]; exact heap_alloc_new w _
  have k0 : w1.cell? ⟨w.heap.size, 0, none⟩ = some (.string s) := by rw [cell_of_row _ _ _ _ _ _ hbox]; rfl
  have t1 : Four w1 p lv av tv (.int .i64 (n : Int)) := h1.same (hb1.block p h1.lt)
  have k2 := t1.at2
  have k3 := t1.at3
  have gk0 := fun d os => cell_regrown k0 d os
  have gk2 := fun d os => cell_regrown k2 d os
  have f3 := t1.free 3
  have m1 : MapIs w1 tv (actsOn L0 A) := h3.same fun b hb => hb1.block b (h3.lt hb)
  have hlk := fun d os => (m1.same (w' := Sort.grow (redrawn w1 d) os) fun b hb => (below_regrown w1 d os).block b (m1.lt hb)).look s hs
  obtain ⟨m, rfl⟩ := h3.shape
  have q32 := fun W => may_any s W hs
  have HW := Lib.hid (went_below h hb1)
  have HWW := Lib.hid fun (w' : World) (hb : Below w1.heap.size w1 w') => went_below h (Below.next hb1 hb)
  have HADD : Hid (∀ w4, Below w1.heap.size w1 w4 → ∀ W, W = (w4.setCell ⟨p, 3, none⟩ (.int .i64 ((n + 1 : Nat) : Int))).alloc (.cells #[.int .i64 ((n + 1 : Nat) : Int)] 3) → Calls Tryz.prog 93 #[.pointer (some ⟨p, 0, none⟩), .func (.func 94) #[] #[.pointer (some ⟨w4.heap.size, 0, none⟩), .pointer (some ⟨w.heap.size, 0, none⟩)]] W fun e w' => e = .returned (.tuple #[]) ∧ WentS w p av fs M I ⟨L0, A ++ [.create s (n + 1)], n + 1⟩ w' ∧ w'.cell? ⟨w4.heap.size, 0, none⟩ = some (.int .i64 ((n + 1 : Nat) : Int))) := Lib.hid fun w4 hb4 W hW => by
    subst hW
    have hb14 := Below.next hb1 hb4
    have hz4 := hb4.size
    have hf4 := FolderIn.below h' hb14
    have hbox4 := (hb4.block w.heap.size (by omega)).trans hbox
    clear hbox hf1
    obtain ⟨c1, c2, c3⟩ := hf4.count (n + 1) (by omega)
    have hbz : (w4.setCell ⟨p, 3, none⟩ (.int .i64 ((n + 1 : Nat) : Int))).heap.size = w4.heap.size := by simp
    generalize w4.setCell ⟨p, 3, none⟩ (.int .i64 ((n + 1 : Nat) : Int)) = w2 at c1 c2 c3 hbz ⊢
    have hb3 := below_alloc' (o := .cells #[.int .i64 ((n + 1 : Nat) : Int)] 3) (Below.refl _ w2)
    have c4 := c1.below hb3
    have hn3 := heap_alloc_new w2 (.cells #[.int .i64 ((n + 1 : Nat) : Int)] 3)
    have hz3 : (w2.alloc (.cells #[.int .i64 ((n + 1 : Nat) : Int)] 3)).heap.size = w4.heap.size + 1 := by simp; omega
    rw [hbz] at hn3
    have hbx : (w2.alloc (.cells #[.int .i64 ((n + 1 : Nat) : Int)] 3)).heap[w.heap.size]? = some (.cells #[.string s] 9 (0, 0)) := by
      rw [hb3.block _ (by omega), c2.block _ (by omega) (fun hm => by have := h'.mem _ (.inl hm); omega)]
      exact hbox4
    generalize w2.alloc (.cells #[.int .i64 ((n + 1 : Nat) : Int)] 3) = w3 at c4 hn3 hz3 hbx hb3
    have hk3 : Kept M w w3 := ((Kept.below hb14).trans c2 (fun g hg => .inl hg)).trans (Kept.below hb3) (fun g hg => .inl hg)
    refine (add_walk c4 (x := .create s (n + 1)) (J := fun g => g = w4.heap.size ∨ g = w.heap.size) ⟨_, _, rfl, hn3, hbx, .inl rfl, .inr rfl⟩ (fun g hg => ?_) ⟨hs, by omega⟩ (by omega) ⟨_, _, rfl⟩).mono ?_
    · have hm : ¬ M g := fun hm => by
        have := h'.mem _ (.inl hm)
        rcases hg with rfl | rfl <;> omega
      rcases hg with rfl | rfl
      · exact ⟨by omega, hm⟩
      · exact ⟨by omega, hm⟩
    · rintro e w' ⟨rfl, hq⟩
      refine ⟨rfl, went_add (S' := ⟨L0, A ++ [.create s (n + 1)], n + 1⟩) hk3.size (fun g hg => by rcases hg with rfl | rfl <;> omega) hk3 hq, ?_⟩
      obtain ⟨_, _, _, q1, q2, q3, q4⟩ := hq
      have := q3.block w4.heap.size (by omega) (fun hm => by have := h'.mem _ (.inl hm); omega)
      rw [cell_of_row _ _ _ _ _ _ (this.trans hn3)]
      rfl
  have hnw : wrap64 ((n : Int) + 1) = ((n + 1 : Nat) : Int) := by unfold wrap64; omega
  have F4 := Lib.hid t1
  obtain ⟨n1, hn1⟩ : ∃ n1, n + 1 = n1 := ⟨_, rfl⟩
  rw [hn1] at hnw
  simp only [hn1] at HADD
  have hnw2 : (n : Int) + 1 = (n1 : Int) := by omega
  clear h h' h1 h3 h4 hf1 hbox m1 t1 hb1
  have hm : mayB s = true ∨ mayB s = false := by cases mayB s <;> simp
  rcases hm with hm | hm
  · have hB : (foundB (actsOn L0 A) s.data.toList = true ∧ FS.create ⟨L0, A, n⟩ s = (⟨L0, A, n⟩, 0, 8)) ∨ (foundB (actsOn L0 A) s.data.toList = false ∧ FS.create ⟨L0, A, n⟩ s = (⟨L0, A ++ [.create s (n + 1)], n + 1⟩, n + 1, 0)) := by
      unfold FS.create FS.there
      rw [if_neg (by rw [hm]; simp)]
      cases hf : foundB (actsOn L0 A) s.data.toList with
      | true => exact .inl ⟨rfl, if_pos rfl⟩
      | false => exact .inr ⟨rfl, if_neg (by simp)⟩
    rw [hm] at q32
    obtain ⟨fb, hfb⟩ : ∃ fb, foundB (actsOn L0 A) s.data.toList = fb := ⟨_, rfl⟩
    obtain ⟨fn, hfn⟩ : ∃ fn, foundN (actsOn L0 A) s.data.toList = fn := ⟨_, rfl⟩
    rw [hfb, hfn] at hlk
    rw [hfb] at hB
    simp only [hn1] at hB
    clear hfb hfn hm hn1
    go_enter Tryz.func38, Tryz.ntmps38
    rcases hB with ⟨rfl, hB⟩ | ⟨rfl, hB⟩
    · rw [hB]
      clear hB
      go_upto_region 5 with (go_at_call 92; (with_reducible refine (q32 _).mono ?_); rintro e w2 ⟨rfl, rfl⟩)
      refine wp_region_quiet_below (by kernel_rfl) (by kernel_rfl) ?_
      repeat (go_big_quiet_step (fail))
      refine wpQuiet_nil ?_
      intro _ hw'
      obtain ⟨⟨dq, osq⟩, hw''⟩ := hw'
      subst hw''
      have HW2 := Lib.hid (HWW.out _ (below_regrown w1 dq osq))
      generalize Sort.grow (redrawn w1 dq) osq = w4 at HW2 ⊢
      go_wp2
      go_ret2
      exact ⟨rfl, HW2.out⟩
    · rw [hB]
      clear hB
      go_upto_region 5 with (go_at_call 92; (with_reducible refine (q32 _).mono ?_); rintro e w2 ⟨rfl, rfl⟩)
      refine wp_region_quiet_below (by kernel_rfl) (by kernel_rfl) ?_
      repeat (go_big_quiet_step (fail))
      refine wpQuiet_nil ?_
      intro _ hw'
      obtain ⟨⟨dq, osq⟩, hw''⟩ := hw'
      subst hw''
      have hb4 := below_regrown w1 dq osq
      have y3 := fun d os => cell_regrown k3 d os
      have y3 := y3 dq osq
      have z3 : (Sort.grow (redrawn w1 dq) osq).frozen? ⟨p, 3, none⟩ = false := (F4.out.same (hb4.block p F4.out.lt)).free 3
      have HA := Lib.hid (HADD.out _ hb4 _ rfl)
      clear gk0 gk2 hlk hb4
      generalize Sort.grow (redrawn w1 dq) osq = w4 at HA y3 z3 ⊢
      go_wp2_with (go_at_call 93; (with_reducible refine HA.out.mono ?_); rintro e w5 ⟨rfl, h5, c5⟩; have H5 := Lib.hid h5; clear h5)
      go_ret2
      exact ⟨rfl, H5.out⟩
  · rw [show FS.create ⟨L0, A, n⟩ s = (⟨L0, A, n⟩, 0, 2) by unfold FS.create; rw [if_pos hm]]
    rw [hm] at q32
    go_enter Tryz.func38, Tryz.ntmps38
    go_wp2_with (go_at_call 92; (with_reducible refine (q32 _).mono ?_); rintro e w2 ⟨rfl, rfl⟩)
    go_ret2
    exact ⟨rfl, HW.out⟩
end Go.Proofs.YtmmoilmfpiclgaaGreat.Fld
namespace Go.Proofs.YtmmoilmfpiclgaaGreat.Fld
open Go.RowKit Go.Shelf
set_option linter.unusedSectionVars false
variable [FoldIn]

set_option maxHeartbeats 4000000 in
set_option maxRecDepth 100000 in
theorem remove_any {w : World} {p : Nat} {S : FS} {av : Value} {fs : List Value} {M I : Nat → Prop} (h : FolderS w p S av fs M I) (s : ByteArray) (hs : s.size ≤ nameMax) (hl : S.weight ≤ 90000) :
    Calls Tryz.prog 87 #[.pointer (some ⟨p, 0, none⟩), .string s] w fun e w' => e = .returned (.int .i64 ((S.remove s).2 : Nat)) ∧ WentS w p av fs M I (S.remove s).1 w' := by
  obtain ⟨L0, A, n⟩ := S
  have h' : FolderIn w p L0 A n av fs M I := h
  obtain ⟨lv, tv, h1, _, h3, h4, _⟩ := h'.it
  have hw : L0.length + A.length + n ≤ 90000 := hl
  obtain ⟨w1, hw1⟩ : ∃ w1, w.alloc (.cells #[.string s] 9) = w1 := ⟨_, rfl⟩
  have hb1 : Below w.heap.size w w1 := by rw [← hw1]; exact below_alloc' (Below.refl _ w)
  have hz1 : w1.heap.size = w.heap.size + 1 := by rw [← hw1]; simp
  have hf1 := FolderIn.below h' hb1
  have hbox : w1.heap[w.heap.size]? = some (.cells #[.string s] 9 (0, 0)) := by rw [← hw1]; exact heap_alloc_new w _
  have k0 : w1.cell? ⟨w.heap.size, 0, none⟩ = some (.string s) := by rw [cell_of_row _ _ _ _ _ _ hbox]; rfl
  have t1 : Four w1 p lv av tv (.int .i64 (n : Int)) := h1.same (hb1.block p h1.lt)
  have k2 := t1.at2
  have gk0 := fun d os => cell_regrown k0 d os
  have gk2 := fun d os => cell_regrown k2 d os
  have m1 : MapIs w1 tv (actsOn L0 A) := h3.same fun b hb => hb1.block b (h3.lt hb)
  have hlk := fun d os => (m1.same (w' := Sort.grow (redrawn w1 d) os) fun b hb => (below_regrown w1 d os).block b (m1.lt hb)).look s hs
  obtain ⟨m, rfl⟩ := h3.shape
  have HWW := Lib.hid fun (w' : World) (hb : Below w1.heap.size w1 w') => went_below h (Below.next hb1 hb)
  have HADD : Hid (∀ w4, Below w1.heap.size w1 w4 → Calls Tryz.prog 93 #[.pointer (some ⟨p, 0, none⟩), .func (.func 134) #[] #[.pointer (some ⟨w.heap.size, 0, none⟩)]] w4 fun e w' => e = .returned (.tuple #[]) ∧ WentS w p av fs M I ⟨L0, A ++ [.remove s], n⟩ w') := Lib.hid fun w4 hb4 => by
    have hb14 := Below.next hb1 hb4
    have hz4 := hb4.size
    have hf4 := FolderIn.below h' hb14
    have hbox4 := (hb4.block w.heap.size (by omega)).trans hbox
    refine (add_walk hf4 (x := .remove s) (J := fun g => g = w.heap.size) ⟨_, rfl, hbox4, rfl⟩ (fun g hg => ?_) hs (by omega) ⟨_, _, rfl⟩).mono ?_
    · have hm : ¬ M g := fun hm => by
        have := h'.mem _ (.inl hm)
        omega
      exact ⟨by omega, hm⟩
    · rintro e w' ⟨rfl, hq⟩
      exact ⟨rfl, went_add (S' := ⟨L0, A ++ [.remove s], n⟩) hb14.size (fun g hg => by omega) (Kept.below hb14) hq⟩
  have hB : (foundB (actsOn L0 A) s.data.toList = false ∧ FS.remove ⟨L0, A, n⟩ s = (⟨L0, A, n⟩, 9)) ∨ (foundB (actsOn L0 A) s.data.toList = true ∧ FS.remove ⟨L0, A, n⟩ s = (⟨L0, A ++ [.remove s], n⟩, 0)) := by
    unfold FS.remove FS.there
    cases hf : foundB (actsOn L0 A) s.data.toList with
    | true => exact .inr ⟨rfl, if_neg (by simp)⟩
    | false => exact .inl ⟨rfl, if_pos rfl⟩
  obtain ⟨fb, hfb⟩ : ∃ fb, foundB (actsOn L0 A) s.data.toList = fb := ⟨_, rfl⟩
  obtain ⟨fn, hfn⟩ : ∃ fn, foundN (actsOn L0 A) s.data.toList = fn := ⟨_, rfl⟩
  rw [hfb, hfn] at hlk
  rw [hfb] at hB
  clear h h' h1 h3 h4 hf1 hbox m1 t1 hb1 hfb hfn
  go_enter Tryz.func87, Tryz.ntmps87
  rcases hB with ⟨rfl, hB⟩ | ⟨rfl, hB⟩
  · rw [hB]
    clear hB
    go_upto_region 3 with fail
    refine wp_region_quiet_below (by kernel_rfl) (by kernel_rfl) ?_
    repeat (go_big_quiet_step (fail))
    refine wpQuiet_nil ?_
    intro _ hw'
    obtain ⟨⟨dq, osq⟩, hw''⟩ := hw'
    subst hw''
    have HW2 := Lib.hid (HWW.out _ (below_regrown w1 dq osq))
    generalize Sort.grow (redrawn w1 dq) osq = w4 at HW2 ⊢
    go_wp2
    go_ret
    exact ⟨rfl, HW2.out⟩
  · rw [hB]
    clear hB
    go_upto_region 3 with fail
    refine wp_region_quiet_below (by kernel_rfl) (by kernel_rfl) ?_
    repeat (go_big_quiet_step (fail))
    refine wpQuiet_nil ?_
    intro _ hw'
    obtain ⟨⟨dq, osq⟩, hw''⟩ := hw'
    subst hw''
    have HA := Lib.hid (HADD.out _ (below_regrown w1 dq osq))
    clear gk0 gk2 hlk
    generalize Sort.grow (redrawn w1 dq) osq = w4 at HA ⊢
    go_wp2_with (go_at_call 93; (with_reducible refine HA.out.mono ?_); rintro e w5 ⟨rfl, h5⟩; have H5 := Lib.hid h5; clear h5)
    go_ret
    exact ⟨rfl, H5.out⟩

set_option maxHeartbeats 4000000 in
set_option maxRecDepth 100000 in
theorem rename_any {w : World} {p : Nat} {S : FS} {av : Value} {fs : List Value} {M I : Nat → Prop} (h : FolderS w p S av fs M I) (a b : ByteArray) (ha : a.size ≤ nameMax) (hb : b.size ≤ nameMax) (hl : S.weight ≤ 90000) (hfb : foundN S.there a.data.toList ≤ 100000) :
    Calls Tryz.prog 84 #[.pointer (some ⟨p, 0, none⟩), .string a, .string b] w fun e w' => e = .returned (.int .i64 ((S.rename a b).2 : Nat)) ∧ WentS w p av fs M I (S.rename a b).1 w' := by
  obtain ⟨L0, A, n⟩ := S
  have h' : FolderIn w p L0 A n av fs M I := h
  have hfb : foundN (actsOn L0 A) a.data.toList ≤ 100000 := hfb
  obtain ⟨lv, tv, h1, _, h3, h4, _⟩ := h'.it
  have hw : L0.length + A.length + n ≤ 90000 := hl
  obtain ⟨w0, hw0⟩ : ∃ w0, w.alloc (.cells #[.string a] 9) = w0 := ⟨_, rfl⟩
  have hb0 : Below w.heap.size w w0 := by rw [← hw0]; exact below_alloc' (Below.refl _ w)
  have hz0 : w0.heap.size = w.heap.size + 1 := by rw [← hw0]; simp
  have hbox0 : w0.heap[w.heap.size]? = some (.cells #[.string a] 9 (0, 0)) := by rw [← hw0]; exact heap_alloc_new w _
  obtain ⟨w1, hw1⟩ : ∃ w1, w0.alloc (.cells #[.string b] 9) = w1 := ⟨_, rfl⟩
  have hb01 : Below w0.heap.size w0 w1 := by rw [← hw1]; exact below_alloc' (Below.refl _ w0)
  have hb1 : Below w.heap.size w w1 := Below.next hb0 hb01
  have hz1 : w1.heap.size = w0.heap.size + 1 := by rw [← hw1]; simp
  have hbox : w1.heap[w.heap.size]? = some (.cells #[.string a] 9 (0, 0)) := (hb01.block _ (by omega)).trans hbox0
  have hboxb : w1.heap[w0.heap.size]? = some (.cells #[.string b] 9 (0, 0)) := by rw [← hw1]; exact heap_alloc_new w0 _
  have k0 : w1.cell? ⟨w.heap.size, 0, none⟩ = some (.string a) := by rw [cell_of_row _ _ _ _ _ _ hbox]; rfl
  have k1 : w1.cell? ⟨w.heap.size + 1, 0, none⟩ = some (.string b) := by rw [← hz0, cell_of_row _ _ _ _ _ _ hboxb]; rfl
  have t1 : Four w1 p lv av tv (.int .i64 (n : Int)) := h1.same (hb1.block p h1.lt)
  have k2 := t1.at2
  have m1 : MapIs w1 tv (actsOn L0 A) := h3.same fun b hb => hb1.block b (h3.lt hb)
  obtain ⟨fbb, hfbb⟩ : ∃ fb, foundB (actsOn L0 A) a.data.toList = fb := ⟨_, rfl⟩
  obtain ⟨fn, hfn⟩ : ∃ fn, foundN (actsOn L0 A) a.data.toList = fn := ⟨_, rfl⟩
  have HLK : Hid (∀ W, Below w1.heap.size w1 W → (Instr.lookup 68 tv (.string a) true).run Tryz.prog W = .ok (.tuple #[.int .i64 (fn : Nat), .bool fbb]) W) := Lib.hid fun W hW => by
    have := (m1.same (w' := W) fun b hb => hW.block b (m1.lt hb)).look a ha
    rw [hfbb, hfn] at this
    exact this
  obtain ⟨m, rfl⟩ := h3.shape
  have HWW := Lib.hid fun (w' : World) (hb : Below w1.heap.size w1 w') => went_below h (Below.next hb1 hb)
  have HADD : Hid (Calls Tryz.prog 93 #[.pointer (some ⟨p, 0, none⟩), .func (.func 133) #[] #[.pointer (some ⟨w.heap.size, 0, none⟩), .pointer (some ⟨w.heap.size + 1 + 1, 0, none⟩), .pointer (some ⟨w.heap.size + 1, 0, none⟩)]] (w1.alloc (.cells #[.int .i64 (fn : Int)] 3)).drew fun e w' => e = .returned (.tuple #[]) ∧ WentS w p av fs M I ⟨L0, A ++ [.rename a b fn], n⟩ w') := Lib.hid (by
    have hn3 : ((w1.alloc (.cells #[.int .i64 (fn : Int)] 3)).drew).heap[w1.heap.size]? = some (.cells #[.int .i64 (fn : Int)] 3 (0, 0)) := heap_alloc_new w1 _
    have hb43 := below_drewO (below_alloc' (o := .cells #[.int .i64 (fn : Int)] 3) (Below.refl _ w1))
    have hz3 : ((w1.alloc (.cells #[.int .i64 (fn : Int)] 3)).drew).heap.size = w1.heap.size + 1 := by show (w1.alloc _).heap.size = _; simp
    rw [hz1, hz0] at hn3
    generalize (w1.alloc (.cells #[.int .i64 (fn : Int)] 3)).drew = W at hn3 hb43 hz3 ⊢
    have hb14 := Below.next hb1 hb43
    have hf4 := FolderIn.below h' hb14
    have hbox4 := (hb43.block w.heap.size (by omega)).trans hbox
    have hbox5 := (hb43.block w0.heap.size (by omega)).trans hboxb
    rw [hz0] at hbox5
    refine (add_walk hf4 (x := .rename a b fn) (J := fun g => g = w.heap.size ∨ g = w.heap.size + 1 + 1 ∨ g = w.heap.size + 1) ⟨_, _, _, rfl, hbox4, hn3, hbox5, .inl rfl, .inr (.inl rfl), .inr (.inr rfl)⟩ (fun g hg => ?_) ⟨ha, hb, by omega⟩ (by omega) ⟨_, _, rfl⟩).mono ?_
    · have hm : ¬ M g := fun hm => by
        have := h'.mem _ (.inl hm)
        omega
      exact ⟨by omega, hm⟩
    · rintro e w' ⟨rfl, hq⟩
      exact ⟨rfl, went_add (S' := ⟨L0, A ++ [.rename a b fn], n⟩) hb14.size (fun g hg => by omega) (Kept.below hb14) hq⟩)
  have HC : Hid (∀ W, Below w1.heap.size w1 W → W.cell? ⟨p, 2, none⟩ = some (.map m) ∧ W.cell? ⟨w.heap.size, 0, none⟩ = some (.string a)) := Lib.hid fun W hW => by
    have t : Four W p _ _ _ _ := t1.same (hW.block p t1.lt)
    exact ⟨t.at2, by rw [cell_of_row _ _ _ _ _ _ ((hW.block _ (by omega)).trans hbox)]; rfl⟩
  have q32 := fun W => may_any b W hb
  have hB : (mayB b = false ∧ FS.rename ⟨L0, A, n⟩ a b = (⟨L0, A, n⟩, 2)) ∨ (mayB b = true ∧ fbb = false ∧ FS.rename ⟨L0, A, n⟩ a b = (⟨L0, A, n⟩, 9)) ∨ (mayB b = true ∧ fbb = true ∧ FS.rename ⟨L0, A, n⟩ a b = (⟨L0, A ++ [.rename a b fn], n⟩, 0)) := by
    unfold FS.rename FS.there
    cases hm : mayB b with
    | false => exact .inl ⟨rfl, if_pos rfl⟩
    | true =>
      rw [if_neg (by simp), hfbb, hfn]
      cases fbb with
      | true => exact .inr (.inr ⟨rfl, rfl, if_neg (by simp)⟩)
      | false => exact .inr (.inl ⟨rfl, rfl, if_pos rfl⟩)
  have hW0 := HWW.out w1 (Below.refl _ _)
  have HW0 := Lib.hid hW0
  clear h h' h1 h3 h4 hbox hbox0 hboxb m1 t1 hb1 hb0 hb01 hfbb hfn hW0
  go_enter Tryz.func84, Tryz.ntmps84
  rcases hB with ⟨hm, hB⟩ | ⟨hm, rfl, hB⟩ | ⟨hm, rfl, hB⟩
  · rw [hB]
    rw [hm] at q32
    clear hB hm HLK
    go_wp2_with (go_at_call 92; (with_reducible refine (q32 _).mono ?_); rintro e w2 ⟨rfl, rfl⟩)
    go_ret
    exact ⟨rfl, HW0.out⟩
  · rw [hB]
    rw [hm] at q32
    clear hB hm
    go_upto_region 5 with (go_at_call 92; (with_reducible refine (q32 _).mono ?_); rintro e w2 ⟨rfl, rfl⟩)
    have hlk := HLK.out w1.drew (below_drewO (Below.refl _ _))
    have hba := below_drewO (below_alloc' (o := .cells #[.int .i64 0] 3) (Below.refl _ w1))
    have hlk2 := HLK.out _ hba
    obtain ⟨c2, c0⟩ := HC.out _ hba
    clear hba
    have HWX := Lib.hid (HWW.out _ (below_drewO (below_alloc' (o := .cells #[.int .i64 (fn : Int)] 3) (Below.refl _ w1))))
    go_region
    all_goals
      go_wp2
      go_ret
      exact ⟨rfl, HWX.out⟩
  · rw [hB]
    rw [hm] at q32
    clear hB hm
    go_upto_region 5 with (go_at_call 92; (with_reducible refine (q32 _).mono ?_); rintro e w2 ⟨rfl, rfl⟩)
    have hlk := HLK.out w1.drew (below_drewO (Below.refl _ _))
    have hba := below_drewO (below_alloc' (o := .cells #[.int .i64 0] 3) (Below.refl _ w1))
    have hlk2 := HLK.out _ hba
    obtain ⟨c2, c0⟩ := HC.out _ hba
    clear hba
    go_region
    all_goals
      go_wp2_with (go_at_call 93; (with_reducible refine HADD.out.mono ?_); rintro e w5 ⟨rfl, h5⟩; have H5 := Lib.hid h5; clear h5)
      go_ret
      exact ⟨rfl, H5.out⟩
end Go.Proofs.YtmmoilmfpiclgaaGreat.Fld

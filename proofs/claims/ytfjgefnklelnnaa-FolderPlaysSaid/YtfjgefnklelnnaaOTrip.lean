/-
  A folder, a copy that shares its row of acts, the document's.
-/
import Derived.Test.YtfjgefnklelnnaaOTwin
namespace Go.Proofs.Ytfjgefnklelnnaa
open Go.RowKit Go.Shelf

/-- The folder at p tells S, its copy at c tells U, the document's at q tells T. -/
def Trip (w0 w : World) (p : Nat) (S : FS) (c : Nat) (U : FS) (q : Nat) (T : FS) : Prop :=
  ∃ av fs M I cv fc Mc Ic J, FolderS w p S av fs M I ∧ FolderS w c U cv fc Mc Ic ∧ RefS w q T J ∧
    (∀ g, Mc g → ¬ M g ∧ ¬ I g) ∧ (∀ g, Ic g → ¬ M g ∨ cv.ownBlock = some g) ∧
    (∀ b, cv.ownBlock = some b → ¬ M b ∨ (av.ownBlock = some b ∧ fc.length ≤ fs.length ∧ fs.take fc.length = fc)) ∧ capOf cv = fc.length ∧
    (∀ g, J g → (¬ M g ∧ ¬ I g) ∧ ¬ Mc g ∧ ¬ Ic g) ∧ (∀ g, (M g ∨ I g) ∨ (Mc g ∨ Ic g) ∨ J g → w0.heap.size ≤ g) ∧ Below w0.heap.size w0 w ∧ S.good ∧ U.good

theorem Trip.good {w0 w : World} {p c q : Nat} {S U T : FS} (h : Trip w0 w p S c U q T) : S.good := by
  obtain ⟨av, fs, M, I, cv, fc, Mc, Ic, J, h1, h2, h3, d1, d2, d3, hcap, d4, d5, hb, hg, hu⟩ := h
  exact hg
theorem Trip.twin {w0 w : World} {p c q : Nat} {S U T : FS} (h : Trip w0 w p S c U q T) : Twin w0 w c U q T := by
  obtain ⟨av, fs, M, I, cv, fc, Mc, Ic, J, h1, h2, h3, d1, d2, d3, hcap, d4, d5, hb, hg, hu⟩ := h
  exact ⟨cv, fc, Mc, Ic, J, h2, h3, fun g hg => (d4 g hg).2, fun g hg => d5 g (by
    rcases hg with k | k | k
    · exact .inr (.inl (.inl k))
    · exact .inr (.inl (.inr k))
    · exact .inr (.inr k)), hb, hu⟩

/-- A copy of the first. -/
theorem trip_copy {w0 w : World} {p q : Nat} {S T : FS} (h : Twin w0 w p S q T) (hl : S.weight ≤ 90000) :
    Calls Try.prog 21 #[.pointer (some ⟨p, 0, none⟩)] w fun e w' => ∃ c, e = .returned (.pointer (some ⟨c, 0, none⟩)) ∧ Trip w0 w' p S c S q T := by
  obtain ⟨av, fs, M, I, J, h1, h2, h3, h4, h5, h6⟩ := h
  refine (copy_any h1 hl).mono ?_
  rintro e w' ⟨c, cv, Mc, Ic, rfl, k1, k2, k3, k4, k5, hb⟩
  have hz := h5.size
  have hlt : ∀ g, M g ∨ I g → g < w.heap.size := h1.mem
  have hcv : ∀ b, cv.ownBlock = some b → av.ownBlock = some b := fun b hcb => by
    rcases k4 with k | k
    · rw [k] at hcb; cases hcb
    · rw [← k]; exact hcb
  refine ⟨c, rfl, av, fs, M, I, cv, fs, Mc, Ic, J, FolderIn.below h1 hb, k1, h2.below hb, fun g hg => ⟨fun hm => by have := k2 g hg; have := hlt g (.inl hm); omega, fun hi => by have := k2 g hg; have := hlt g (.inr hi); omega⟩, fun g hg => ?_, fun b hcb => .inr ⟨hcv b hcb, Nat.le_refl _, List.take_length⟩, k5, fun g hg => ⟨h3 g hg, fun hm => by have := k2 g hm; have := h2.mem g hg; omega, fun hi => ?_⟩, fun g hg => ?_, Below.next h5 hb, h6, h6⟩
  · rcases k3 g hg with k | k
    · exact .inl (h1.apart g k)
    · exact .inr k
  · rcases k3 g hi with k | k
    · exact (h3 g hg).2 k
    · have ha := hcv g k
      rcases h1.room g ha with r | r
      · exact (h3 g hg).1 r
      · exact (h3 g hg).2 r.1
  · rcases hg with (hg | hg) | (hg | hg) | hg
    · exact h4 g (.inl hg)
    · exact h4 g (.inr (.inl hg))
    · have := k2 g hg; omega
    · rcases k3 g hg with k | k
      · exact h4 g (.inr (.inl k))
      · have ha := hcv g k
        rcases h1.room g ha with r | r
        · exact h4 g (.inl r)
        · exact h4 g (.inr (.inl r.1))
    · exact h4 g (.inr (.inr hg))

/-- A method of the first. -/
theorem Trip.went {w0 w : World} {p c q : Nat} {S S' U T : FS} {f : Nat} {args : Array Value} {r : Value} (h : Trip w0 w p S c U q T) (hg : S'.good) (hq : ∀ av fs M I, FolderS w p S av fs M I → Calls Try.prog f args w fun e w' => e = .returned r ∧ WentS w p av fs M I S' w') :
    Calls Try.prog f args w fun e w' => e = .returned r ∧ Trip w0 w' p S' c U q T := by
  obtain ⟨av, fs, M, I, cv, fc, Mc, Ic, J, h1, h2, h3, d1, d2, d3, hcap, d4, d5, hb, _, hu⟩ := h
  refine (hq av fs M I h1).mono ?_
  rintro e w' ⟨rfl, av', fs', M', I', k1, k2, k3, k4, k5⟩
  have hz := hb.size
  have hz' := k4.size
  -- the copy's row
  have hrow : ARow w' cv fc := by
    rcases h2.row with ⟨rfl, rfl⟩ | ⟨b, cap, cs, rfl, q1, q2, q3, q4, q5⟩
    · exact .inl ⟨rfl, rfl⟩
    · have hcap' : cap = fc.length := hcap
      rcases d3 b rfl with k | ⟨r1, r2, r3⟩
      · exact .inr ⟨b, cap, cs, rfl, q1, q2, (k4.block b (Array.getElem?_eq_some_iff.1 q3).1 k).trans q3, q4, q5⟩
      · have := (k5 b fc.length r1 r2).1
        rw [r3] at this
        rw [hcap']
        exact this
  have hcopy : FolderS w' c U cv fc Mc Ic := FolderIn.same_row h2 (fun g hg hne => k4.block g (h2.mem g hg) (by
    rcases hg with hg | hg
    · exact (d1 g hg).1
    · rcases d2 g hg with k | k
      · exact k
      · exact absurd k hne)) hrow hz'
  have hJ : RefS w' q T J := h3.kept k4 fun g hg => (d4 g hg).1.1
  have old : ∀ g, g < w.heap.size → ¬ M g → ¬ M' g := fun g hlt hm hm' => by
    rcases k2 g hm' with k | k
    · exact hm k
    · omega
  have oldI : ∀ g, g < w.heap.size → ¬ I g → ¬ I' g := fun g hlt hm hm' => by
    rcases k3 g hm' with k | k
    · exact hm k
    · omega
  have e1 : ∀ g, Mc g → ¬ M' g ∧ ¬ I' g := fun g hg => ⟨old g (h2.mem g (.inl hg)) (d1 g hg).1, oldI g (h2.mem g (.inl hg)) (d1 g hg).2⟩
  have e2 : ∀ g, Ic g → ¬ M' g ∨ cv.ownBlock = some g := fun g hg => (d2 g hg).imp_left fun k => old g (h2.mem g (.inr hg)) k
  have e4 : ∀ g, J g → (¬ M' g ∧ ¬ I' g) ∧ ¬ Mc g ∧ ¬ Ic g := fun g hg => ⟨⟨old g (h3.mem g hg) (d4 g hg).1.1, oldI g (h3.mem g hg) (d4 g hg).1.2⟩, (d4 g hg).2⟩
  have e5 : ∀ g, (M' g ∨ I' g) ∨ (Mc g ∨ Ic g) ∨ J g → w0.heap.size ≤ g := fun g hg => by
    rcases hg with (hg | hg) | hg
    · rcases k2 g hg with k | k
      · exact d5 g (.inl (.inl k))
      · omega
    · rcases k3 g hg with k | k
      · exact d5 g (.inl (.inr k))
      · omega
    · exact d5 g (.inr hg)
  have hb' := hb.trans (k4.to hz fun g hm => d5 g (.inl (.inl hm)))
  refine ⟨rfl, ?_⟩
  cases hcb : cv.ownBlock with
  | none => exact ⟨av', fs', M', I', cv, fc, Mc, Ic, J, k1, hcopy, hJ, e1, e2, (fun b hb => by rw [hcb] at hb; cases hb), hcap, e4, e5, hb', hg, hu⟩
  | some b =>
    have hblt : b < w.heap.size := h2.row.lt hcb
    rcases d3 b hcb with k | ⟨r1, r2, r3⟩
    · exact ⟨av', fs', M', I', cv, fc, Mc, Ic, J, k1, hcopy, hJ, e1, e2, (fun b2 hb2 => by rw [hcb] at hb2; cases hb2; exact .inl (old b hblt k)), hcap, e4, e5, hb', hg, hu⟩
    · by_cases ha : av'.ownBlock = some b
      · obtain ⟨s1, s2⟩ := (k5 b fc.length r1 r2).2 ha
        exact ⟨av', fs', M', I', cv, fc, Mc, Ic, J, k1, hcopy, hJ, e1, e2, (fun b2 hb2 => by rw [hcb] at hb2; cases hb2; exact .inr ⟨ha, s1, s2.trans r3⟩), hcap, e4, e5, hb', hg, hu⟩
      · refine ⟨av', fs', fun g => M' g ∧ g ≠ b, I', cv, fc, Mc, Ic, J, FolderIn.shrink k1 ha (hrow.mem hcb), hcopy, hJ, fun g hg => ⟨fun hm => (e1 g hg).1 hm.1, (e1 g hg).2⟩, fun g hg => (e2 g hg).imp_left fun k hm => k hm.1, (fun b2 hb2 => by rw [hcb] at hb2; cases hb2; exact .inl fun hm => hm.2 rfl), hcap, fun g hg => ⟨⟨fun hm => (e4 g hg).1.1 hm.1, (e4 g hg).1.2⟩, (e4 g hg).2⟩, fun g hg => e5 g ?_, hb', hg, hu⟩
        rcases hg with (hg | hg) | hg
        · exact .inl (.inl hg.1)
        · exact .inl (.inr hg)
        · exact .inr hg
end Go.Proofs.Ytfjgefnklelnnaa

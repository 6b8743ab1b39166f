/-
  The program's folder and the document's in a walk; a copy beside them.
-/
import Derived.Test.YtfjgefnklelnnaaOAlike
import Derived.Test.YtfjgefnklelnnaaOCopy
namespace Go.Proofs.Ytfjgefnklelnnaa
open Go.RowKit Go.Shelf

def Twin (w0 w : World) (p : Nat) (S : FS) (q : Nat) (T : FS) : Prop := ∃ av fs M I J, FolderS w p S av fs M I ∧ RefS w q T J ∧ (∀ g, J g → ¬ M g ∧ ¬ I g) ∧ (∀ g, M g ∨ I g ∨ J g → w0.heap.size ≤ g) ∧ Below w0.heap.size w0 w ∧ S.good

theorem Twin.next {w0 w w' : World} {p q : Nat} {S T : FS} (h : Twin w0 w p S q T) (hb : Below w.heap.size w w') : Twin w0 w' p S q T := by
  obtain ⟨av, fs, M, I, J, h1, h2, h3, h4, h5, h6⟩ := h
  exact ⟨av, fs, M, I, J, FolderIn.below h1 hb, h2.below hb, h3, h4, Below.next h5 hb, h6⟩
theorem Twin.below {w0 w : World} {p q : Nat} {S T : FS} (h : Twin w0 w p S q T) : Below w0.heap.size w0 w := by
  obtain ⟨av, fs, M, I, J, h1, h2, h3, h4, h5, h6⟩ := h
  exact h5
theorem Twin.good {w0 w : World} {p q : Nat} {S T : FS} (h : Twin w0 w p S q T) : S.good := by
  obtain ⟨av, fs, M, I, J, h1, h2, h3, h4, h5, h6⟩ := h
  exact h6
/-- A method of the program's. -/
theorem Twin.went {w0 w : World} {p q : Nat} {S S' T : FS} {f : Nat} {args : Array Value} {r : Value} (h : Twin w0 w p S q T) (hg : S'.good) (hq : ∀ av fs M I, FolderS w p S av fs M I → Calls Try.prog f args w fun e w' => e = .returned r ∧ WentS w p av fs M I S' w') :
    Calls Try.prog f args w fun e w' => e = .returned r ∧ Twin w0 w' p S' q T := by
  obtain ⟨av, fs, M, I, J, h1, h2, h3, h4, h5, h6⟩ := h
  refine (hq av fs M I h1).mono ?_
  rintro e w' ⟨rfl, av', fs', M', I', k1, k2, k3, k4, _⟩
  have hz := h5.size
  refine ⟨rfl, av', fs', M', I', J, k1, h2.kept k4 fun g hg => (h3 g hg).1, fun g hg => ⟨fun hm => ?_, fun hi => ?_⟩, fun g hg => ?_, h5.trans (k4.to hz fun g hm => h4 g (.inl hm)), hg⟩
  · rcases k2 g hm with k | k
    · exact (h3 g hg).1 k
    · have := h2.mem g hg; omega
  · rcases k3 g hi with k | k
    · exact (h3 g hg).2 k
    · have := h2.mem g hg; omega
  · rcases hg with hg | hg | hg
    · rcases k2 g hg with k | k
      · exact h4 g (.inl k)
      · omega
    · rcases k3 g hg with k | k
      · exact h4 g (.inr (.inl k))
      · omega
    · exact h4 g (.inr (.inr hg))
/-- A method of the document's. -/
theorem Twin.wentR {w0 w : World} {p q : Nat} {S T T' : FS} {f : Nat} {args : Array Value} {r : Value} (h : Twin w0 w p S q T) (hq : ∀ J, RefS w q T J → Calls Try.prog f args w fun e w' => e = .returned r ∧ WentR w q J T' w') :
    Calls Try.prog f args w fun e w' => e = .returned r ∧ Twin w0 w' p S q T' := by
  obtain ⟨av, fs, M, I, J, h1, h2, h3, h4, h5, h6⟩ := h
  refine (hq J h2).mono ?_
  rintro e w' ⟨rfl, J', k1, k2, k3⟩
  have hz := h5.size
  obtain ⟨_, hJq⟩ := h2.lt
  have hMq : ∀ g, M g ∨ I g → ¬ g = q := fun g hg e => by
    subst e
    rcases hg with hg | hg
    · exact (h3 g hJq).1 hg
    · exact (h3 g hJq).2 hg
  refine ⟨rfl, av, fs, M, I, J', FolderIn.kept h1 k3 hMq, k1, fun g hg => ?_, fun g hg => ?_, h5.trans (k3.to hz fun g hm => by subst hm; exact h4 g (.inr (.inr hJq))), h6⟩
  · rcases k2 g hg with k | k
    · exact h3 g k
    · exact ⟨fun hm => by have := h1.mem g (.inl hm); omega, fun hm => by have := h1.mem g (.inr hm); omega⟩
  · rcases hg with hg | hg | hg
    · exact h4 g (.inl hg)
    · exact h4 g (.inr (.inl hg))
    · rcases k2 g hg with k | k
      · exact h4 g (.inr (.inr k))
      · omega
theorem Twin.alike {w0 w : World} {p q : Nat} {S : FS} (h : Twin w0 w p S q S) (hl : S.weight ≤ 90000) :
    Calls Try.prog 22 #[.pointer (some ⟨p, 0, none⟩), .pointer (some ⟨q, 0, none⟩)] w fun e w' => e = .returned (.bool true) ∧ Twin w0 w' p S q S := by
  obtain ⟨av, fs, M, I, J, h1, h2, h3⟩ := id h
  refine (alike_any h1 h2 hl).mono ?_
  rintro e w' ⟨rfl, hb⟩
  exact ⟨rfl, h.next hb⟩
theorem twin_new {w0 w : World} {p : Nat} (h : Sole w0 w p FS.new) : Calls Try.prog 9 #[] w fun e w' => ∃ q, e = .returned (.pointer (some ⟨q, 0, none⟩)) ∧ Twin w0 w' p FS.new q FS.new := by
  obtain ⟨av, fs, M, I, h1, h2, h3, h4⟩ := h
  refine (refS_new w).mono ?_
  rintro e w' ⟨q, J, rfl, k1, k2, k3⟩
  have hz := h3.size
  refine ⟨q, rfl, av, fs, M, I, J, FolderIn.below h1 k3, k1, fun g hg => ⟨fun hm => by have := h1.mem g (.inl hm); have := k2 g hg; omega, fun hm => by have := h1.mem g (.inr hm); have := k2 g hg; omega⟩, fun g hg => ?_, Below.next h3 k3, h4⟩
  rcases hg with hg | hg | hg
  · exact h2 g (.inl hg)
  · exact h2 g (.inr hg)
  · have := k2 g hg; omega

/-- A folder that no longer writes a block of acts. -/
theorem FolderIn.shrink {w : World} {p : Nat} {L0 : Names} {A : List FAct} {n : Nat} {av : Value} {fs : List Value} {M I : Nat → Prop} (h : FolderIn w p L0 A n av fs M I) {b : Nat} (hb : av.ownBlock ≠ some b) (hc : ∃ cs, w.heap[b]? = some (.cells cs 90 (0, 0))) :
    FolderIn w p L0 A n av fs (fun g => M g ∧ g ≠ b) I := by
  obtain ⟨lv, tv, h1, h2, h3, h4, h5, h6, h7⟩ := h.it
  obtain ⟨cs, hc⟩ := hc
  have nb : ∀ g, (∃ es clock, w.heap[g]? = some (.map es clock)) → g ≠ b := fun g ⟨es, clock, hm⟩ e => by
    rw [e, hc] at hm; cases hm
  have np : p ≠ b := fun e => by
    unfold Four at h1
    rw [e, hc] at h1; cases h1
  exact ⟨⟨lv, tv, h1, h2, h3, ⟨h4, np⟩, fun g hg => ⟨h5 g hg, nb g (h2.mem hg)⟩, fun g hg => ⟨h6 g hg, nb g (h3.mem hg)⟩, h7⟩, h.row, h.acts, fun g hg => (h.room g hg).imp_left fun k => ⟨k, fun e => hb (by rw [← e]; exact hg)⟩, h.fine, h.small, fun g hg => h.mem g (hg.imp_left And.left), fun g hg hm => h.apart g hg hm.1⟩
end Go.Proofs.Ytfjgefnklelnnaa

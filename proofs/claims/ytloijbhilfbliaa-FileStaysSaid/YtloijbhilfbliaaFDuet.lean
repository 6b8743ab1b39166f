/-
  Both files side by side, each in blocks of its own.
-/
import Derived.Test.YtloijbhilfbliaaFWorks6
namespace Go.Proofs.Ytloijbhilfbliaa
open Go.RowKit Go.Shelf

/-- The program's file and the document's, newer than a world, and apart. -/
def Duet (w0 w : World) (p : Nat) (D : List UInt8) (A : List Do) (q : Nat) (E : List UInt8) (B : List Do) : Prop :=
  ∃ M I J : Nat → Prop, FileAt w p D A M I ∧ RefAt w q E B J ∧ (∀ g, J g → ¬ M g ∧ ¬ I g) ∧ (∀ g, M g ∨ I g ∨ J g → w0.heap.size ≤ g) ∧ Below w0.heap.size w0 w

theorem Duet.next {w0 w w1 : World} {p q : Nat} {D E : List UInt8} {A B : List Do} (h : Duet w0 w p D A q E B) (hb : Below w.heap.size w w1) : Duet w0 w1 p D A q E B := by
  obtain ⟨M, I, J, h1, h2, h3, h4, h5⟩ := h
  exact ⟨M, I, J, h1.below hb, h2.below hb, h3, h4, Below.next h5 hb⟩
theorem Duet.below {w0 w : World} {p q : Nat} {D E : List UInt8} {A B : List Do} (h : Duet w0 w p D A q E B) : Below w0.heap.size w0 w := by
  obtain ⟨_, _, _, _, _, _, _, h5⟩ := h
  exact h5

/-- A method of the program's file. -/
theorem Duet.went {w0 w : World} {p q f : Nat} {D E G : List UInt8} {A B C : List Do} {args : Array Value} {r : Value} (h : Duet w0 w p D A q E B)
    (hc : ∀ M I, FileAt w p D A M I → Calls Try.prog f args w (Went w p G C M I r)) : Calls Try.prog f args w fun e w' => e = .returned r ∧ Duet w0 w' p G C q E B := by
  obtain ⟨M, I, J, h1, h2, h3, h4, h5⟩ := h
  refine (hc M I h1).mono ?_
  rintro e w' ⟨rfl, M', I', k1, k2, k3, k4⟩
  have hz := h5.size
  refine ⟨rfl, M', I', J, k1, h2.kept k4 fun g hg => (h3 g hg).1, fun g hg => ⟨fun hm => ?_, fun hi => ?_⟩, ?_, h5.trans (k4.to hz fun g hg => h4 g (.inl hg))⟩
  · rcases k2 g hm with h | h
    · exact (h3 g hg).1 h
    · have := h2.mem g hg; omega
  · rcases k3 g hi with h | h
    · exact (h3 g hg).2 h
    · have := h2.mem g hg; omega
  · rintro g (hg | hg | hg)
    · rcases k2 g hg with h | h
      · exact h4 g (.inl h)
      · omega
    · rcases k3 g hg with h | h
      · exact h4 g (.inr (.inl h))
      · omega
    · exact h4 g (.inr (.inr hg))

/-- A method of the document's file. -/
theorem Duet.rwent {w0 w : World} {p q f : Nat} {D E G : List UInt8} {A B C : List Do} {args : Array Value} {r : Value} (h : Duet w0 w p D A q E B)
    (hc : ∀ J, RefAt w q E B J → Calls Try.prog f args w (RefWent w q G C J r)) : Calls Try.prog f args w fun e w' => e = .returned r ∧ Duet w0 w' p D A q G C := by
  obtain ⟨M, I, J, h1, h2, h3, h4, h5⟩ := h
  refine (hc J h2).mono ?_
  rintro e w' ⟨rfl, J', k1, k2, k3⟩
  have hz := h5.size
  refine ⟨rfl, M, I, J', h1.kept k3 fun g hg hj => ?_, k1, fun g hg => ?_, ?_, h5.trans (k3.to hz fun g hg => h4 g (.inr (.inr hg)))⟩
  · rcases hg with hg | hg
    · exact (h3 g hj).1 hg
    · exact (h3 g hj).2 hg
  · rcases k2 g hg with h | h
    · exact h3 g h
    · exact ⟨fun hm => by have := h1.mem g (.inl hm); omega, fun hm => by have := h1.mem g (.inr hm); omega⟩
  · rintro g (hg | hg | hg)
    · exact h4 g (.inl hg)
    · exact h4 g (.inr (.inl hg))
    · rcases k2 g hg with h | h
      · exact h4 g (.inr (.inr h))
      · omega

theorem Duet.read {w0 w : World} {p q f : Nat} {D E : List UInt8} {A B : List Do} {args : Array Value} {R : Ending → World → Prop} (h : Duet w0 w p D A q E B)
    (hc : ∀ M I J, FileAt w p D A M I → RefAt w q E B J → Calls Try.prog f args w R) : Calls Try.prog f args w R := by
  obtain ⟨M, I, J, h1, h2, _⟩ := h
  exact hc M I J h1 h2

theorem Duet.alike {w0 w : World} {p q : Nat} {D : List UInt8} {A : List Do} (h : Duet w0 w p D A q D A) :
    Calls Try.prog 12 #[.pointer (some ⟨p, 0, none⟩), .pointer (some ⟨q, 0, none⟩)] w fun e w' => e = .returned (.bool true) ∧ Duet w0 w' p D A q D A :=
  (h.read fun _ _ _ h1 h2 => alike_any h1 h2).mono fun _ _ h' => ⟨h'.1, h.next h'.2⟩

/-- A copy, that goes on in the file's place. -/
theorem Duet.copy {w0 w : World} {p q : Nat} {D E : List UInt8} {A B : List Do} (h : Duet w0 w p D A q E B) (hl : A.length ≤ 1000) :
    Calls Try.prog 8 #[.pointer (some ⟨p, 0, none⟩)] w fun e w' => ∃ p', e = .returned (.pointer (some ⟨p', 0, none⟩)) ∧
      ∃ M N I J : Nat → Prop, FileAt w' p D A M I ∧ FileAt w' p' D A N I ∧ RefAt w' q E B J ∧ (∀ g, J g → ¬ M g ∧ ¬ I g ∧ ¬ N g) ∧ (∀ g, N g → ¬ M g) ∧ (∀ g, M g ∨ N g ∨ I g ∨ J g → w0.heap.size ≤ g) ∧ Below w0.heap.size w0 w' := by
  obtain ⟨M, I, J, h1, h2, h3, h4, h5⟩ := h
  refine (copy_any h1 hl).mono ?_
  rintro e w' ⟨p', N, rfl, k1, k2, k3⟩
  have hz := h5.size
  refine ⟨p', rfl, M, N, I, J, h1.below k3, k1, h2.below k3, fun g hg => ⟨(h3 g hg).1, (h3 g hg).2, fun hn => ?_⟩, fun g hg hm => ?_, ?_, Below.next h5 k3⟩
  · have := k2 g hn; have := h2.mem g hg; omega
  · have := k2 g hg; have := h1.mem g (.inl hm); omega
  · rintro g (hg | hg | hg | hg)
    · exact h4 g (.inl hg)
    · have := k2 g hg; omega
    · exact h4 g (.inr (.inl hg))
    · exact h4 g (.inr (.inr hg))
end Go.Proofs.Ytloijbhilfbliaa

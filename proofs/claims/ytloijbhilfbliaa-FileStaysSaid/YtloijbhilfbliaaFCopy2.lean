/-
  Two copies of a file.
-/
import Derived.Test.YtloijbhilfbliaaFCutBad
namespace Go.Proofs.Ytloijbhilfbliaa
open Go.RowKit Go.Shelf

/-- A file, a copy of it, a row of texts. -/
def Twin (w0 w : World) (p : Nat) (D : List UInt8) (A : List Do) (q : Nat) (v : Value) (xs : List ByteArray) : Prop :=
  ∃ M I N : Nat → Prop, FileAt w p D A M I ∧ FileAt w q D A N I ∧ Strs w v xs ∧ (∀ g, v.ownBlock = some g → g < w.heap.size ∧ ¬ N g) ∧ (∀ g, M g ∨ I g → ¬ N g) ∧ (∀ g, N g → ¬ M g) ∧ (∀ g, N g → w0.heap.size ≤ g) ∧ Below w0.heap.size w0 w

theorem Solo.copy {w0 w : World} {p : Nat} {D : List UInt8} {A : List Do} {v : Value} {xs : List ByteArray} (h : Solo w0 w p D A v xs) (hl : A.length ≤ 1000) :
    Calls Try.prog 8 #[.pointer (some ⟨p, 0, none⟩)] w fun e w' => ∃ q, e = .returned (.pointer (some ⟨q, 0, none⟩)) ∧ Twin w0 w' p D A q v xs := by
  obtain ⟨M, I, h1, h3, h6, h7, h8⟩ := h
  refine (copy_any h1 hl).mono ?_
  rintro e w' ⟨q, N, rfl, k1, k2, k3⟩
  have hz := h8.size
  have hz3 := k3.size
  refine ⟨q, rfl, M, I, N, h1.below k3, k1, strs_of_owns (owns_next h3 k3), fun g hg => ⟨by have := (h3.lt g hg).2; omega, fun hn => by have := (h3.lt g hg).2; have := k2 g hn; omega⟩, fun g hg hn => by have := h1.mem g hg; have := k2 g hn; omega, fun g hn hm => by have := h1.mem g (.inl hm); have := k2 g hn; omega, fun g hn => by have := k2 g hn; omega, Below.next h8 k3⟩

theorem Twin.copy {w0 w : World} {p q : Nat} {D : List UInt8} {A : List Do} {v : Value} {xs : List ByteArray} (h : Twin w0 w p D A q v xs) (hl : A.length ≤ 1000) :
    Calls Try.prog 8 #[.pointer (some ⟨p, 0, none⟩)] w fun e w' => ∃ r, e = .returned (.pointer (some ⟨r, 0, none⟩)) ∧ Quad w0 w' p D A q D A r D A v xs := by
  obtain ⟨M, I, N, h1, h2, h3, h4, h5, h6, h7, h8⟩ := h
  refine (copy_any h1 hl).mono ?_
  rintro e w' ⟨r, O, rfl, k1, k2, k3⟩
  have hz := h8.size
  have hz3 := k3.size
  refine ⟨r, rfl, M, I, N, I, O, I, h1.below k3, h2.below k3, k1, h3.below k3, fun g hg => ⟨by have := (h4 g hg).1; omega, (h4 g hg).2, fun ho => by have := (h4 g hg).1; have := k2 g ho; omega⟩, fun g hg hn => ?_, fun g hg ho => ?_, fun g hg => ?_, Below.next h8 k3⟩
  · rcases hg with hg | hg | hg | hg
    · exact h5 g (.inl hg) hn
    · exact h5 g (.inr hg) hn
    · have := k2 g hg; have := h2.mem g (.inl hn); omega
    · exact h5 g (.inr hg) hn
  · have hk := k2 g ho
    rcases hg with hg | hg | hg | hg
    · have := h1.mem g (.inl hg); omega
    · have := h1.mem g (.inr hg); omega
    · have := h2.mem g (.inl hg); omega
    · have := h1.mem g (.inr hg); omega
  · rcases hg with hg | hg
    · exact h7 g hg
    · have := k2 g hg; omega

/-- What the row has at each place, beside a file and two copies. -/
theorem quad_row {w0 w : World} {p q r g N c : Nat} {D E G X : List UInt8} {A B C Y : List Do} (h : Quad w0 w p X Y q E B r G C (.slice (some ⟨g, 0, none⟩) N c) (timesT D A)) :
    ∀ W, Below w.heap.size w W → ∀ k, k ≤ A.length → W.cell? ⟨g, k, none⟩ = some (.string (strO (reads D (A.take k)))) := by
  intro W hW k hk
  obtain ⟨ad, c', hv, hx⟩ := h.strs.below hW
  cases hv
  obtain ⟨b, o, ha, hc⟩ := hx k (by rw [timesT_length]; omega)
  cases ha
  rw [Nat.zero_add, timesT_at D A k hk] at hc
  exact hc
end Go.Proofs.Ytloijbhilfbliaa

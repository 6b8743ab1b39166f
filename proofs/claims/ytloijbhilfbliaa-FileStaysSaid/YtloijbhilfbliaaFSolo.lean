/-
  A file and a row of texts; a file, two copies of it, and a row of texts.
-/
import Derived.Test.YtloijbhilfbliaaFStaysM
namespace Go.Proofs.Ytloijbhilfbliaa
open Go.RowKit Go.Shelf

/-- A file, and a row of texts, newer than a world, and apart. -/
def Solo (w0 w : World) (p : Nat) (D : List UInt8) (A : List Do) (v : Value) (xs : List ByteArray) : Prop :=
  ∃ M I : Nat → Prop, FileAt w p D A M I ∧ w.ownsRow w0.heap.size 9 1 v xs.length (strs xs) ∧ (∀ g, v.ownBlock = some g → ¬ (M g ∨ I g)) ∧ (∀ g, M g ∨ I g → w0.heap.size ≤ g) ∧ Below w0.heap.size w0 w

section
variable {w0 w : World} {p f : Nat} {D G : List UInt8} {A C : List Do} {v : Value} {xs : List ByteArray}

theorem Solo.below (h : Solo w0 w p D A v xs) : Below w0.heap.size w0 w := by
  obtain ⟨_, _, _, _, _, _, h8⟩ := h
  exact h8
theorem Solo.next {w1 : World} (h : Solo w0 w p D A v xs) (hb : Below w.heap.size w w1) : Solo w0 w1 p D A v xs := by
  obtain ⟨M, I, h1, h3, h6, h7, h8⟩ := h
  exact ⟨M, I, h1.below hb, owns_next h3 hb, h6, h7, Below.next h8 hb⟩
theorem Solo.read {args : Array Value} {R : Ending → World → Prop} (h : Solo w0 w p D A v xs) (hc : ∀ M I, FileAt w p D A M I → Calls Try.prog f args w R) : Calls Try.prog f args w R := by
  obtain ⟨M, I, h1, _⟩ := h
  exact hc M I h1
theorem Solo.shape (h : Solo w0 w p D A v xs) : (∃ ad c, v = .slice ad xs.length c) ∧ w.ownsRow w0.heap.size 9 1 v xs.length (strs xs) := by
  obtain ⟨_, _, _, h3, _⟩ := h
  exact ⟨owns_slice9 h3, h3⟩
/-- A row of one text, just written out. -/
theorem owns_lit1 (w0 w : World) (s : ByteArray) (hb : w0.heap.size ≤ w.heap.size) : (w.alloc (.cells #[.string s] 9)).ownsRow w0.heap.size 9 1 (.slice (some ⟨w.heap.size, 0, none⟩) 1 1) 1 (strs [s]) :=
  ⟨rfl, .inr ⟨w.heap.size, 1, #[.string s], rfl, hb, heap_alloc_new w _, by omega, by unfold maxLen; omega, rfl, rfl⟩⟩
theorem Solo.fresh (h : Solo w0 w p D A v xs) (s : ByteArray) : Solo w0 (w.alloc (.cells #[.string s] 9)) p D A (.slice (some ⟨w.heap.size, 0, none⟩) 1 1) [s] := by
  obtain ⟨M, I, h1, h3, h6, h7, h8⟩ := h
  refine ⟨M, I, h1.below (below_alloc' (Below.refl _ w)), owns_lit1 w0 w s h8.size, fun g hg hx => ?_, h7, below_alloc' h8⟩
  cases hg
  exact absurd (h1.mem _ hx) (Nat.lt_irrefl _)
theorem solo_new {M : Nat → Prop} (h : FileAt w p D [] M (fun _ => False)) (hm : ∀ g, M g → w0.heap.size ≤ g) (hb : Below w0.heap.size w0 w) (s : ByteArray) : Solo w0 (w.alloc (.cells #[.string s] 9)) p D [] (.slice (some ⟨w.heap.size, 0, none⟩) 1 1) [s] := by
  refine ⟨M, _, h.below (below_alloc' (Below.refl _ w)), owns_lit1 w0 w s hb.size, fun g hg hx => ?_, fun g hg => ?_, below_alloc' hb⟩
  · cases hg
    exact absurd (h.mem _ hx) (Nat.lt_irrefl _)
  · rcases hg with hg | hg
    · exact hm g hg
    · exact hg.elim

/-- A method of the file; a block that the file does not have stays as it was. -/
theorem Solo.went_at {W : World} {args : Array Value} {r : Value} (h : Solo w0 w p D A v xs) (hb : Below w.heap.size w W)
    (hc : ∀ M I, FileAt W p D A M I → Calls Try.prog f args W (Went W p G C M I r)) : Calls Try.prog f args W fun e w' => e = .returned r ∧ Solo w0 w' p G C v xs ∧ ∀ g, w.heap.size ≤ g → g < W.heap.size → w'.heap[g]? = W.heap[g]? := by
  obtain ⟨M, I, h1, h3, h6, h7, h8⟩ := h
  refine (hc M I (h1.below hb)).mono ?_
  rintro e w' ⟨rfl, M', I', k1, k2, k3, k4⟩
  have hz := hb.size
  have hz8 := h8.size
  refine ⟨rfl, ⟨M', I', k1, owns_same (owns_next h3 hb) fun g hg => k4.block g (by have := (h3.lt g hg).2; omega) fun hm => h6 g hg (.inl hm), fun g hg hx => ?_, ?_, (Below.next h8 hb).trans (k4.to (by omega) fun g hg => h7 g (.inl hg))⟩, fun g hg hl => k4.block g hl fun hm => by have := h1.mem g (.inl hm); omega⟩
  · have hl := (h3.lt g hg).2
    rcases hx with hx | hx
    · rcases k2 g hx with h | h
      · exact h6 g hg (.inl h)
      · omega
    · rcases k3 g hx with h | h
      · exact h6 g hg (.inr h)
      · omega
  · rintro g (hg | hg)
    · rcases k2 g hg with h | h
      · exact h7 g (.inl h)
      · omega
    · rcases k3 g hg with h | h
      · exact h7 g (.inr h)
      · omega
theorem Solo.went {args : Array Value} {r : Value} (h : Solo w0 w p D A v xs)
    (hc : ∀ M I, FileAt w p D A M I → Calls Try.prog f args w (Went w p G C M I r)) : Calls Try.prog f args w fun e w' => e = .returned r ∧ Solo w0 w' p G C v xs :=
  (h.went_at (Below.refl _ w) hc).mono fun _ _ h' => ⟨h'.1, h'.2.1⟩

/-- The row behind an append. -/
theorem Solo.grow {w1 w2 : World} {v' : Value} {x : ByteArray} (h : Solo w0 w p D A v xs) (hb : Below w.heap.size w w1) (ho : w2.ownsRow w0.heap.size 9 1 v' (xs.length + 1) (strs xs ++ [.string x])) (hg : w1.grownBy w2 v.ownBlock)
    (hv : v'.ownBlock = v.ownBlock ∨ v'.ownBlock = some w1.heap.size) : Solo w0 w2 p D A v' (xs ++ [x]) := by
  obtain ⟨M, I, h1, h3, h6, h7, h8⟩ := h
  have hz := hb.size
  have hz8 := h8.size
  have hs2 : w.heap.size ≤ w2.heap.size := by have := hg.size; omega
  refine ⟨M, I, h1.same (fun g hx => (hg.block g (by have := h1.mem g hx; omega) fun e => h6 g e.symm hx).trans (hb.block g (h1.mem g hx))) hs2, ?_, fun g he hx => ?_, h7, ?_⟩
  · rw [List.length_append]
    show w2.ownsRow _ 9 1 v' (xs.length + 1) (List.map _ (xs ++ [x]))
    rw [List.map_append]
    exact ho
  · rcases hv with hv | hv
    · exact h6 g (hv ▸ he) hx
    · rw [hv] at he
      cases he
      have := h1.mem _ hx
      omega
  · exact (Below.next h8 hb).grown hg (by omega) fun g e => (h3.lt g e).1
end

/-- A file, two copies of it, and a row of texts. -/
def Quad (w0 w : World) (p : Nat) (D : List UInt8) (A : List Do) (q : Nat) (E : List UInt8) (B : List Do) (r : Nat) (G : List UInt8) (C : List Do) (v : Value) (xs : List ByteArray) : Prop :=
  ∃ M I N K O L : Nat → Prop, FileAt w p D A M I ∧ FileAt w q E B N K ∧ FileAt w r G C O L ∧ Strs w v xs ∧ (∀ g, v.ownBlock = some g → g < w.heap.size ∧ ¬ N g ∧ ¬ O g) ∧ (∀ g, M g ∨ I g ∨ O g ∨ L g → ¬ N g) ∧ (∀ g, M g ∨ I g ∨ N g ∨ K g → ¬ O g) ∧
    (∀ g, N g ∨ O g → w0.heap.size ≤ g) ∧ Below w0.heap.size w0 w

section
variable {w0 w : World} {p q r f : Nat} {D E G H : List UInt8} {A B C F : List Do} {v : Value} {xs : List ByteArray}

theorem Quad.swap (h : Quad w0 w p D A q E B r G C v xs) : Quad w0 w p D A r G C q E B v xs := by
  obtain ⟨M, I, N, K, O, L, h1, h2, h3, h4, h5, h6, h7, h8, h9⟩ := h
  exact ⟨M, I, O, L, N, K, h1, h3, h2, h4, fun g hg => ⟨(h5 g hg).1, (h5 g hg).2.2, (h5 g hg).2.1⟩, h7, h6, fun g hg => h8 g hg.symm, h9⟩
theorem Quad.below (h : Quad w0 w p D A q E B r G C v xs) : Below w0.heap.size w0 w := by
  obtain ⟨_, _, _, _, _, _, _, _, _, _, _, _, _, _, h9⟩ := h
  exact h9
theorem Quad.strs (h : Quad w0 w p D A q E B r G C v xs) : Strs w v xs := by
  obtain ⟨_, _, _, _, _, _, _, _, _, h4, _⟩ := h
  exact h4
theorem Quad.next {w1 : World} (h : Quad w0 w p D A q E B r G C v xs) (hb : Below w.heap.size w w1) : Quad w0 w1 p D A q E B r G C v xs := by
  obtain ⟨M, I, N, K, O, L, h1, h2, h3, h4, h5, h6, h7, h8, h9⟩ := h
  have hz := hb.size
  exact ⟨M, I, N, K, O, L, h1.below hb, h2.below hb, h3.below hb, h4.below hb, fun g hg => ⟨by have := (h5 g hg).1; omega, (h5 g hg).2⟩, h6, h7, h8, Below.next h9 hb⟩
theorem Quad.read1 {args : Array Value} {R : Ending → World → Prop} (h : Quad w0 w p D A q E B r G C v xs) (hc : ∀ M I, FileAt w p D A M I → Calls Try.prog f args w R) : Calls Try.prog f args w R := by
  obtain ⟨M, I, _, _, _, _, h1, _⟩ := h
  exact hc M I h1
theorem Quad.read2 {args : Array Value} {R : Ending → World → Prop} (h : Quad w0 w p D A q E B r G C v xs) (hc : ∀ M I, FileAt w q E B M I → Calls Try.prog f args w R) : Calls Try.prog f args w R := by
  obtain ⟨_, _, M, I, _, _, _, h1, _⟩ := h
  exact hc M I h1
theorem Quad.went {args : Array Value} {t : Value} (h : Quad w0 w p D A q E B r G C v xs)
    (hc : ∀ M I, FileAt w q E B M I → Calls Try.prog f args w (Went w q H F M I t)) : Calls Try.prog f args w fun e w' => e = .returned t ∧ Quad w0 w' p D A q H F r G C v xs := by
  obtain ⟨M, I, N, K, O, L, h1, h2, h3, h4, h5, h6, h7, h8, h9⟩ := h
  refine (hc N K h2).mono ?_
  rintro e w' ⟨rfl, N', K', k1, k2, k3, k4⟩
  have hz := h9.size
  have hs := k4.size
  have old : ∀ g, g < w.heap.size → N' g → N g := fun g hl hm => by
    rcases k2 g hm with h | h
    · exact h
    · omega
  have ml : ∀ g, M g ∨ I g ∨ O g ∨ L g → g < w.heap.size := fun g hg => by
    rcases hg with h | h | h | h
    · exact h1.mem g (.inl h)
    · exact h1.mem g (.inr h)
    · exact h3.mem g (.inl h)
    · exact h3.mem g (.inr h)
  refine ⟨rfl, M, I, N', K', O, L, h1.kept k4 (fun g hg => h6 g (by rcases hg with h | h <;> simp [h])), k1, h3.kept k4 (fun g hg => h6 g (by rcases hg with h | h <;> simp [h])), ?_, fun g hg => ⟨by have := (h5 g hg).1; omega, fun hn => (h5 g hg).2.1 (old g (h5 g hg).1 hn), (h5 g hg).2.2⟩, fun g hg hn => h6 g hg (old g (ml g hg) hn), fun g hg ho => ?_, fun g hg => ?_, h9.trans (k4.to hz fun g hg => h8 g (.inl hg))⟩
  · obtain ⟨ad, c, rfl, hx⟩ := h4
    refine ⟨ad, c, rfl, fun i hi => ?_⟩
    obtain ⟨b, o, ha, hcell⟩ := hx i hi
    refine ⟨b, o, ha, ?_⟩
    subst ha
    by_cases ho : o = 0
    · subst ho
      have hb := h5 b rfl
      have he := k4.block b hb.1 hb.2.1
      rw [← hcell]
      simp only [World.cell?, he]
    · have hbl := block_lt_of_cell hcell
      by_cases hn : N b
      · -- a block of the file holds no text at that place: it is not met
        exact absurd hcell (by
          intro _
          exact (h5 b (by simp [Value.ownBlock])).2.1 hn)
      · have he := k4.block b hbl hn
        rw [← hcell]
        simp only [World.cell?, he]
  · have hl : g < w.heap.size := h3.mem g (.inl ho)
    rcases hg with hg | hg | hg | hg
    · exact h7 g (.inl hg) ho
    · exact h7 g (.inr (.inl hg)) ho
    · exact h7 g (.inr (.inr (.inl (old g hl hg)))) ho
    · rcases k3 g hg with h | h
      · exact h7 g (.inr (.inr (.inr h))) ho
      · omega
  · rcases hg with hg | hg
    · rcases k2 g hg with h | h
      · exact h8 g (.inl h)
      · omega
    · exact h8 g (.inr hg)
end
end Go.Proofs.Ytloijbhilfbliaa

/-
  The document's file: an act done, the bytes.
-/
import Derived.Test.YtloijbhilfbliaaFCopyAny
namespace Go.Proofs.Ytloijbhilfbliaa
open Go.RowKit Go.Shelf

def strO (l : List UInt8) : ByteArray := ⟨l.toArray⟩
theorem strO_list (l : List UInt8) : (strO l).data.toList = l := rfl
theorem strO_of (a : ByteArray) : strO a.data.toList = a := by unfold strO; cases a; simp
theorem strO_size (l : List UInt8) : (strO l).size = l.length := by show l.toArray.size = _; simp
theorem ba_same {a b : ByteArray} (h : a.data.toList = b.data.toList) : a = b := by rw [← strO_of a, ← strO_of b, h]
theorem strO_join (a b : List UInt8) : strO a ++ strO b = strO (a ++ b) := ba_same (by simp [strO])
theorem strO_take (l : List UInt8) (k : Nat) : (strO l).extract 0 k = strO (l.take k) := ba_same (by simp [strO])

/-- An act's three cells in the document's file. -/
def actC : Do → List Value
  | .app b => [.bool false, .int .i64 0, .string (strO b)]
  | .cut n => [.bool true, .int .i64 (n : Int), .string ⟨#[]⟩]

set_option maxHeartbeats 1000000 in
set_option maxRecDepth 100000 in
theorem ref_done {w : World} {R : List UInt8} {a : Do} (hf : Fits R [a]) (hL : (a.on R).length ≤ 1000000) :
    Calls Try.prog 41 #[.string (strO R), .agg (actC a).toArray] w fun e w' => e = .returned (.string (strO (a.on R))) ∧ Below w.heap.size w w' := by
  obtain ⟨S, hS⟩ : ∃ S, strO R = S := ⟨_, rfl⟩
  have hs : S.size = R.length := by rw [← hS, strO_size]
  cases a with
  | app b =>
    have he : strO ((Do.app b).on R) = S ++ strO b := by rw [← hS, strO_join]; rfl
    rw [he, hS]
    unfold actC
    simp only
    obtain ⟨B, hB⟩ : ∃ B, strO b = B := ⟨_, rfl⟩
    have hbs : B.size = b.length := by rw [← hB, strO_size]
    have hov : ¬ 9223372036854775807 < R.length + B.size := by
      rw [hbs]
      have : ((Do.app b).on R).length = R.length + b.length := List.length_append
      omega
    rw [hB]
    clear hbs
    go_enter Try.func41, Try.ntmps41
    go_wp2
    go_ret
    exact ⟨rfl, below_alloc' (Below.refl _ w)⟩
  | cut n =>
    have hn : n < R.length := hf.1
    have he : strO ((Do.cut n).on R) = S.extract 0 n := by rw [← hS, strO_take]; rfl
    rw [he, hS]
    unfold actC
    simp only
    have m1 : min (n : Int) (S.size : Int) = (n : Int) := by rw [hs]; omega
    have m2 : (n : Int) ≤ (S.size : Int) := by rw [hs]; omega
    have m3 : n ≤ S.size := by omega
    go_enter Try.func41, Try.ntmps41
    go_wp2
    go_ret
    exact ⟨rfl, below_alloc' (Below.refl _ w)⟩

/-- The document's file in memory: at block p; J: the blocks it stands in. -/
structure RefAt (w : World) (p : Nat) (D : List UInt8) (A : List Do) (J : Nat → Prop) : Prop where
  it : ∃ av, w.heap[p]? = some (.cells #[.string (strO D), av] 28 (0, 0)) ∧ w.ownsRow 0 72 3 av A.length (A.flatMap actC) ∧ J p ∧ (∀ g, av.ownBlock = some g → J g)
  fits : Fits D A
  small : bulk D A ≤ 100000
  mem : ∀ g, J g → g < w.heap.size

theorem RefAt.same {w w' : World} {p : Nat} {D : List UInt8} {A : List Do} {J : Nat → Prop} (h : RefAt w p D A J) (he : ∀ g, J g → w'.heap[g]? = w.heap[g]?) (hs : w.heap.size ≤ w'.heap.size) : RefAt w' p D A J := by
  obtain ⟨av, h1, h2, h3, h4⟩ := h.it
  exact ⟨⟨av, (he p h3).trans h1, owns_same h2 fun g hg => he g (h4 g hg), h3, h4⟩, h.fits, h.small, fun g hg => Nat.lt_of_lt_of_le (h.mem g hg) hs⟩
theorem RefAt.kept {w w' : World} {p : Nat} {D : List UInt8} {A : List Do} {J N : Nat → Prop} (h : RefAt w p D A J) (hk : Kept N w w') (hn : ∀ g, J g → ¬ N g) : RefAt w' p D A J :=
  h.same (fun g hg => hk.block g (h.mem g hg) (hn g hg)) hk.size
theorem RefAt.below {w w' : World} {p : Nat} {D : List UInt8} {A : List Do} {J : Nat → Prop} (h : RefAt w p D A J) (hb : Below w.heap.size w w') : RefAt w' p D A J :=
  h.same (fun g hg => hb.block g (h.mem g hg)) hb.size

theorem flat_at (A : List Do) (k j : Nat) (hk : k < A.length) (hj : j < 3) : (A.flatMap actC)[k * 3 + j]? = (actC A[k])[j]? := by
  induction A generalizing k with
  | nil => simp at hk
  | cons a A ih =>
    have hl : (actC a).length = 3 := by cases a <;> rfl
    cases k with
    | zero => rw [List.flatMap_cons, List.getElem?_append_left (by omega)]; simp
    | succ k =>
      rw [List.flatMap_cons, List.getElem?_append_right (by omega), hl, show (k + 1) * 3 + j - 3 = k * 3 + j by omega, ih k (by simpa using hk)]
      rfl
theorem flat_length (A : List Do) : (A.flatMap actC).length = A.length * 3 := by
  induction A with
  | nil => rfl
  | cons a A ih =>
    have hl : (actC a).length = 3 := by cases a <;> rfl
    rw [List.flatMap_cons, List.length_append, ih, hl, List.length_cons]; omega

/-- The acts of the document's file, in memory. -/
theorem acts_cells {w : World} {av : Value} {A : List Do} (h : w.ownsRow 0 72 3 av A.length (A.flatMap actC)) : ∃ ad c, av = .slice ad A.length c ∧ A.length ≤ c ∧ c ≤ 9223372036854775807 ∧ ∀ k (hk : k < A.length), ∃ b, ad = some ⟨b, 0, none⟩ ∧ b < w.heap.size ∧ ∀ j, j < 3 → w.cell? ⟨b, k * 3 + j, none⟩ = (actC A[k])[j]? := by
  rcases h.2 with ⟨rfl, h0⟩ | ⟨g, cap, cur, rfl, _, hg, h1, h2, h3, ht⟩
  · exact ⟨none, 0, by rw [h0], by omega, by omega, fun k hk => by omega⟩
  · unfold maxLen at h2
    refine ⟨_, cap, rfl, h1, h2, fun k hk => ⟨g, rfl, (Array.getElem?_eq_some_iff.1 hg).1, fun j hj => ?_⟩⟩
    rw [cell_of_row w g _ _ _ _ hg, ← Array.getElem?_toList, ← flat_at A k j hk hj, ← ht, List.getElem?_take, if_pos (by omega)]
end Go.Proofs.Ytloijbhilfbliaa

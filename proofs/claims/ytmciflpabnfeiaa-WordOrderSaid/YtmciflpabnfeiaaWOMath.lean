/-
  Facts that WordOrder asks: of two texts, of three, of rows that rise.
-/
import Derived.Test.YtmciflpabnfeiaaWPMath
import Derived.Test.YtmciflpabnfeiaaWLit
namespace Go.Proofs.Ytmciflpabnfeiaa
open Go.RowKit

theorem less_below (a b : ByteArray) (w : World) : Calls Try.prog 18 #[.string a, .string b] w fun e w' => e = .returned (.bool (lessT a b)) ∧ Below w.heap.size w w' :=
  (less_any a b w).mono (by rintro e w' ⟨rfl, rfl⟩; exact ⟨rfl, Below.refl _ _⟩)

theorem lessT_asymm {a b : ByteArray} (h : lessT a b = true) : lessT b a = false := Plain.less_asymm _ _ h
theorem lessT_trans {a b c : ByteArray} (h1 : lessT a b = true) (h2 : lessT b c = true) : lessT a c = true := Plain.less_trans _ _ _ h1 h2
theorem lessT_ne {a b : ByteArray} (h : lessT a b = true) : a ≠ b := fun e => Plain.less_ne h (by rw [e])
theorem lessT_eq_of {a b : ByteArray} (h1 : lessT a b = false) (h2 : lessT b a = false) : a = b := by
  refine ba_ext (Classical.byContradiction fun h => ?_)
  rcases Plain.less_total _ _ h with h' | h'
  · unfold lessT at h1; rw [h'] at h1; cases h1
  · unfold lessT at h2; rw [h'] at h2; cases h2

theorem allShared_pair (a b : ByteArray) : allSharedT [a, b] = sharedT a b := by
  show min a.data.toList.length (Plain.shared a.data.toList b.data.toList) = _
  have := Plain.shared_le_left a.data.toList b.data.toList
  unfold sharedT
  omega

theorem sharedT_prefix (a b : ByteArray) : a.extract 0 (sharedT a b) = b.extract 0 (sharedT a b) := by
  refine ba_ext ?_
  rw [ba_extract, ba_extract, List.drop_zero, List.drop_zero, Nat.sub_zero]
  exact Plain.shared_take _ _

theorem sharedT_differ {a b : ByteArray} (h1 : sharedT a b < a.size) (h2 : sharedT a b < b.size) : a[sharedT a b] ≠ b[sharedT a b] := by
  have := Plain.shared_stop a.data.toList b.data.toList (by rw [ba_length]; exact h1) (by rw [ba_length]; exact h2)
  intro e
  refine this ?_
  show a.data.toList.getD (sharedT a b) 0 = b.data.toList.getD (sharedT a b) 0
  rw [byte_getD a _ h1, byte_getD b _ h2, e]

/-- Shared of two texts, right behind their making. -/
theorem shared_pair (a b : ByteArray) (ha : a.size ≤ 9223372036854775807) (hb : b.size ≤ 9223372036854775807) (W : World) (g : Nat) (hg : g = W.heap.size) :
    Calls Try.prog 14 #[.slice (some ⟨g, 0, none⟩) 2 2] ((W.alloc (.cells #[.string a, .string b] 9)).drew) fun e w' => e = .returned (.int .i64 (sharedT a b : Nat)) ∧ Below W.heap.size W w' := by
  subst hg
  have hs : Strs ((W.alloc (.cells #[.string a, .string b] 9)).drew) (.slice (some ⟨W.heap.size, 0, none⟩) 2 2) [a, b] := strs_drew' (strs_lit [a, b] W)
  refine (shared_any [a, b] _ _ hs ?_ (by simp)).mono ?_
  · intro s h
    simp at h
    rcases h with rfl | rfl
    · exact ha
    · exact hb
  · rintro e w' ⟨rfl, h⟩
    exact ⟨by rw [allShared_pair], Below.next (below_drew' (below_alloc' (Below.refl _ _))) h⟩

/-- Of rows that rise the first and the last one share just what all share. -/
theorem shared_ends {l : List ByteArray} (h : risingT l = true) (hl : 0 < l.length) : allSharedT l = sharedT (at' l 0) (at' l (l.length - 1)) := by
  have key : ∀ (B : List (List UInt8)), Plain.rising B = true → (hB : 0 < B.length) → Plain.allShared B = Plain.shared (B[0]) (B[B.length - 1]) := by
    intro B hr hB
    cases B with
    | nil => simp at hB
    | cons x B =>
      rcases List.eq_nil_or_concat B with rfl | ⟨m, z, e⟩
      · show x.length = Plain.shared x x
        rw [Plain.shared_self]
      · rw [List.concat_eq_append] at e
        subst e
        have := Plain.allShared_ends hr
        rw [this]
        congr 1
        simp
  have hb : 0 < (bl l).length := by rw [bl_length]; exact hl
  have := key (bl l) h hb
  unfold allSharedT sharedT
  rw [this, bl_at, bl_at]
  congr 3
  rw [bl_length]

theorem sorted_words (l : List ByteArray) : (sortedT l).all wordT = true := by
  rw [List.all_eq_true]
  exact fun s hs => ((mem_sortedT l s).1 hs).2

/-- Where the place of a word is, and is not. -/
theorem at_place {l : List ByteArray} (h : risingT l = true) (x : ByteArray) (hx : inT l x = true) : placeT l x < l.length ∧ at' l (placeT l x) = x := by
  have h' := in_place h x
  rw [hx] at h'
  have h'' := h'.symm
  rw [Bool.and_eq_true] at h''
  have hp := of_decide_eq_true h''.1
  refine ⟨hp, lessT_eq_of ?_ (by simpa using h''.2)⟩
  have := less_place h x hp
  rw [this]
  exact decide_eq_false (Nat.lt_irrefl _)

theorem at_other {l : List ByteArray} (h : risingT l = true) (x : ByteArray) {i : Nat} (hi : i < l.length) (hne : ¬ (inT l x = true ∧ i = placeT l x)) : at' l i ≠ x := by
  rintro rfl
  exact hne ⟨in_of hi, (place_of h hi).symm⟩
end Go.Proofs.Ytmciflpabnfeiaa

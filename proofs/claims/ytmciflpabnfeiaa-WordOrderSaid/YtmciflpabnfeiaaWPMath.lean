/-
  Rows put in at their places; what is known of places in rows that rise.
-/
import Derived.Test.YtmciflpabnfeiaaWSorted
import Derived.Test.YtmciflpabnfeiaaWFew
namespace Go.Proofs.Ytmciflpabnfeiaa
open Go.RowKit

/-- Rows put in at their places. -/
def placedT (l : List ByteArray) : List ByteArray := l.foldl insertT []

theorem placed_snoc (l : List ByteArray) (k : Nat) (h : k < l.length) : placedT (l.take (k + 1)) = insertT (placedT (l.take k)) (at' l k) := by
  unfold placedT
  rw [List.take_succ_eq_append_getElem h, List.foldl_append, at_lt h]
  rfl

theorem bl_placed_aux : ∀ l acc : List ByteArray, risingT acc = true → bl (l.foldl insertT acc) = (bl l).foldl Plain.insertW (bl acc)
  | [], _, _ => rfl
  | x :: l, acc, h => by
    rw [List.foldl_cons, bl_placed_aux l _ (insertT_rising h x), bl_insert h]
    rfl

theorem bl_placed (l : List ByteArray) : bl (placedT l) = Plain.placed (bl l) := bl_placed_aux l [] rfl

theorem placedT_rising (l : List ByteArray) : risingT (placedT l) = true := by
  unfold risingT
  rw [bl_placed]
  exact Plain.placed_rising _

theorem mem_placedT (l : List ByteArray) (x : ByteArray) : x ∈ placedT l ↔ x ∈ l := by rw [← mem_bl, bl_placed, Plain.mem_placed, mem_bl]

theorem placedT_reverse (l : List ByteArray) : placedT l.reverse = placedT l := by
  refine bl_inj ?_
  rw [bl_placed, bl_placed]
  refine Plain.placed_eq fun x => ?_
  unfold bl
  rw [List.map_reverse, List.mem_reverse]

theorem placedT_length (l : List ByteArray) : (placedT l).length ≤ l.length := by
  have : ∀ (l acc : List ByteArray), (l.foldl insertT acc).length ≤ acc.length + l.length := by
    intro l
    induction l with
    | nil => intro acc; simp
    | cons x l ih =>
      intro acc
      rw [List.foldl_cons, List.length_cons]
      refine Nat.le_trans (ih _) ?_
      have := insertT_length acc x
      omega
  have h := this l []
  simp only [List.length_nil, Nat.zero_add] at h
  exact h

theorem at_reverse (l : List ByteArray) (k : Nat) (h : k < l.length) : at' l.reverse k = at' l (l.length - 1 - k) := by
  rw [at_lt (by rw [List.length_reverse]; exact h), at_lt (by omega), List.getElem_reverse]

/-- Where a word of a row that rises stands. -/
theorem place_of {l : List ByteArray} (h : risingT l = true) {k : Nat} (hk : k < l.length) : placeT l (at' l k) = k := by
  have hkb : k < (bl l).length := by rw [bl_length]; exact hk
  have := Plain.place_at (l := bl l) h hkb
  rw [bl_at hkb] at this
  exact this

theorem in_of {l : List ByteArray} {k : Nat} (hk : k < l.length) : inT l (at' l k) = true := (inT_iff _ _).2 (at_mem hk)

theorem shared_part (l : List ByteArray) (k : Nat) (hk : k < l.length) : allSharedT l ≤ allSharedT (l.drop k) := by
  unfold allSharedT
  refine Plain.allShared_part _ _ ?_ ?_
  · intro h
    have := congrArg List.length h
    rw [bl_length, List.length_drop] at this
    simp at this
    omega
  · intro y hy
    unfold bl at hy ⊢
    obtain ⟨z, hz, rfl⟩ := List.mem_map.1 hy
    exact List.mem_map.2 ⟨z, List.mem_of_mem_drop hz, rfl⟩

theorem short_of_few {l m : List ByteArray} (h : ∀ s ∈ l, s.size ≤ 300) (hm : ∀ s ∈ m, s ∈ l) : Short m := fun s hs => by have := h s (hm s hs); omega
theorem strs_ad {w : World} {ad : Option Addr} {n c : Nat} {l : List ByteArray} (h : Strs w (.slice ad n c) l) {i : Nat} (hi : i < l.length) : ∃ b o, ad = some ⟨b, o, none⟩ := by
  obtain ⟨ad', c', hv, hx⟩ := h
  cases hv
  obtain ⟨b, o, ha, _⟩ := hx i hi
  exact ⟨b, o, ha⟩

theorem strs_at {w : World} {b o n c : Nat} {l : List ByteArray} (h : Strs w (.slice (some ⟨b, o, none⟩) n c) l) {i : Nat} (hi : i < l.length) : w.cell? ⟨b, o + i, none⟩ = some (.string (at' l i)) := by
  obtain ⟨ad', c', hv, hx⟩ := h
  cases hv
  obtain ⟨b', o', ha, hcell⟩ := hx i hi
  cases ha
  exact hcell
end Go.Proofs.Ytmciflpabnfeiaa

/-
  A slice of texts, as a list of texts.
-/
import Derived.Test.YthgdanbkngnckaaT02
import Derived.Test.YthgdanbkngnckaaT04
set_option linter.unusedVariables false
set_option linter.unusedSimpArgs false
namespace Go.Proofs.Ythgdanbkngnckaa
open Go.RowKit

/-- Texts as cells. -/
def strs (l : List ByteArray) : List Value := l.map Value.string

/-- v is a slice that holds these texts. -/
def Strs (w : World) (v : Value) (l : List ByteArray) : Prop :=
  ∃ ad c, v = .slice ad l.length c ∧ ∀ i, i < l.length → ∃ b o, ad = some ⟨b, o, none⟩ ∧ w.cell? ⟨b, o + i, none⟩ = some (.string (l.getD i ⟨#[]⟩))

theorem Strs.below {w w' : World} {v : Value} {l : List ByteArray} (h : Strs w v l) (hb : Below w.heap.size w w') : Strs w' v l := by
  obtain ⟨ad, c, hv, hc⟩ := h
  refine ⟨ad, c, hv, fun i hi => ?_⟩
  obtain ⟨b, o, ha, hci⟩ := hc i hi
  refine ⟨b, o, ha, ?_⟩
  rw [hb.cell (p := ⟨b, o + i, none⟩) (block_lt_of_cell hci)]
  exact hci

theorem strs_nil (W : World) : Strs W (.slice none 0 0) [] := ⟨none, 0, rfl, fun i hi => by simp at hi⟩

theorem strs_of_owns {W : World} {base : Nat} {v : Value} {l : List ByteArray} (h : W.ownsRow base 9 1 v l.length (strs l)) : Strs W v l := by
  rcases h.2 with ⟨rfl, h0⟩ | ⟨g, cap, cur, rfl, _, hg, _, _, _, ht⟩
  · exact ⟨none, 0, by rw [h0], fun i hi => by omega⟩
  · refine ⟨_, cap, rfl, fun i hi => ⟨g, 0, rfl, ?_⟩⟩
    have hx : (strs l)[i]? = some (.string (l.getD i ⟨#[]⟩)) := by simp [strs, hi]
    rw [← ht, List.getElem?_take] at hx
    split at hx
    · rw [Array.getElem?_toList] at hx
      simp [World.cell?, hg, hx]
    · cases hx

theorem Strs.take {W : World} {ad : Option Addr} {n c m : Nat} {l : List ByteArray} (h : Strs W (.slice ad n c) l) (hl : l.length = n) (hm : m ≤ n) : Strs W (.slice ad m c) (l.take m) := by
  obtain ⟨ad', c', hv, hx⟩ := h
  rw [hl] at hv
  cases hv
  refine ⟨ad, c, by rw [List.length_take, Nat.min_eq_left (by omega)], fun i hi => ?_⟩
  rw [List.length_take] at hi
  obtain ⟨b, o, ha, hc⟩ := hx i (by omega)
  refine ⟨b, o, ha, ?_⟩
  rw [hc]
  simp [List.getD, show i < m by omega]

theorem i9 : (Try.prog.info? 9).map (fun i => (i.zero, i.size, i.bytes)) = some (some (.string ⟨#[]⟩), 1, 16) := by kernel_rfl
end Go.Proofs.Ythgdanbkngnckaa

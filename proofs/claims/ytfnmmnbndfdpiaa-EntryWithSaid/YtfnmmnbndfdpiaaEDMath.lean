/-
  What drafts say, in plain words: a word of 1 to 9 bytes, and a weight that fits; lists of them.
-/
import Derived.Test.YtfnmmnbndfdpiaaEEntries
import Derived.Test.YtfnmmnbndfdpiaaECheck
import Derived.Test.YtfnmmnbndfdpiaaEBMath
namespace Go.Proofs.Ytfnmmnbndfdpiaa
open Go.RowKit Go.Sort

theorem draftWord_size (d : Draft) : 1 ≤ (draftWord d).size ∧ (draftWord d).size ≤ 9 := by
  unfold draftWord
  split
  · exact ⟨Nat.le_refl 1, by show 1 ≤ 9; omega⟩
  · rename_i h
    have h1 : 0 < d.letters.length := List.length_pos_iff.2 h
    have h2 : (⟨(lets (d.letters.take 9)).toArray⟩ : ByteArray).size = min 9 d.letters.length := by
      rw [← ba_length]
      show (lets (d.letters.take 9)).length = _
      unfold lets
      rw [List.length_map, List.length_take]
    omega

theorem word_bare (e : Ent) : (bare e).word = e.word := by unfold bare; split <;> rfl
theorem weight_bare (e : Ent) : (bare e).weight ≤ e.weight := by unfold bare; split <;> simp

theorem draftE_size (d : Draft) : 1 ≤ (draftE d).word.size ∧ (draftE d).word.size ≤ 9 := by
  unfold draftE; rw [word_bare]; exact draftWord_size d
theorem draftE_word (d : Draft) : wordT (draftE d).word = true := by
  have := draftE_size d
  unfold wordT Plain.isWord
  rw [ba_length]
  exact decide_eq_true (by omega)
theorem draftE_bare (d : Draft) : bare (draftE d) = draftE d := bare_bare _
theorem draftE_weight {d : Draft} (h : d.weight < 4294967296) : (draftE d).weight < 4294967296 := by
  have := weight_bare ⟨draftWord d, d.weight, d.gone⟩
  unfold draftE
  simp only at this
  omega

/-- A word of 300 bytes at most, a weight that fits. -/
def Small (e : Ent) : Prop := e.word.size ≤ 9 ∧ e.weight < 4294967296

theorem entries_small {l : List Draft} (h : ∀ d ∈ l, d.weight < 4294967296) (most : Nat) : ∀ e ∈ entriesT l most, Small e := by
  intro e he
  unfold entriesT at he
  obtain ⟨d, hd, rfl⟩ := List.mem_map.1 he
  exact ⟨(draftE_size d).2, draftE_weight (h d (List.mem_of_mem_take hd))⟩

theorem withT_all {P : Ent → Prop} (hb : ∀ e, P e → P (bare e)) {l es : List Ent} (hl : ∀ e ∈ l, P e) (he : ∀ e ∈ es, P e) : ∀ e ∈ withT l es, P e := by
  unfold withT
  induction es generalizing l with
  | nil => exact hl
  | cons x es ih =>
    rw [List.foldl_cons]
    refine ih (fun y hy => ?_) (fun y hy => he y (List.mem_cons_of_mem _ hy))
    rcases mem_putE hy with rfl | hy
    · exact hb _ (he x (List.mem_cons_self ..))
    · exact hl y hy

theorem small_bare (e : Ent) (h : Small e) : Small (bare e) := ⟨by rw [word_bare]; exact h.1, Nat.lt_of_le_of_lt (weight_bare e) h.2⟩

theorem own_small {l : List Draft} (h : ∀ d ∈ l, d.weight < 4294967296) (most : Nat) : ∀ e ∈ withT [] (entriesT l most), Small e :=
  withT_all small_bare (fun e he => by cases he) (entries_small h most)

theorem short_small {l : List Ent} (h : ∀ e ∈ l, Small e) : ShortE l := fun x hx => Nat.le_trans (h x hx).1 (by omega)
theorem shortE_take {l : List Ent} (h : ShortE l) (n : Nat) : ShortE (l.take n) := fun x hx => h x (List.mem_of_mem_take hx)
theorem bared_nil : Bared [] := fun x hx => by cases hx
end Go.Proofs.Ytfnmmnbndfdpiaa

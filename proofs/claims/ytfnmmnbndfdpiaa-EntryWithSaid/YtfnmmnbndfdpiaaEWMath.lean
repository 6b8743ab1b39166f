/-
  Of EntryWith: a list with an entry, in plain words.
-/
import Derived.Test.YtfnmmnbndfdpiaaEDMath
import Derived.Test.YtfnmmnbndfdpiaaELive
import Derived.Test.YtfnmmnbndfdpiaaEFind
namespace Go.Proofs.Ytfnmmnbndfdpiaa
open Go.Sort

theorem withT_one (l : List Ent) (x : Ent) : withT l [x] = putE l (bare x) := rfl
theorem withT_two (l : List Ent) (x y : Ent) : withT l [x, y] = putE (putE l (bare x)) (bare y) := rfl

/-- What is put is found. -/
theorem found_put {l : List Ent} (h : risingE l = true) {x : Ent} (hx : bare x = x) : findE (withT l [x]) (key x) = some x := by
  rw [withT_one, hx, findE_putE x h, if_pos rfl]
/-- What is another's word stays as it was. -/
theorem found_other {l : List Ent} (h : risingE l = true) {x y : Ent} (hx : bare x = x) (hy : y ∈ l) (hne : key x ≠ key y) : findE (withT l [x]) (key y) = some y := by
  rw [withT_one, hx, findE_putE x h, if_neg hne, findE_mem h hy]
theorem found_is {l : List Ent} (h : risingE l = true) {x y : Ent} (hx : bare x = x) (hy : y ∈ l) : isE (withT l [x]) (key y) = true := by
  unfold isE
  by_cases e : key x = key y
  · rw [← e, found_put h hx]; rfl
  · rw [found_other h hx hy e]; rfl

theorem length_put {l : List Ent} (h : risingE l = true) (x : Ent) : (putE l x).length = if isE l (key x) = true then l.length else l.length + 1 := by
  induction l with
  | nil => rfl
  | cons y l ih =>
    have h' := risingE_cons.1 h
    unfold putE isE
    rw [findE_cons]
    by_cases h1 : ltE y x = true
    · rw [if_pos h1, if_neg (ltE_key _ _ h1), List.length_cons, ih h'.2, List.length_cons]
      show (if isE l (key x) = true then _ else _) + 1 = if isE l (key x) = true then _ else _
      split <;> rfl
    · rw [if_neg h1]
      by_cases h2 : ltE x y = true
      · rw [if_pos h2, if_neg (ltE_key _ _ h2).symm]
        have : findE l (key x) = none := findE_none.2 fun z hz => (ltE_key _ _ (swoE.trans _ _ _ h2 (h'.1 z hz))).symm
        rw [this]
        rfl
      · have hk : key y = key x := by
          by_cases c : key y = key x
          · exact c
          · exact absurd (ltE_of (by simpa using h1) c) h2
        rw [if_neg h2, if_pos hk]
        rfl

/-- Of two words it does not matter which comes first. -/
theorem with_swap {l : List Ent} (h : risingE l = true) {x y : Ent} (hx : bare x = x) (hy : bare y = y) (hne : key x ≠ key y) : withT l [x, y] = withT l [y, x] := by
  refine risingE_ext (withT_rising h _) (withT_rising h _) fun c => ?_
  rw [withT_two, withT_two, hx, hy, findE_putE y (putE_rising h x), findE_putE x h, findE_putE x (putE_rising h y), findE_putE y h]
  by_cases e1 : key x = c
  · rw [if_neg (fun e2 => hne (e1.trans e2.symm)), if_pos e1, if_pos e1]
  · rw [if_neg e1, if_neg e1]
/-- Of one word the last one stays. -/
theorem with_last {l : List Ent} (h : risingE l = true) {x y : Ent} (hx : bare x = x) (hy : bare y = y) (he : key x = key y) : withT l [x, y] = withT l [y] := by
  refine risingE_ext (withT_rising h _) (withT_rising h _) fun c => ?_
  rw [withT_two, withT_one, hx, hy, findE_putE y (putE_rising h x), findE_putE x h, findE_putE y h]
  by_cases e1 : key y = c
  · rw [if_pos e1, if_pos e1]
  · rw [if_neg e1, if_neg e1, if_neg (fun e2 => e1 (he ▸ e2))]

theorem rising_at {l : List Ent} (h : risingE l = true) {k : Nat} (hk : k + 1 < l.length) : ltE (ent l k) (ent l (k + 1)) = true := by
  rw [← List.take_append_drop (k + 1) l, risingE_append] at h
  refine h.2.2 _ ?_ _ ?_
  · rw [ent_lt (show k < l.length by omega)]
    exact List.mem_take_iff_getElem.2 ⟨k, by omega, rfl⟩
  · rw [ent_lt hk]
    exact List.mem_drop_iff_getElem.2 ⟨0, by omega, by congr 1⟩

/-- A list of words, rising, is as it may be. -/
theorem check_ok {l : List Ent} (h : risingE l = true) (hw : ∀ e ∈ l, wordT e.word = true) : checkE l = (-1, 0) := by
  refine check_end fun j hj => ?_
  unfold badE
  rw [if_neg (by rw [hw _ (ent_mem hj)]; simp)]
  rw [if_neg]
  rintro ⟨h0, h1⟩
  obtain ⟨k, rfl⟩ : ∃ k, j = k + 1 := ⟨j - 1, by omega⟩
  rw [Nat.add_sub_cancel, rising_at h hj] at h1
  cases h1

theorem words_with {l es : List Ent} (hl : ∀ e ∈ l, wordT e.word = true) (he : ∀ e ∈ es, wordT e.word = true) : ∀ e ∈ withT l es, wordT e.word = true :=
  withT_all (fun e h => by rw [word_bare]; exact h) hl he
theorem entries_words (l : List Draft) (most : Nat) : ∀ e ∈ entriesT l most, wordT e.word = true := by
  intro e he
  unfold entriesT at he
  obtain ⟨d, _, rfl⟩ := List.mem_map.1 he
  exact draftE_word d

/-- The next live one is the next one that is not gone. -/
theorem live_at (l : List Ent) (i : Nat) (hi : i < l.length) (hg : (ent l i).gone = false) : (liveT (l.take i)).length < (liveT l).length ∧ ent (liveT l) (liveT (l.take i)).length = ent l i := by
  have h : liveT l = liveT (l.take i) ++ ent l i :: liveT (l.drop (i + 1)) := by
    conv => lhs; rw [← List.take_append_drop i l]
    unfold liveT
    rw [List.filter_append, List.drop_eq_getElem_cons hi, List.filter_cons, ent_lt hi, if_pos (by rw [ent_lt hi] at hg; simp [hg])]
  constructor
  · rw [h]; simp
  · conv => lhs; rw [h]
    simp [ent, List.getD]
end Go.Proofs.Ytfnmmnbndfdpiaa

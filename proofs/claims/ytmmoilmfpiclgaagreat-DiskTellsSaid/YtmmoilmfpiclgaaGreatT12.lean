/-
  Plain mathematics of names with numbers, rising by their bytes, and of a map's datum that has them.
-/
import Derived.Maps.Ext
import Derived.Maps.OwnSet
import Derived.Sort.KeysCollected
set_option linter.unusedVariables false
set_option linter.unusedSimpArgs false
namespace Go.Proofs.YtmmoilmfpiclgaaGreat.Fld

/-- A name is no longer than a machine's reach. -/
def nameMax : Nat := 140737488351232
theorem nameMax_le : nameMax ≤ 9223372036854775807 := by decide

abbrev Names := List (List UInt8 × Nat)

def Rising (L : Names) : Prop := L.Pairwise fun p q => p.1 < q.1
def lesserT (L : Names) (k : List UInt8) : Names := L.filter fun p => decide (p.1 < k)
def greaterT (L : Names) (k : List UInt8) : Names := L.filter fun p => decide (k < p.1)
/-- A list with a name, at its place. -/
def withT (L : Names) (k : List UInt8) (n : Nat) : Names := lesserT L k ++ (k, n) :: greaterT L k
/-- A list without a name. -/
def withoutT (L : Names) (k : List UInt8) : Names := L.filter fun p => decide (p.1 ≠ k)
/-- A name's number. -/
def findT (L : Names) (k : List UInt8) : Option Nat := (L.find? fun p => decide (p.1 = k)).map (·.2)
def numD (n : Nat) : DataW Unit := .lit (.int .i64 n)
def entryD (p : List UInt8 × Nat) : Lit × DataW Unit := (.string p.1, numD p.2)
def datD (L : Names) : DataW Unit := .map (L.map entryD)

theorem before_lt : ∀ a b : List UInt8, bytesBefore a b = decide (a < b)
  | [], [] => by simp [bytesBefore]
  | [], _ :: _ => by simp [bytesBefore]
  | _ :: _, [] => by simp [bytesBefore]
  | x :: a, y :: b => by
    rw [bytesBefore, before_lt a b, Bool.eq_iff_iff]
    simp [List.cons_lt_cons_iff]

theorem lt_irrefl' (a : List UInt8) : ¬ a < a := List.lt_irrefl a
theorem lt_trans' {a b c : List UInt8} (h : a < b) (k : b < c) : a < c := List.lt_trans h k
theorem lt_total' (a b : List UInt8) (h : a ≠ b) : a < b ∨ b < a := by
  rcases Decidable.em (a < b) with h1 | h1
  · exact .inl h1
  · rcases Decidable.em (b < a) with h2 | h2
    · exact .inr h2
    · exact absurd (List.le_antisymm (List.not_lt.1 h2) (List.not_lt.1 h1)) h

theorem filter_all_true {α : Type} {p : α → Bool} {l : List α} (h : ∀ x ∈ l, p x = true) : l.filter p = l := List.filter_eq_self.2 h
theorem filter_all_false {α : Type} {p : α → Bool} {l : List α} (h : ∀ x ∈ l, p x = false) : l.filter p = [] := List.filter_eq_nil_iff.2 fun x hx => by simp [h x hx]

theorem Rising.filter {L : Names} (h : Rising L) (f : List UInt8 × Nat → Bool) : Rising (L.filter f) := List.Pairwise.filter f h
theorem Rising.without {L : Names} (h : Rising L) (k : List UInt8) : Rising (withoutT L k) := h.filter _
theorem Rising.nil : Rising [] := List.Pairwise.nil

theorem mem_with {L : Names} {k : List UInt8} {n : Nat} {p : List UInt8 × Nat} : p ∈ withT L k n ↔ p = (k, n) ∨ (p ∈ L ∧ p.1 ≠ k) := by
  unfold withT lesserT greaterT
  simp only [List.mem_append, List.mem_filter, decide_eq_true_eq, List.mem_cons]
  constructor
  · rintro (⟨h, h1⟩ | rfl | ⟨h, h1⟩)
    · exact .inr ⟨h, fun e => by rw [e] at h1; exact lt_irrefl' _ h1⟩
    · exact .inl rfl
    · exact .inr ⟨h, fun e => by rw [e] at h1; exact lt_irrefl' _ h1⟩
  · rintro (rfl | ⟨h, h1⟩)
    · exact .inr (.inl rfl)
    · rcases lt_total' _ _ h1 with h2 | h2
      · exact .inl ⟨h, h2⟩
      · exact .inr (.inr ⟨h, h2⟩)

theorem mem_without {L : Names} {k : List UInt8} {p : List UInt8 × Nat} : p ∈ withoutT L k ↔ p ∈ L ∧ p.1 ≠ k := by
  unfold withoutT
  simp [List.mem_filter]

theorem Rising.with {L : Names} (h : Rising L) (k : List UInt8) (n : Nat) : Rising (withT L k n) := by
  unfold withT Rising
  rw [List.pairwise_append]
  refine ⟨h.filter _, List.pairwise_cons.2 ⟨fun q hq => ?_, h.filter _⟩, fun p hp q hq => ?_⟩
  · simpa [greaterT] using (List.mem_filter.1 hq).2
  · have hp := (List.mem_filter.1 hp).2
    simp only [decide_eq_true_eq] at hp
    rcases List.mem_cons.1 hq with rfl | hq
    · exact hp
    · have hq := (List.mem_filter.1 hq).2
      simp only [decide_eq_true_eq] at hq
      exact lt_trans' hp hq

theorem with_length {L : Names} (k : List UInt8) (n : Nat) : (withT L k n).length ≤ L.length + 1 := by
  unfold withT lesserT greaterT
  have : ∀ l : Names, (l.filter fun p => decide (p.1 < k)).length + (l.filter fun p => decide (k < p.1)).length ≤ l.length := by
    intro l
    induction l with
    | nil => simp
    | cons x r ih =>
      simp only [List.filter_cons, List.length_cons]
      by_cases h1 : x.1 < k
      · have h2 : ¬ k < x.1 := fun h => lt_irrefl' _ (lt_trans' h1 h)
        simp [h1, h2]; omega
      · by_cases h2 : k < x.1
        · simp [h1, h2]; omega
        · simp [h1, h2]; omega
  have := this L
  simp; omega
theorem without_length (L : Names) (k : List UInt8) : (withoutT L k).length ≤ L.length := List.length_filter_le ..

theorem with_without (L : Names) (k : List UInt8) (n : Nat) : withT (withoutT L k) k n = withT L k n := by
  unfold withT lesserT greaterT withoutT
  rw [List.filter_filter, List.filter_filter]
  congr 1
  · refine List.filter_congr fun x _ => ?_
    by_cases h : x.1 < k
    · have : x.1 ≠ k := fun e => by rw [e] at h; exact lt_irrefl' _ h
      simp [h, this]
    · simp [h]
  · congr 1
    refine List.filter_congr fun x _ => ?_
    by_cases h : k < x.1
    · have : x.1 ≠ k := fun e => by rw [e] at h; exact lt_irrefl' _ h
      simp [h, this]
    · simp [h]

theorem insert_dat (k : List UInt8) (n : Nat) : ∀ L : Names, Rising L → (∀ p ∈ L, p.1 ≠ k) → DataW.insert (.string k, numD n) (L.map entryD) = (withT L k n).map entryD
  | [], _, _ => rfl
  | p :: r, h, hk => by
    obtain ⟨h1, h2⟩ := List.pairwise_cons.1 h
    rw [List.map_cons, DataW.insert]
    show (if bytesBefore k p.1 = true then _ else _) = _
    rw [before_lt]
    by_cases hlt : k < p.1
    · rw [if_pos (decide_eq_true hlt)]
      unfold withT
      rw [show lesserT (p :: r) k = [] from filter_all_false fun x hx => decide_eq_false fun hx' => by
        rcases List.mem_cons.1 hx with rfl | hx
        · exact lt_irrefl' _ (lt_trans' hlt hx')
        · exact lt_irrefl' _ (lt_trans' (lt_trans' hlt (h1 x hx)) hx')]
      rw [show greaterT (p :: r) k = p :: r from filter_all_true fun x hx => decide_eq_true (by
        rcases List.mem_cons.1 hx with rfl | hx
        · exact hlt
        · exact lt_trans' hlt (h1 x hx))]
      rfl
    · rw [if_neg (by simpa using hlt), insert_dat k n r h2 fun q hq => hk q (by simp [hq])]
      have hpk : p.1 < k := by
        rcases lt_total' _ _ (hk p (by simp)) with h' | h'
        · exact h'
        · exact absurd h' hlt
      unfold withT
      rw [show lesserT (p :: r) k = p :: lesserT r k from List.filter_cons_of_pos (by simpa using hpk)]
      rw [show greaterT (p :: r) k = greaterT r k from List.filter_cons_of_neg (by simpa using hlt)]
      rfl

theorem strike_dat (k : List UInt8) (L : Names) : (L.map entryD).filter (fun p => !p.1.sameKey (.string k)) = (withoutT L k).map entryD := by
  unfold withoutT
  rw [List.filter_map]
  congr 1
  refine List.filter_congr fun x _ => ?_
  show (!(x.1 == k)) = _
  by_cases h : x.1 = k <;> simp [h]

theorem put_dat {L : Names} (h : Rising L) (k : List UInt8) (n : Nat) : (datD L).put (.string k) (numD n) = datD (withT L k n) := by
  show DataW.map (DataW.insert (.string k, numD n) ((L.map entryD).filter fun p => !p.1.sameKey (.string k))) = _
  rw [strike_dat, insert_dat k n _ (h.without k) (fun p hp => (mem_without.1 hp).2), with_without]
  rfl

theorem del_dat (k : List UInt8) (L : Names) : (datD L).del (.string k) = datD (withoutT L k) := by
  show DataW.map ((L.map entryD).filter fun p => !p.1.sameKey (.string k)) = _
  rw [strike_dat]
  rfl

theorem find_dat (k : List UInt8) (z : DataW Unit) : ∀ L : Names, Maps.has (datD L) (.string k) = (findT L k).isSome ∧ (datD L).atKey (.string k) z = ((findT L k).map numD).getD z
  | [] => ⟨rfl, rfl⟩
  | p :: r => by
    have ih := find_dat k z r
    unfold findT at ih ⊢
    rw [List.find?_cons]
    by_cases h : p.1 = k
    · rw [show (decide (p.1 = k)) = true from decide_eq_true h]
      constructor
      · show (p.1 == k || _) = _
        rw [beq_iff_eq.2 h]; rfl
      · have hs : (entryD p).1.sameKey (.string k) = true := beq_iff_eq.2 h
        simp only [datD, DataW.atKey, List.map_cons, List.find?_cons, hs]
        rfl
    · rw [show (decide (p.1 = k)) = false from decide_eq_false h]
      have hb : (p.1 == k) = false := by simpa using h
      constructor
      · show (p.1 == k || (r.map entryD).any fun q => q.1.sameKey (.string k)) = _
        rw [hb]; exact ih.1
      · have hs : (entryD p).1.sameKey (.string k) = false := hb
        have ih2 := ih.2
        simp only [datD, DataW.atKey] at ih2
        simp only [datD, DataW.atKey, List.map_cons, List.find?_cons, hs]
        exact ih2

theorem keys_dat (L : Names) : strKeys (datD L) = L.map (·.1) := by
  show (L.map entryD).map (fun p => strOf p.1) = _
  rw [List.map_map]
  rfl
theorem size_dat (L : Names) : Maps.size (datD L) = L.length := by
  show (L.map entryD).length = _
  rw [List.length_map]

theorem find_some {L : Names} (h : Rising L) {k : List UInt8} {n : Nat} : findT L k = some n ↔ (k, n) ∈ L := by
  unfold findT
  constructor
  · intro hf
    cases hq : L.find? (fun p => decide (p.1 = k)) with
    | none => rw [hq] at hf; cases hf
    | some p =>
      rw [hq] at hf
      have h1 := List.find?_some hq
      have h2 := List.mem_of_find?_eq_some hq
      simp only [decide_eq_true_eq] at h1
      cases hf
      rw [← h1]; exact h2
  · intro hm
    induction L with
    | nil => cases hm
    | cons p r ih =>
      obtain ⟨h1, h2⟩ := List.pairwise_cons.1 h
      rw [List.find?_cons]
      by_cases hp : p.1 = k
      · rw [decide_eq_true hp]
        rcases List.mem_cons.1 hm with rfl | hm
        · rfl
        · have := h1 _ hm
          rw [hp] at this
          exact absurd this (lt_irrefl' _)
      · rw [decide_eq_false hp]
        refine ih h2 ?_
        rcases List.mem_cons.1 hm with rfl | hm
        · exact absurd rfl hp
        · exact hm
theorem find_none {L : Names} {k : List UInt8} : findT L k = none ↔ ∀ p ∈ L, p.1 ≠ k := by
  unfold findT
  simp [List.find?_eq_none]

theorem find_with {L : Names} (h : Rising L) (k : List UInt8) (n : Nat) (k' : List UInt8) : findT (withT L k n) k' = if k' = k then some n else findT L k' := by
  by_cases hk : k' = k
  · rw [if_pos hk, hk]
    exact (find_some (h.with k n)).2 (mem_with.2 (.inl rfl))
  · rw [if_neg hk]
    cases hf : findT L k' with
    | none =>
      rw [find_none] at hf ⊢
      intro p hp
      rcases mem_with.1 hp with rfl | ⟨hp, _⟩
      · exact fun e => hk e.symm
      · exact hf p hp
    | some m => exact (find_some (h.with k n)).2 (mem_with.2 (.inr ⟨(find_some h).1 hf, hk⟩))
theorem find_without {L : Names} (h : Rising L) (k k' : List UInt8) : findT (withoutT L k) k' = if k' = k then none else findT L k' := by
  by_cases hk : k' = k
  · rw [if_pos hk, find_none]
    intro p hp e
    exact (mem_without.1 hp).2 (e.trans hk)
  · rw [if_neg hk]
    cases hf : findT L k' with
    | none =>
      rw [find_none] at hf ⊢
      exact fun p hp => hf p (mem_without.1 hp).1
    | some m => exact (find_some (h.without k)).2 (mem_without.2 ⟨(find_some h).1 hf, hk⟩)

end Go.Proofs.YtmmoilmfpiclgaaGreat.Fld

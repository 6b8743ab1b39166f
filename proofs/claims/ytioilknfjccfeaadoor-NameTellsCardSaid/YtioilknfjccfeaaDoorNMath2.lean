/-
  Rows of numbers that rise, each once: put in one by one, or sorted and compacted.
-/
import Derived.Test.YtioilknfjccfeaaDoorNMath
import Derived.Lib.SlicesCompact
namespace Go.Proofs.YtioilknfjccfeaaDoor.Plain
open Go

/-- A number into a row that rises. -/
def insN (n : Nat) (l : List Nat) : List Nat := l.filter (· < n) ++ n :: l.filter (n < ·)

def insAll (l : List Nat) : List Nat := l.foldl (fun acc n => insN n acc) []

/-- The numbers of all names of that kind, as they come. -/
def ofKind (k : Int) (L : List ByteArray) : List Nat := (L.filter fun s => decide (((parseT s).1 : Int) = k)).map fun s => (parseT s).2

def numsT (k : Int) (L : List ByteArray) : List Nat := if k = 3 ∨ k = 4 then insAll (ofKind k L) else []

theorem insN_mem {n x : Nat} {l : List Nat} : x ∈ insN n l ↔ x = n ∨ x ∈ l := by
  unfold insN
  simp only [List.mem_append, List.mem_filter, List.mem_cons, decide_eq_true_eq]
  constructor
  · rintro (h | h | h)
    · exact .inr h.1
    · exact .inl h
    · exact .inr h.1
  · rintro (h | h)
    · exact .inr (.inl h)
    · rcases Nat.lt_trichotomy x n with e | e | e
      · exact .inl ⟨h, e⟩
      · exact .inr (.inl e)
      · exact .inr (.inr ⟨h, e⟩)

theorem insN_rises {n : Nat} {l : List Nat} (h : l.Pairwise (· < ·)) : (insN n l).Pairwise (· < ·) := by
  unfold insN
  rw [List.pairwise_append]
  refine ⟨h.filter _, ?_, ?_⟩
  · rw [List.pairwise_cons]
    refine ⟨fun a ha => ?_, h.filter _⟩
    simpa using (List.mem_filter.1 ha).2
  · intro a ha b hb
    have h1 : a < n := by simpa using (List.mem_filter.1 ha).2
    rcases List.mem_cons.1 hb with rfl | hb
    · exact h1
    · have h2 : n < b := by simpa using (List.mem_filter.1 hb).2
      omega

theorem insFold_rises : ∀ (l acc : List Nat), acc.Pairwise (· < ·) → (l.foldl (fun acc n => insN n acc) acc).Pairwise (· < ·)
  | [], _, h => h
  | n :: l, _, h => insFold_rises l _ (insN_rises h)
theorem insFold_mem : ∀ (l acc : List Nat) (x : Nat), x ∈ l.foldl (fun acc n => insN n acc) acc ↔ x ∈ l ∨ x ∈ acc
  | [], acc, x => by simp
  | n :: l, acc, x => by
    rw [List.foldl_cons, insFold_mem l, insN_mem, List.mem_cons]
    constructor
    · rintro (h | h | h)
      · exact .inl (.inr h)
      · exact .inl (.inl h)
      · exact .inr h
    · rintro ((h | h) | h)
      · exact .inr (.inl h)
      · exact .inl h
      · exact .inr (.inr h)

theorem insAll_rises (l : List Nat) : (insAll l).Pairwise (· < ·) := insFold_rises l [] List.Pairwise.nil
theorem insAll_mem {l : List Nat} {x : Nat} : x ∈ insAll l ↔ x ∈ l := by unfold insAll; rw [insFold_mem]; simp
theorem insAll_snoc (l : List Nat) (n : Nat) : insAll (l ++ [n]) = insN n (insAll l) := by unfold insAll; rw [List.foldl_append]; rfl

/-- Two rows that rise and have the same members are one. -/
theorem rises_eq : ∀ {a b : List Nat}, a.Pairwise (· < ·) → b.Pairwise (· < ·) → (∀ x, x ∈ a ↔ x ∈ b) → a = b
  | [], [], _, _, _ => rfl
  | [], y :: b, _, _, h => by have := (h y).2 (by simp); simp at this
  | x :: a, [], _, _, h => by have := (h x).1 (by simp); simp at this
  | x :: a, y :: b, ha, hb, h => by
    obtain ⟨ha1, ha2⟩ := List.pairwise_cons.1 ha
    obtain ⟨hb1, hb2⟩ := List.pairwise_cons.1 hb
    have hxy : x = y := by
      have h1 := (h x).1 (by simp)
      have h2 := (h y).2 (by simp)
      rcases List.mem_cons.1 h1 with e | h1
      · exact e
      · rcases List.mem_cons.1 h2 with e | h2
        · exact e.symm
        · have := hb1 x h1; have := ha1 y h2; omega
    subst hxy
    rw [rises_eq ha2 hb2 fun z => ?_]
    constructor
    · intro hz
      rcases List.mem_cons.1 ((h z).1 (by simp [hz])) with e | h'
      · have := ha1 z hz; omega
      · exact h'
    · intro hz
      rcases List.mem_cons.1 ((h z).2 (by simp [hz])) with e | h'
      · have := hb1 z hz; omega
      · exact h'

theorem filter_range_rises (d : Array Int) (hs : ∀ i j, i < j → j < d.size → d[i]! ≤ d[j]!) : ∀ m, m ≤ d.size →
    (Lib.compactUpTo d m).Pairwise (· < ·) ∧ (∀ x, x ∈ Lib.compactUpTo d m ↔ ∃ j, j < m ∧ d[j]! = x)
  | 0, _ => by simp [Lib.compactUpTo]
  | m + 1, hm => by
    obtain ⟨h1, h2⟩ := filter_range_rises d hs m (by omega)
    rw [Lib.compactUpTo_succ]
    by_cases hk : Lib.keeps d m = true
    · rw [if_pos hk]
      refine ⟨?_, fun x => ?_⟩
      · rw [List.pairwise_append]
        refine ⟨h1, by simp, fun a ha b hb => ?_⟩
        simp only [List.mem_singleton] at hb
        subst hb
        obtain ⟨j, hj, rfl⟩ := (h2 a).1 ha
        have hne : d[m]! ≠ d[m - 1]! := by
          intro e
          rw [Lib.keeps_neg (by omega) e] at hk
          cases hk
        have h3 : d[m - 1]! ≤ d[m]! := hs (m - 1) m (by omega) (by omega)
        have h4 : d[j]! ≤ d[m - 1]! := by
          by_cases e : j = m - 1
          · rw [e]; exact Int.le_refl _
          · exact hs j (m - 1) (by omega) (by omega)
        omega
      · rw [List.mem_append, h2, List.mem_singleton]
        constructor
        · rintro (⟨j, hj, e⟩ | e)
          · exact ⟨j, by omega, e⟩
          · exact ⟨m, by omega, e.symm⟩
        · rintro ⟨j, hj, e⟩
          by_cases h : j = m
          · subst h; exact .inr e.symm
          · exact .inl ⟨j, by omega, e⟩
    · rw [if_neg hk, List.append_nil]
      refine ⟨h1, fun x => ?_⟩
      rw [h2]
      constructor
      · rintro ⟨j, hj, e⟩; exact ⟨j, by omega, e⟩
      · rintro ⟨j, hj, e⟩
        by_cases h : j = m
        · subst h
          by_cases h0 : 0 < j
          · have he : d[j]! = d[j - 1]! := by
              rcases Int.lt_trichotomy d[j]! d[j - 1]! with h' | h' | h'
              · have := hs (j - 1) j (by omega) (by omega); omega
              · exact h'
              · exact absurd (Lib.keeps_pos (by omega)) hk
            exact ⟨j - 1, by omega, by rw [← he]; exact e⟩
          · have : Lib.keeps d j = true := Lib.keeps_lt_one d j (by omega)
            exact absurd this hk
        · exact ⟨j, by omega, e⟩

theorem sorted_le (l : List Int) : (l.mergeSort fun x y => decide (x ≤ y)).Pairwise (fun a b => decide (a ≤ b) = true) :=
  List.pairwise_mergeSort (le := fun x y : Int => decide (x ≤ y)) (fun a b c h1 h2 => decide_eq_true (Int.le_trans (of_decide_eq_true h1) (of_decide_eq_true h2))) (fun a b => by
    rcases Int.le_total a b with h | h
    · simp [h]
    · simp [h]) l

def ints (l : List Nat) : List Int := l.map fun (n : Nat) => (n : Int)

theorem ints_length (l : List Nat) : (ints l).length = l.length := List.length_map ..

/-- Sorted and compacted, numbers are as put in one by one. -/
theorem compact_sorted (l : List Nat) : Lib.compact ((ints l).mergeSort fun x y => decide (x ≤ y)) = ints (insAll l) := by
  have hs : ∀ i j, i < j → j < ((ints l).mergeSort fun x y => decide (x ≤ y)).toArray.size → ((ints l).mergeSort fun x y => decide (x ≤ y)).toArray[i]! ≤ ((ints l).mergeSort fun x y => decide (x ≤ y)).toArray[j]! := by
    intro i j hij hj
    have hj' : j < ((ints l).mergeSort fun x y => decide (x ≤ y)).length := by simpa using hj
    have := List.pairwise_iff_getElem.1 (sorted_le (ints l)) i j (by omega) hj' hij
    rw [getElem!_pos _ i (by simpa using (show i < ((ints l).mergeSort fun x y => decide (x ≤ y)).length by omega)), getElem!_pos _ j hj]
    simpa using of_decide_eq_true this
  obtain ⟨h1, h2⟩ := filter_range_rises _ hs _ (Nat.le_refl _)
  have hc : Lib.compact ((ints l).mergeSort fun x y => decide (x ≤ y)) = Lib.compactUpTo ((ints l).mergeSort fun x y => decide (x ≤ y)).toArray ((ints l).mergeSort fun x y => decide (x ≤ y)).toArray.size := by
    unfold Lib.compact; simp
  rw [hc]
  have hmem : ∀ x, x ∈ Lib.compactUpTo ((ints l).mergeSort fun x y => decide (x ≤ y)).toArray ((ints l).mergeSort fun x y => decide (x ≤ y)).toArray.size ↔ x ∈ ints l := by
    intro x
    rw [h2, ← (List.mergeSort_perm (ints l) (fun x y => decide (x ≤ y))).mem_iff]
    constructor
    · rintro ⟨j, hj, rfl⟩
      rw [getElem!_pos _ j hj]
      simp
    · intro hx
      obtain ⟨j, hj, e⟩ := List.getElem_of_mem hx
      exact ⟨j, by simpa using hj, by rw [getElem!_pos _ j (by simpa using hj)]; simpa using e⟩
  generalize Lib.compactUpTo ((ints l).mergeSort fun x y => decide (x ≤ y)).toArray ((ints l).mergeSort fun x y => decide (x ≤ y)).toArray.size = c at h1 hmem
  have hnn : ∀ x ∈ c, 0 ≤ x := by
    intro x hx
    have := (hmem x).1 hx
    obtain ⟨n, -, rfl⟩ := List.mem_map.1 this
    omega
  have hcx : ints (c.map Int.toNat) = c := by
    unfold ints
    rw [List.map_map]
    conv => rhs; rw [← List.map_id c]
    apply List.map_congr_left
    intro x hx
    have := hnn x hx
    simp
    omega
  rw [← hcx]
  congr 1
  apply rises_eq
  · rw [List.pairwise_map]
    exact h1.imp_of_mem fun {a b} ha hb hab => by have := hnn a ha; have := hnn b hb; omega
  · exact insAll_rises l
  · intro x
    rw [insAll_mem]
    constructor
    · intro hx
      obtain ⟨y, hy, rfl⟩ := List.mem_map.1 hx
      obtain ⟨n, hn, rfl⟩ := List.mem_map.1 ((hmem y).1 hy)
      simpa using hn
    · intro hx
      exact List.mem_map.2 ⟨(x : Int), (hmem _).2 (List.mem_map.2 ⟨x, hx, rfl⟩), by simp⟩

theorem ofKind_nil (k : Int) : ofKind k [] = [] := rfl
theorem ofKind_snoc (k : Int) (L : List ByteArray) (s : ByteArray) : ofKind k (L ++ [s]) = if ((parseT s).1 : Int) = k then ofKind k L ++ [(parseT s).2] else ofKind k L := by
  unfold ofKind
  by_cases h : ((parseT s).1 : Int) = k
  · rw [if_pos h]; simp [h]
  · rw [if_neg h]; simp [h]
theorem ofKind_append (k : Int) (L M : List ByteArray) : ofKind k (L ++ M) = ofKind k L ++ ofKind k M := by simp [ofKind]
theorem ofKind_length (k : Int) (L : List ByteArray) : (ofKind k L).length ≤ L.length := by
  unfold ofKind
  rw [List.length_map]
  exact List.length_filter_le ..
theorem ofKind_mem {k : Int} {L : List ByteArray} {n : Nat} : n ∈ ofKind k L ↔ ∃ s ∈ L, ((parseT s).1 : Int) = k ∧ (parseT s).2 = n := by
  unfold ofKind
  rw [List.mem_map]
  constructor
  · rintro ⟨s, hs, e⟩
    have := List.mem_filter.1 hs
    exact ⟨s, this.1, of_decide_eq_true this.2, e⟩
  · rintro ⟨s, hs, e, e'⟩
    exact ⟨s, List.mem_filter.2 ⟨hs, decide_eq_true e⟩, e'⟩

theorem numsT_mem {k : Int} (hk : k = 3 ∨ k = 4) {L : List ByteArray} {n : Nat} : n ∈ numsT k L ↔ ∃ s ∈ L, ((parseT s).1 : Int) = k ∧ (parseT s).2 = n := by
  unfold numsT
  rw [if_pos hk, insAll_mem, ofKind_mem]
theorem numsT_rises (k : Int) (L : List ByteArray) : (numsT k L).Pairwise (· < ·) := by
  unfold numsT
  split
  · exact insAll_rises _
  · exact List.Pairwise.nil
theorem rises_length_le : ∀ {a : List Nat} {b : List Nat}, a.Pairwise (· < ·) → (∀ x ∈ a, x ∈ b) → a.length ≤ b.length
  | [], b, _, _ => by simp
  | x :: a, b, ha, h => by
    obtain ⟨ha1, ha2⟩ := List.pairwise_cons.1 ha
    have hx := h x (by simp)
    have := rises_length_le (a := a) (b := b.erase x) ha2 fun y hy => by
      have hne : y ≠ x := by have := ha1 y hy; omega
      rw [List.mem_erase_of_ne hne]
      exact h y (by simp [hy])
    rw [List.length_erase_of_mem hx] at this
    have hp : 0 < b.length := List.length_pos_of_mem hx
    simp only [List.length_cons]
    omega
theorem numsT_length_le (k : Int) (L : List ByteArray) : (numsT k L).length ≤ L.length := by
  by_cases hk : k = 3 ∨ k = 4
  · refine Nat.le_trans (rises_length_le (b := ofKind k L) (numsT_rises k L) fun x hx => ?_) (ofKind_length k L)
    unfold numsT at hx
    rw [if_pos hk, insAll_mem] at hx
    exact hx
  · unfold numsT; rw [if_neg hk]; simp
theorem numsT_bound {k : Int} {L : List ByteArray} {n : Nat} (h : n ∈ numsT k L) : 1 ≤ n ∧ n ≤ 1000000000 := by
  by_cases hk : k = 3 ∨ k = 4
  · obtain ⟨s, -, e, rfl⟩ := (numsT_mem hk).1 h
    have := parse_bounds s
    refine ⟨this.2.2.1 (by omega), this.2.1⟩
  · unfold numsT at h; rw [if_neg hk] at h; simp at h
end Go.Proofs.YtioilknfjccfeaaDoor.Plain

/-
  Plain mathematics of words: what two rows of bytes share, which one is less, rows that rise, places. Nothing of the program stands here.
-/
set_option linter.unusedVariables false
set_option linter.unusedSimpArgs false
namespace Go.Proofs.Ytmfchlbafpkgaaa.Plain

/-- How many bytes two rows share. -/
def shared : List UInt8 → List UInt8 → Nat
  | a :: x, b :: y => if a = b then shared x y + 1 else 0
  | _, _ => 0

/-- Is the first one less? -/
def less : List UInt8 → List UInt8 → Bool
  | [], [] => false
  | [], _ :: _ => true
  | _ :: _, [] => false
  | a :: x, b :: y => if a = b then less x y else decide (a.toNat < b.toNat)

theorem shared_nil_right (x : List UInt8) : shared x [] = 0 := by cases x <;> rfl

theorem shared_comm : ∀ x y : List UInt8, shared x y = shared y x
  | [], [] => rfl
  | [], _ :: _ => rfl
  | _ :: _, [] => rfl
  | a :: x, b :: y => by
    unfold shared
    by_cases h : a = b
    · rw [if_pos h, if_pos h.symm, shared_comm x y]
    · rw [if_neg h, if_neg (fun e => h e.symm)]

theorem shared_le_left : ∀ x y : List UInt8, shared x y ≤ x.length
  | [], _ => by simp [shared]
  | _ :: _, [] => by simp [shared]
  | a :: x, b :: y => by
    unfold shared
    split
    · have := shared_le_left x y
      simp; omega
    · exact Nat.zero_le _

theorem shared_le_right (x y : List UInt8) : shared x y ≤ y.length := by rw [shared_comm]; exact shared_le_left y x

theorem shared_self : ∀ x : List UInt8, shared x x = x.length
  | [] => rfl
  | a :: x => by unfold shared; rw [if_pos rfl, shared_self x]; rfl

/-- Up to there they are alike. -/
theorem shared_take : ∀ (x y : List UInt8), x.take (shared x y) = y.take (shared x y)
  | [], _ => by simp [shared]
  | _ :: _, [] => by simp [shared]
  | a :: x, b :: y => by
    unfold shared
    split
    · rename_i h
      rw [List.take_succ_cons, List.take_succ_cons, h, shared_take x y]
    · simp

/-- There they are unlike. -/
theorem shared_stop : ∀ (x y : List UInt8), shared x y < x.length → shared x y < y.length → x.getD (shared x y) 0 ≠ y.getD (shared x y) 0
  | [], _, h, _ => by simp at h
  | _ :: _, [], _, h => by simp at h
  | a :: x, b :: y, h1, h2 => by
    unfold shared at h1 h2 ⊢
    by_cases h : a = b
    · rw [if_pos h] at h1 h2 ⊢
      have := shared_stop x y (by simpa using h1) (by simpa using h2)
      simpa using this
    · rw [if_neg h]
      simpa using h

/-- As many bytes are shared as are alike from the first one on. -/
theorem shared_step : ∀ (x y : List UInt8) (n : Nat), n < x.length → n < y.length → n ≤ shared x y → x.getD n 0 = y.getD n 0 → n + 1 ≤ shared x y
  | [], _, _, h, _, _, _ => by simp at h
  | _ :: _, [], _, _, h, _, _ => by simp at h
  | a :: x, b :: y, n, h1, h2, h3, h4 => by
    unfold shared at h3 ⊢
    by_cases h : a = b
    · rw [if_pos h] at h3 ⊢
      cases n with
      | zero => omega
      | succ n =>
        have := shared_step x y n (by simpa using h1) (by simpa using h2) (by omega) (by simpa using h4)
        omega
    · rw [if_neg h] at h3 ⊢
      obtain rfl : n = 0 := by omega
      exact absurd (by simpa using h4) h

/-- What is less, by the first place at which they are unlike. -/
theorem less_eq : ∀ x y : List UInt8, less x y = if shared x y = x.length then decide (shared x y < y.length) else decide (shared x y < y.length) && decide ((x.getD (shared x y) 0).toNat < (y.getD (shared x y) 0).toNat)
  | [], [] => by simp [less, shared]
  | [], _ :: _ => by simp [less, shared]
  | _ :: _, [] => by simp [less, shared]
  | a :: x, b :: y => by
    have ih := less_eq x y
    unfold less shared
    by_cases h : a = b
    · rw [if_pos h, if_pos h, ih]
      by_cases hs : shared x y = x.length
      · simp [hs]
      · have hl : ¬ shared x y + 1 = (a :: x).length := by simpa using hs
        rw [if_neg hs, if_neg hl]
        have e1 : (a :: x).getD (shared x y + 1) 0 = x.getD (shared x y) 0 := by simp [List.getD]
        have e2 : (b :: y).getD (shared x y + 1) 0 = y.getD (shared x y) 0 := by simp [List.getD]
        have e3 : decide (shared x y + 1 < (b :: y).length) = decide (shared x y < y.length) := by simp
        rw [e1, e2, e3]
    · rw [if_neg h, if_neg h]
      simp [List.getD]

theorem less_irrefl : ∀ x : List UInt8, less x x = false
  | [] => rfl
  | a :: x => by unfold less; rw [if_pos rfl]; exact less_irrefl x

theorem less_asymm : ∀ x y : List UInt8, less x y = true → less y x = false
  | [], [], h => by simp [less] at h
  | [], _ :: _, _ => rfl
  | _ :: _, [], h => by simp [less] at h
  | a :: x, b :: y, h => by
    unfold less at h ⊢
    by_cases hab : a = b
    · rw [if_pos hab] at h
      rw [if_pos hab.symm]
      exact less_asymm x y h
    · rw [if_neg hab] at h
      rw [if_neg (fun e => hab e.symm)]
      have := of_decide_eq_true h
      exact decide_eq_false (by omega)

theorem less_total : ∀ x y : List UInt8, x ≠ y → less x y = true ∨ less y x = true
  | [], [], h => absurd rfl h
  | [], _ :: _, _ => .inl rfl
  | _ :: _, [], _ => .inr rfl
  | a :: x, b :: y, h => by
    unfold less
    by_cases hab : a = b
    · subst hab
      rw [if_pos rfl, if_pos rfl]
      exact less_total x y (fun e => h (by rw [e]))
    · rw [if_neg hab, if_neg (fun e => hab e.symm)]
      have : a.toNat ≠ b.toNat := fun e => hab (UInt8.toNat_inj.1 e)
      rcases Nat.lt_or_gt_of_ne this with h' | h'
      · exact .inl (decide_eq_true h')
      · exact .inr (decide_eq_true h')

theorem less_ne {x y : List UInt8} (h : less x y = true) : x ≠ y := by
  rintro rfl
  rw [less_irrefl] at h
  cases h

/-- Just one of two that are unlike is less. -/
theorem less_or (x y : List UInt8) : (less x y || less y x) = decide (x ≠ y) := by
  by_cases h : x = y
  · subst h; simp [less_irrefl]
  · rcases less_total x y h with h' | h' <;> simp [h, h']

theorem less_trans : ∀ x y z : List UInt8, less x y = true → less y z = true → less x z = true
  | [], [], _, h, _ => by simp [less] at h
  | [], _ :: _, [], _, h => by simp [less] at h
  | [], _ :: _, _ :: _, _, _ => rfl
  | _ :: _, [], _, h, _ => by simp [less] at h
  | _ :: _, _ :: _, [], _, h => by simp [less] at h
  | a :: x, b :: y, c :: z, h1, h2 => by
    unfold less at h1 h2 ⊢
    by_cases hab : a = b
    · subst hab
      rw [if_pos rfl] at h1
      by_cases hac : a = c
      · rw [if_pos hac] at h2 ⊢
        exact less_trans x y z h1 h2
      · rw [if_neg hac] at h2 ⊢
        exact h2
    · rw [if_neg hab] at h1
      have l1 := of_decide_eq_true h1
      by_cases hbc : b = c
      · subst hbc
        rw [if_neg hab]
        exact h1
      · rw [if_neg hbc] at h2
        have l2 := of_decide_eq_true h2
        have hac : a ≠ c := fun e => by subst e; omega
        rw [if_neg hac]
        exact decide_eq_true (by omega)

/-- What lies between shares no less. -/
theorem shared_between : ∀ x y z : List UInt8, less x y = true → less y z = true → shared x z ≤ shared x y ∧ shared x z ≤ shared y z
  | [], _, _, _, _ => by simp [shared]
  | _ :: _, [], _, h, _ => by simp [less] at h
  | _ :: _, _ :: _, [], _, h => by simp [less] at h
  | a :: x, b :: y, c :: z, h1, h2 => by
    unfold less at h1 h2
    unfold shared
    by_cases hac : a = c
    · subst hac
      rw [if_pos rfl]
      by_cases hab : a = b
      · subst hab
        rw [if_pos rfl] at h1 h2 ⊢
        rw [if_pos rfl]
        have := shared_between x y z h1 h2
        omega
      · rw [if_neg hab] at h1
        rw [if_neg (fun e => hab e.symm)] at h2
        have l1 := of_decide_eq_true h1
        have l2 := of_decide_eq_true h2
        omega
    · rw [if_neg hac]
      exact ⟨Nat.zero_le _, Nat.zero_le _⟩

/-- What three share. -/
theorem shared_three : ∀ x y z : List UInt8, min (shared x y) (shared y z) ≤ shared x z
  | [], _, _ => by simp [shared]
  | _ :: _, [], _ => by simp [shared]
  | _ :: _, _ :: _, [] => by simp [shared]
  | a :: x, b :: y, c :: z => by
    unfold shared
    by_cases hab : a = b
    · subst hab
      rw [if_pos rfl]
      by_cases hac : a = c
      · rw [if_pos hac, if_pos hac]
        have := shared_three x y z
        omega
      · rw [if_neg hac, if_neg hac]; omega
    · rw [if_neg hab]; omega

/-! ### Rows that rise -/

/-- Each is less than the next one. -/
def rising : List (List UInt8) → Bool
  | x :: y :: r => less x y && rising (y :: r)
  | _ => true

theorem rising_tail {x : List UInt8} {l : List (List UInt8)} (h : rising (x :: l) = true) : rising l = true := by
  cases l with
  | nil => rfl
  | cons y r => unfold rising at h; rw [Bool.and_eq_true] at h; exact h.2

/-- The first one is less than all others. -/
theorem rising_head : ∀ {x : List UInt8} {l : List (List UInt8)}, rising (x :: l) = true → ∀ y ∈ l, less x y = true
  | x, [], _, y, hy => by simp at hy
  | x, z :: r, h, y, hy => by
    have h' := h
    unfold rising at h
    rw [Bool.and_eq_true] at h
    rcases List.mem_cons.1 hy with rfl | hy'
    · exact h.1
    · exact less_trans x z y h.1 (rising_head h.2 y hy')

theorem rising_cons {x : List UInt8} {l : List (List UInt8)} (h1 : ∀ y ∈ l, less x y = true) (h2 : rising l = true) : rising (x :: l) = true := by
  cases l with
  | nil => rfl
  | cons y r => unfold rising; rw [Bool.and_eq_true]; exact ⟨h1 y (by simp), h2⟩

theorem rising_append : ∀ {a b : List (List UInt8)}, rising (a ++ b) = true ↔ rising a = true ∧ rising b = true ∧ ∀ x ∈ a, ∀ y ∈ b, less x y = true
  | [], b => by simp [rising]
  | x :: a, b => by
    rw [List.cons_append]
    constructor
    · intro h
      obtain ⟨h1, h2, h3⟩ := rising_append.1 (rising_tail h)
      have hh := rising_head h
      refine ⟨rising_cons (fun y hy => hh y (by simp [hy])) h1, h2, fun z hz y hy => ?_⟩
      rcases List.mem_cons.1 hz with rfl | hz'
      · exact hh y (by simp [hy])
      · exact h3 z hz' y hy
    · rintro ⟨h1, h2, h3⟩
      refine rising_cons (fun y hy => ?_) (rising_append.2 ⟨rising_tail h1, h2, fun z hz y hy => h3 z (by simp [hz]) y hy⟩)
      rcases List.mem_append.1 hy with h | h
      · exact rising_head h1 y h
      · exact h3 x (by simp) y h

/-- Two rows that rise, with the same members, are one. -/
theorem rising_ext : ∀ {a b : List (List UInt8)}, rising a = true → rising b = true → (∀ x, x ∈ a ↔ x ∈ b) → a = b
  | [], [], _, _, _ => rfl
  | [], y :: b, _, _, h => by have := (h y).2 (by simp); simp at this
  | x :: a, [], _, _, h => by have := (h x).1 (by simp); simp at this
  | x :: a, y :: b, ha, hb, h => by
    have hxy : x = y := by
      rcases List.mem_cons.1 ((h x).1 (by simp)) with e | hx
      · exact e
      · rcases List.mem_cons.1 ((h y).2 (by simp)) with e | hy
        · exact e.symm
        · have h1 := rising_head hb x hx
          have h2 := rising_head ha y hy
          rw [less_asymm _ _ h1] at h2
          cases h2
    subst hxy
    congr 1
    refine rising_ext (rising_tail ha) (rising_tail hb) fun z => ?_
    constructor
    · intro hz
      rcases List.mem_cons.1 ((h z).1 (by simp [hz])) with e | hz'
      · subst e
        have := less_ne (rising_head ha z hz)
        exact absurd rfl this
      · exact hz'
    · intro hz
      rcases List.mem_cons.1 ((h z).2 (by simp [hz])) with e | hz'
      · subst e
        have := less_ne (rising_head hb z hz)
        exact absurd rfl this
      · exact hz'

/-! ### Places -/

/-- How many are less, and is it there? -/
def place (l : List (List UInt8)) (w : List UInt8) : Nat := (l.filter fun x => less x w).length

theorem place_le (l : List (List UInt8)) (w : List UInt8) : place l w ≤ l.length := List.length_filter_le ..

theorem place_cons (x : List UInt8) (l : List (List UInt8)) (w : List UInt8) : place (x :: l) w = (if less x w = true then 1 else 0) + place l w := by
  unfold place
  rw [List.filter_cons]
  split <;> simp
  omega

/-- In a row that rises the lesser ones are just those ahead of the place. -/
theorem place_split : ∀ {l : List (List UInt8)} {w : List UInt8}, rising l = true → (∀ x ∈ l.take (place l w), less x w = true) ∧ (∀ x ∈ l.drop (place l w), less x w = false)
  | [], w, _ => by simp
  | x :: l, w, h => by
    obtain ⟨h1, h2⟩ := place_split (w := w) (rising_tail h)
    rw [place_cons]
    by_cases hx : less x w = true
    · rw [if_pos hx, show 1 + place l w = place l w + 1 by omega, List.take_succ_cons, List.drop_succ_cons]
      refine ⟨fun y hy => ?_, h2⟩
      rcases List.mem_cons.1 hy with rfl | hy'
      · exact hx
      · exact h1 y hy'
    · have hall : ∀ y ∈ l, less y w = false := fun y hy => by
        cases hz : less y w with
        | false => rfl
        | true => exact absurd (less_trans x y w (rising_head h y hy) hz) hx
      have hp : place l w = 0 := by
        unfold place
        rw [List.filter_eq_nil_iff.2 (fun y hy => by rw [hall y hy]; simp)]
        rfl
      rw [if_neg hx, hp]
      refine ⟨by simp, fun y hy => ?_⟩
      rcases List.mem_cons.1 (by simpa using hy) with rfl | hy'
      · simpa using hx
      · exact hall y hy'

/-- Where a word of a row that rises stands is its place. -/
theorem place_at {l : List (List UInt8)} (h : rising l = true) {i : Nat} (hi : i < l.length) : place l l[i] = i := by
  have e : l = l.take i ++ l[i] :: l.drop (i + 1) := by rw [← List.drop_eq_getElem_cons hi, List.take_append_drop]
  have h' := h
  rw [e] at h'
  obtain ⟨_, h2, h3⟩ := rising_append.1 h'
  have h4 := rising_head h2
  have e2 : place l l[i] = place (l.take i ++ l[i] :: l.drop (i + 1)) l[i] := by rw [← e]
  rw [e2]
  unfold place
  rw [List.filter_append, List.filter_cons, less_irrefl, if_neg (by simp)]
  rw [List.filter_eq_self.2 (fun x hx => h3 x hx _ List.mem_cons_self), List.filter_eq_nil_iff.2 (fun x hx => by rw [less_asymm _ _ (h4 x hx)]; simp)]
  simp
  omega

/-- A row with one more, at its place, rises. -/
theorem rising_insert {l : List (List UInt8)} {w : List UInt8} (h : rising l = true) (hw : w ∉ l) : rising (l.take (place l w) ++ w :: l.drop (place l w)) = true := by
  obtain ⟨h1, h2⟩ := place_split (w := w) h
  have h' := h
  rw [← List.take_append_drop (place l w) l] at h'
  obtain ⟨r1, r2, r3⟩ := rising_append.1 h'
  refine rising_append.2 ⟨r1, rising_cons (fun y hy => ?_) r2, fun x hx y hy => ?_⟩
  · rcases less_total w y (fun e => hw (by rw [e]; exact List.mem_of_mem_drop hy)) with h | h
    · exact h
    · rw [h2 y hy] at h; cases h
  · rcases List.mem_cons.1 hy with rfl | hy'
    · exact h1 x hx
    · exact r3 x hx y hy'

theorem mem_insert {l : List (List UInt8)} {w x : List UInt8} (k : Nat) : x ∈ l.take k ++ w :: l.drop k ↔ x = w ∨ x ∈ l := by
  constructor
  · intro h
    rcases List.mem_append.1 h with h | h
    · exact .inr (List.mem_of_mem_take h)
    · rcases List.mem_cons.1 h with h | h
      · exact .inl h
      · exact .inr (List.mem_of_mem_drop h)
  · rintro (rfl | h)
    · simp
    · rw [← List.take_append_drop k l] at h
      rcases List.mem_append.1 h with h | h <;> simp [h]

/-! ### What all share -/

def allShared : List (List UInt8) → Nat
  | [] => 0
  | x :: r => r.foldl (fun n y => min n (shared x y)) x.length

theorem foldl_min_le {α : Type} (f : α → Nat) : ∀ (l : List α) (n : Nat), l.foldl (fun n y => min n (f y)) n ≤ n ∧ ∀ y ∈ l, l.foldl (fun n y => min n (f y)) n ≤ f y
  | [], n => ⟨Nat.le_refl _, by simp⟩
  | x :: l, n => by
    obtain ⟨h1, h2⟩ := foldl_min_le f l (min n (f x))
    refine ⟨by rw [List.foldl_cons]; omega, fun y hy => ?_⟩
    rw [List.foldl_cons]
    rcases List.mem_cons.1 hy with rfl | hy'
    · omega
    · exact h2 y hy'

theorem le_foldl_min {α : Type} (f : α → Nat) : ∀ (l : List α) (n m : Nat), m ≤ n → (∀ y ∈ l, m ≤ f y) → m ≤ l.foldl (fun n y => min n (f y)) n
  | [], n, m, h, _ => h
  | x :: l, n, m, h, hl => by
    rw [List.foldl_cons]
    exact le_foldl_min f l _ m (by have := hl x (by simp); omega) (fun y hy => hl y (by simp [hy]))

/-- Of words that rise the first and the last one share just what all share. -/
theorem allShared_ends : ∀ {x : List UInt8} {l : List (List UInt8)} {z : List UInt8}, rising (x :: (l ++ [z])) = true → allShared (x :: (l ++ [z])) = shared x z := by
  intro x l z h
  have hh := rising_head h
  have hz := (rising_append (a := l) (b := [z])).1 (rising_tail h)
  apply Nat.le_antisymm
  · exact (foldl_min_le (shared x) (l ++ [z]) x.length).2 z (by simp)
  · refine le_foldl_min (shared x) (l ++ [z]) x.length _ (shared_le_left x z) fun y hy => ?_
    rcases List.mem_append.1 hy with h' | h'
    · exact (shared_between x y z (hh y (by simp [h'])) (hz.2.2 y h' z (by simp))).1
    · rw [List.mem_singleton.1 h']; exact Nat.le_refl _

theorem allShared_one (x : List UInt8) : allShared [x] = x.length := rfl

/-- What all share, all of any part share, too. -/
theorem allShared_le : ∀ (l : List (List UInt8)) (y : List UInt8), y ∈ l → allShared l ≤ y.length
  | [], _, h => by simp at h
  | x :: r, y, h => by
    obtain ⟨h1, h2⟩ := foldl_min_le (shared x) r x.length
    rcases List.mem_cons.1 h with rfl | h'
    · exact h1
    · exact Nat.le_trans (h2 y h') (shared_le_right x y)

theorem allShared_two (l : List (List UInt8)) {y z : List UInt8} (hy : y ∈ l) (hz : z ∈ l) : allShared l ≤ shared y z := by
  cases l with
  | nil => simp at hy
  | cons x r =>
    obtain ⟨h1, h2⟩ := foldl_min_le (shared x) r x.length
    have hx : ∀ w ∈ x :: r, allShared (x :: r) ≤ shared x w := fun w hw => by
      rcases List.mem_cons.1 hw with rfl | hw'
      · rw [shared_self]; exact h1
      · exact h2 w hw'
    have a := hx y hy
    have b := hx z hz
    have := shared_three y x z
    rw [shared_comm y x] at this
    omega

theorem allShared_part (l m : List (List UInt8)) (hne : m ≠ []) (h : ∀ y ∈ m, y ∈ l) : allShared l ≤ allShared m := by
  cases m with
  | nil => exact absurd rfl hne
  | cons x r => exact le_foldl_min (shared x) r x.length _ (allShared_le l x (h x (by simp))) (fun y hy => allShared_two l (h x (by simp)) (h y (by simp [hy])))

/-! ### Near and Sorted, as the document's answer goes -/

def nearFrom : Nat → Nat → List (List UInt8) → List UInt8 → Nat × Bool
  | _, n, [], _ => (n, false)
  | i, n, x :: r, w => if x = w then (i, true) else nearFrom (i + 1) (if less x w = true then n + 1 else n) r w
def near (l : List (List UInt8)) (w : List UInt8) : Nat × Bool := nearFrom 0 0 l w

theorem nearFrom_not : ∀ (i n : Nat) (l : List (List UInt8)) (w : List UInt8), w ∉ l → nearFrom i n l w = (n + place l w, false)
  | _, n, [], w, _ => by simp [nearFrom, place]
  | i, n, x :: r, w, h => by
    have hx : x ≠ w := fun e => h (by simp [e])
    rw [nearFrom, if_neg hx, nearFrom_not _ _ r w (fun hr => h (by simp [hr])), place_cons]
    split <;> simp <;> omega

theorem nearFrom_is : ∀ (i n : Nat) (l : List (List UInt8)) (w : List UInt8), w ∈ l → ∃ j, ∃ h : j < l.length, l[j] = w ∧ nearFrom i n l w = (i + j, true)
  | _, _, [], w, h => by simp at h
  | i, n, x :: r, w, h => by
    by_cases hx : x = w
    · exact ⟨0, by simp, hx, by rw [nearFrom, if_pos hx]; simp⟩
    · rcases List.mem_cons.1 h with e | hr
      · exact absurd e.symm hx
      · obtain ⟨j, hj, h1, h2⟩ := nearFrom_is (i + 1) (if less x w = true then n + 1 else n) r w hr
        exact ⟨j + 1, by simp; omega, by simpa using h1, by rw [nearFrom, if_neg hx, h2]; simp; omega⟩

/-- In a row that rises a word is near its place. -/
theorem near_rising {l : List (List UInt8)} (h : rising l = true) (w : List UInt8) : near l w = (place l w, decide (w ∈ l)) := by
  unfold near
  by_cases hw : w ∈ l
  · obtain ⟨j, hj, h1, h2⟩ := nearFrom_is 0 0 l w hw
    have := place_at h hj
    rw [h1] at this
    rw [h2, this, decide_eq_true hw]
    simp
  · rw [nearFrom_not 0 0 l w hw, decide_eq_false hw]
    simp

def isWord (x : List UInt8) : Bool := decide (1 ≤ x.length ∧ x.length ≤ 255)

/-- A row with one more, at its place, if it is not there. -/
def insertW (l : List (List UInt8)) (w : List UInt8) : List (List UInt8) := if (near l w).2 = true then l else l.take (near l w).1 ++ w :: l.drop (near l w).1

theorem insertW_rising {l : List (List UInt8)} (h : rising l = true) (w : List UInt8) : rising (insertW l w) = true := by
  unfold insertW
  rw [near_rising h]
  by_cases hw : w ∈ l
  · simp only [hw, decide_true, if_true]; exact h
  · simp only [hw, decide_false, Bool.false_eq_true, if_false]; exact rising_insert h hw

theorem mem_insertW {l : List (List UInt8)} (h : rising l = true) (w x : List UInt8) : x ∈ insertW l w ↔ x = w ∨ x ∈ l := by
  unfold insertW
  rw [near_rising h]
  by_cases hw : w ∈ l
  · simp only [hw, decide_true, if_true]
    constructor
    · exact fun hx => .inr hx
    · rintro (rfl | hx)
      · exact hw
      · exact hx
  · simp only [hw, decide_false, Bool.false_eq_true, if_false]
    exact mem_insert _

/-- The words of some rows, rising, each once. -/
def sorted (l : List (List UInt8)) : List (List UInt8) := l.foldl (fun acc w => if isWord w = true then insertW acc w else acc) []

theorem sorted_aux : ∀ (l acc : List (List UInt8)), rising acc = true → (∀ x ∈ acc, isWord x = true) →
    rising (l.foldl (fun acc w => if isWord w = true then insertW acc w else acc) acc) = true ∧ ∀ x, x ∈ l.foldl (fun acc w => if isWord w = true then insertW acc w else acc) acc ↔ x ∈ acc ∨ (x ∈ l ∧ isWord x = true)
  | [], acc, h, hw => ⟨h, fun x => by simp⟩
  | y :: l, acc, h, hw => by
    rw [List.foldl_cons]
    by_cases hy : isWord y = true
    · rw [if_pos hy]
      obtain ⟨h1, h2⟩ := sorted_aux l (insertW acc y) (insertW_rising h y) (fun x hx => by
        rcases (mem_insertW h y x).1 hx with rfl | hx'
        · exact hy
        · exact hw x hx')
      refine ⟨h1, fun x => ?_⟩
      rw [h2 x, mem_insertW h y x, List.mem_cons]
      constructor
      · rintro ((rfl | h') | ⟨h', h''⟩)
        · exact .inr ⟨.inl rfl, hy⟩
        · exact .inl h'
        · exact .inr ⟨.inr h', h''⟩
      · rintro (h' | ⟨(rfl | h'), h''⟩)
        · exact .inl (.inr h')
        · exact .inl (.inl rfl)
        · exact .inr ⟨h', h''⟩
    · rw [if_neg hy]
      obtain ⟨h1, h2⟩ := sorted_aux l acc h hw
      refine ⟨h1, fun x => ?_⟩
      rw [h2 x, List.mem_cons]
      constructor
      · rintro (h' | ⟨h', h''⟩)
        · exact .inl h'
        · exact .inr ⟨.inr h', h''⟩
      · rintro (h' | ⟨(rfl | h'), h''⟩)
        · exact .inl h'
        · exact absurd h'' hy
        · exact .inr ⟨h', h''⟩

theorem sorted_rising (l : List (List UInt8)) : rising (sorted l) = true := (sorted_aux l [] rfl (by simp)).1
theorem mem_sorted (l : List (List UInt8)) (x : List UInt8) : x ∈ sorted l ↔ x ∈ l ∧ isWord x = true := by
  have := (sorted_aux l [] rfl (by simp)).2 x
  unfold sorted
  simpa using this

/-- Rows put in at their places, words or not: rising, each once. -/
def placed (l : List (List UInt8)) : List (List UInt8) := l.foldl insertW []

theorem placed_aux : ∀ (l acc : List (List UInt8)), rising acc = true → rising (l.foldl insertW acc) = true ∧ ∀ x, x ∈ l.foldl insertW acc ↔ x ∈ acc ∨ x ∈ l
  | [], acc, h => ⟨h, fun x => by simp⟩
  | y :: l, acc, h => by
    obtain ⟨h1, h2⟩ := placed_aux l (insertW acc y) (insertW_rising h y)
    refine ⟨h1, fun x => ?_⟩
    rw [List.foldl_cons, h2 x, mem_insertW h y x, List.mem_cons]
    constructor
    · rintro ((h' | h') | h')
      · exact .inr (.inl h')
      · exact .inl h'
      · exact .inr (.inr h')
    · rintro (h' | (h' | h'))
      · exact .inl (.inr h')
      · exact .inl (.inl h')
      · exact .inr h'

theorem placed_rising (l : List (List UInt8)) : rising (placed l) = true := (placed_aux l [] rfl).1
theorem mem_placed (l : List (List UInt8)) (x : List UInt8) : x ∈ placed l ↔ x ∈ l := by
  have := (placed_aux l [] rfl).2 x
  unfold placed
  simpa using this

/-- In whatever order they come. -/
theorem placed_eq {l m : List (List UInt8)} (h : ∀ x, x ∈ l ↔ x ∈ m) : placed l = placed m :=
  rising_ext (placed_rising l) (placed_rising m) fun x => by rw [mem_placed, mem_placed, h]
end Go.Proofs.Ytmfchlbafpkgaaa.Plain

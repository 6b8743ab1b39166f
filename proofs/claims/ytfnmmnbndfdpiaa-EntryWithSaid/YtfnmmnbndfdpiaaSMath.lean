/-
  Plain mathematics of a stable sort by merging in place: rows whose places are turned, and what bears one key stays in order.
-/
import Derived.Sort.LotA
import Derived.Sort.Lot0
import Derived.Sort.WalkA
namespace Go.Proofs.Ytfnmmnbndfdpiaa
open Go.Sort
section
variable {α : Type}

/-- The elements of a row from s on, so many. -/
def seg (f : Nat → α) (s n : Nat) : List α := (List.range' s n).map f

theorem seg_append (f : Nat → α) (s n m : Nat) : seg f s (n + m) = seg f s n ++ seg f (s + n) m := by
  unfold seg
  rw [← List.map_append, List.range'_append_1]

theorem seg_congr {f g : Nat → α} {s t n : Nat} (h : ∀ i, i < n → f (s + i) = g (t + i)) : seg f s n = seg g t n := by
  unfold seg
  apply List.ext_getElem (by simp)
  intro i h1 h2
  simp at h1
  simpa using h i h1

theorem mem_seg {f : Nat → α} {s n : Nat} {x : α} : x ∈ seg f s n ↔ ∃ i, s ≤ i ∧ i < s + n ∧ f i = x := by
  unfold seg
  simp only [List.mem_map, List.mem_range'_1]
  constructor
  · rintro ⟨a, ⟨h1, h2⟩, h3⟩; exact ⟨a, h1, h2, h3⟩
  · rintro ⟨a, h1, h2, h3⟩; exact ⟨a, ⟨h1, h2⟩, h3⟩

/-- Two neighbouring parts of a row, [a, m) and [m, b), exchanged. -/
def rotF (f : Nat → α) (a m b : Nat) : Nat → α := fun i => if i < a then f i else if i < a + (b - m) then f (i + (m - a)) else if i < b then f (i - (b - m)) else f i

theorem rotF_none (f : Nat → α) (a b : Nat) : rotF f a a b = f := by
  funext i
  unfold rotF
  by_cases h1 : i < a
  · rw [if_pos h1]
  · by_cases h2 : i < a + (b - a)
    · rw [if_neg h1, if_pos h2]; congr 1; omega
    · rw [if_neg h1, if_neg h2, if_neg (by omega)]

theorem rotF_none2 (f : Nat → α) (a b : Nat) (_h : a ≤ b) : rotF f a b b = f := by
  funext i
  unfold rotF
  by_cases h1 : i < a
  · rw [if_pos h1]
  · rw [if_neg h1, if_neg (by omega)]
    by_cases h2 : i < b
    · rw [if_pos h2]; congr 1; omega
    · rw [if_neg h2]

/-- Two parts of a row of one length n, from p and from q on, exchanged. -/
def swapF (f : Nat → α) (p q n : Nat) : Nat → α := fun i => if p ≤ i ∧ i < p + n then f (i - p + q) else if q ≤ i ∧ i < q + n then f (i - q + p) else f i

theorem swapF_zero (f : Nat → α) (p q : Nat) : swapF f p q 0 = f := by
  funext i
  unfold swapF
  rw [if_neg (by omega), if_neg (by omega)]

/-- A turn of two parts, the first one longer: its beginning and the second part exchanged. -/
theorem rot_left (f : Nat → α) (m i j : Nat) (hi : i ≤ m) (hij : j < i) : rotF (swapF f (m - i) m j) (m - (i - j)) m (m + j) = rotF f (m - i) m (m + j) := by
  funext x
  unfold rotF swapF
  by_cases a1 : x < m - i
  · rw [if_pos (by omega), if_neg (by omega), if_neg (by omega), if_pos a1]
  · by_cases a2 : x < m - (i - j)
    · rw [if_pos a2, if_pos (by omega), if_neg a1, if_pos (by omega)]; congr 1; omega
    · by_cases a3 : x < m - (i - j) + (m + j - m)
      · rw [if_neg a2, if_pos a3, if_neg (by omega), if_pos (by omega), if_neg a1, if_neg (by omega), if_pos (by omega)]; congr 1; omega
      · by_cases a4 : x < m + j
        · rw [if_neg a2, if_neg a3, if_pos a4, if_neg (by omega), if_neg (by omega), if_neg a1, if_neg (by omega), if_pos a4]
        · rw [if_neg a2, if_neg a3, if_neg a4, if_neg (by omega), if_neg (by omega), if_neg a1, if_neg (by omega), if_neg a4]

/-- .. the second one longer: its end and the first part exchanged. -/
theorem rot_right (f : Nat → α) (m i j : Nat) (hi : i ≤ m) (hij : i < j) : rotF (swapF f (m - i) (m + j - i) i) (m - i) m (m + (j - i)) = rotF f (m - i) m (m + j) := by
  funext x
  unfold rotF swapF
  (repeat' split) <;> first | rfl | omega | (congr 1; omega)

/-- .. both of one length. -/
theorem rot_even (f : Nat → α) (m i : Nat) (hi : i ≤ m) : swapF f (m - i) m i = rotF f (m - i) m (m + i) := by
  funext x
  unfold rotF swapF
  by_cases a1 : x < m - i
  · rw [if_neg (by omega), if_neg (by omega), if_pos a1]
  · by_cases a2 : x < m
    · rw [if_pos (by omega), if_neg a1, if_pos (by omega)]; congr 1; omega
    · by_cases a3 : x < m + i
      · rw [if_neg (by omega), if_pos (by omega), if_neg a1, if_neg (by omega), if_pos a3]; congr 1; omega
      · rw [if_neg (by omega), if_neg (by omega), if_neg a1, if_neg (by omega), if_neg a3]

/-- The range in which the symmetric merge looks for its first place. -/
def symLo (a m b mid : Nat) : Nat := if mid < m then mid + m - b else a
def symHi (m mid : Nat) : Nat := if mid < m then mid else m

end

section
variable {α : Type} {κ : Type} [DecidableEq κ]

/-- The rows are of one length, and what bears one key stands in one order in both. -/
def Stab (key : α → κ) (d d' : Array α) : Prop := d'.size = d.size ∧ ∀ c, d'.toList.filter (fun x => decide (key x = c)) = d.toList.filter (fun x => decide (key x = c))

theorem Stab.refl (key : α → κ) (d : Array α) : Stab key d d := ⟨rfl, fun _ => rfl⟩
theorem Stab.trans {key : α → κ} {d d' d'' : Array α} (h : Stab key d d') (k : Stab key d' d'') : Stab key d d'' := ⟨k.1.trans h.1, fun c => (k.2 c).trans (h.2 c)⟩

end

section
variable {α : Type} {lt : α → α → Bool}

theorem swo_le_lt (hO : SWO lt) {x y z : α} (h1 : lt y x = false) (h2 : lt y z = true) : lt x z = true := by
  cases h : lt x z with
  | true => rfl
  | false => have := hO.ntrans _ _ _ h1 h; rw [h2] at this; cases this

theorem swo_lt_le (hO : SWO lt) {x y z : α} (h1 : lt x y = true) (h2 : lt z y = false) : lt x z = true := by
  cases h : lt x z with
  | true => rfl
  | false => have := hO.ntrans _ _ _ h h2; rw [h1] at this; cases this

end

section
variable {α : Type} [Inhabited α] {κ : Type} [DecidableEq κ] {lt : α → α → Bool}

theorem toList_seg (d : Array α) : d.toList = seg (fun i => d[i]!) 0 d.size := by
  unfold seg
  apply List.ext_getElem (by simp)
  intro i h1 h2
  have : i < d.size := by simpa using h1
  simp [this]

theorem swapF_next (f : Nat → α) (d : Array α) (p q n k : Nat) (hd : ∀ i, d[i]! = swapF f p q k i) (hk : k < n) (hpq : p + n ≤ q) (hq : q + n ≤ d.size) :
    ∀ i, (swp d (p + k) (q + k))[i]! = swapF f p q (k + 1) i := by
  intro i
  rw [swp_get d (by omega) (by omega), hd, hd, hd]
  unfold swapF
  (repeat' split) <;> first | rfl | omega | (congr 1; omega)

/-- One element goes to the right by one place. -/
theorem rot_up (f : Nat → α) (d : Array α) (a k : Nat) (hd : ∀ i, d[i]! = rotF f a (a + 1) (k + 1) i) (hak : a ≤ k) (hk : k + 1 < d.size) : ∀ i, (swp d k (k + 1))[i]! = rotF f a (a + 1) (k + 2) i := by
  intro i
  rw [swp_get d (by omega) (by omega), hd, hd, hd]
  unfold rotF
  by_cases e1 : i = k + 1
  · subst e1
    rw [if_pos rfl, if_neg (by omega), if_neg (by omega), if_pos (by omega), if_neg (by omega), if_neg (by omega), if_pos (by omega)]
    congr 1; omega
  · rw [if_neg e1]
    by_cases e2 : i = k
    · subst e2
      rw [if_pos rfl, if_neg (by omega), if_neg (by omega), if_neg (by omega), if_neg (by omega), if_pos (by omega)]
      congr 1; omega
    · rw [if_neg e2]
      by_cases c1 : i < a
      · rw [if_pos c1, if_pos c1]
      · by_cases c2 : i < k
        · rw [if_neg c1, if_pos (by omega), if_neg c1, if_pos (by omega)]
        · rw [if_neg c1, if_neg (by omega), if_neg (by omega), if_neg c1, if_neg (by omega), if_neg (by omega)]

/-- One element goes to the left by one place. -/
theorem rot_down (f : Nat → α) (d : Array α) (m k : Nat) (hd : ∀ i, d[i]! = rotF f (k + 1) m (m + 1) i) (hkm : k + 1 ≤ m) (hm : m < d.size) : ∀ i, (swp d (k + 1) k)[i]! = rotF f k m (m + 1) i := by
  intro i
  rw [swp_get d (by omega) (by omega), hd, hd, hd]
  unfold rotF
  (repeat' split) <;> first | rfl | omega | (congr 1; omega)

theorem rot_stab (key : α → κ) (d d' : Array α) (a m b : Nat) (ham : a ≤ m) (hmb : m ≤ b) (hb : b ≤ d.size) (hs : d'.size = d.size) (hd : ∀ i, d'[i]! = rotF (fun i => d[i]!) a m b i)
    (hk : ∀ x y, a ≤ x → x < m → m ≤ y → y < b → key d[x]! ≠ key d[y]!) : Stab key d d' := by
  refine ⟨hs, fun c => ?_⟩
  have e1 : d.toList = seg (fun i => d[i]!) 0 a ++ (seg (fun i => d[i]!) a (m - a) ++ (seg (fun i => d[i]!) m (b - m) ++ seg (fun i => d[i]!) b (d.size - b))) := by
    rw [toList_seg]
    conv => lhs; rw [show d.size = a + ((m - a) + ((b - m) + (d.size - b))) by omega]
    rw [seg_append, seg_append, seg_append]
    simp only [Nat.zero_add, show a + (m - a) = m by omega, show m + (b - m) = b by omega]
  have e2 : d'.toList = seg (fun i => d[i]!) 0 a ++ (seg (fun i => d[i]!) m (b - m) ++ (seg (fun i => d[i]!) a (m - a) ++ seg (fun i => d[i]!) b (d.size - b))) := by
    rw [toList_seg]
    conv => lhs; rw [show d'.size = a + ((b - m) + ((m - a) + (d.size - b))) by omega]
    rw [seg_append, seg_append, seg_append]
    congr 1
    · exact seg_congr fun i hi => by rw [hd]; unfold rotF; rw [if_pos (by omega)]
    · congr 1
      · refine seg_congr fun i hi => ?_
        rw [hd]; unfold rotF; rw [if_neg (by omega), if_pos (by omega)]; congr 1; omega
      · congr 1
        · refine seg_congr fun i hi => ?_
          rw [hd]; unfold rotF; rw [if_neg (by omega), if_neg (by omega), if_pos (by omega)]; congr 1; omega
        · refine seg_congr fun i hi => ?_
          rw [hd]; unfold rotF; rw [if_neg (by omega), if_neg (by omega), if_neg (by omega)]; congr 1; omega
  rw [e1, e2]
  simp only [List.filter_append]
  congr 1
  rw [← List.append_assoc, ← List.append_assoc]
  congr 1
  by_cases hc : ∃ x ∈ seg (fun i => d[i]!) a (m - a), key x = c
  · obtain ⟨x, hx, rfl⟩ := hc
    obtain ⟨i, h1, h2, rfl⟩ := mem_seg.1 hx
    have : (seg (fun i => d[i]!) m (b - m)).filter (fun y => decide (key y = key d[i]!)) = [] := by
      apply List.filter_eq_nil_iff.2
      intro y hy
      obtain ⟨j, h3, h4, rfl⟩ := mem_seg.1 hy
      simpa using (hk i j h1 (by omega) h3 (by omega)).symm
    rw [this]; simp
  · have : (seg (fun i => d[i]!) a (m - a)).filter (fun y => decide (key y = c)) = [] := by
      apply List.filter_eq_nil_iff.2
      intro y hy
      simpa using fun h => hc ⟨y, hy, h⟩
    rw [this]; simp

/-- d' is d with the places from a to b turned among themselves, and what bears one key in its order. -/
structure Merged (key : α → κ) (a b : Nat) (d d' : Array α) : Prop where
  stab : Stab key d d'
  out : ∀ i, i < a ∨ b ≤ i → d'[i]! = d[i]!
  ins : ∀ i, a ≤ i → i < b → ∃ j, a ≤ j ∧ j < b ∧ d'[i]! = d[j]!

theorem Merged.refl (key : α → κ) (a b : Nat) (d : Array α) : Merged key a b d d := ⟨.refl _ _, fun _ _ => rfl, fun i h1 h2 => ⟨i, h1, h2, rfl⟩⟩
theorem Merged.trans {key : α → κ} {a b : Nat} {d d' d'' : Array α} (h : Merged key a b d d') (k : Merged key a b d' d'') : Merged key a b d d'' :=
  ⟨h.stab.trans k.stab, fun i hi => (k.out i hi).trans (h.out i hi), fun i h1 h2 => by
    obtain ⟨j, g1, g2, e⟩ := k.ins i h1 h2
    obtain ⟨x, f1, f2, e'⟩ := h.ins j g1 g2
    exact ⟨x, f1, f2, e.trans e'⟩⟩
theorem Merged.mono {key : α → κ} {a b a' b' : Nat} {d d' : Array α} (h : Merged key a b d d') (ha : a' ≤ a) (hb : b ≤ b') : Merged key a' b' d d' :=
  ⟨h.stab, fun i hi => h.out i (by omega), fun i h1 h2 => by
    by_cases c : a ≤ i ∧ i < b
    · obtain ⟨j, g1, g2, e⟩ := h.ins i c.1 c.2
      exact ⟨j, by omega, by omega, e⟩
    · exact ⟨i, h1, h2, h.out i (by omega)⟩⟩

theorem rot_merged (key : α → κ) (d d' : Array α) (a m b : Nat) (ham : a ≤ m) (hmb : m ≤ b) (hb : b ≤ d.size) (hs : d'.size = d.size) (hd : ∀ i, d'[i]! = rotF (fun i => d[i]!) a m b i)
    (hk : ∀ x y, a ≤ x → x < m → m ≤ y → y < b → key d[x]! ≠ key d[y]!) : Merged key a b d d' := by
  refine ⟨rot_stab key d d' a m b ham hmb hb hs hd hk, fun i hi => ?_, fun i h1 h2 => ?_⟩
  · rw [hd]; unfold rotF
    rcases hi with h | h
    · rw [if_pos h]
    · rw [if_neg (by omega), if_neg (by omega), if_neg (by omega)]
  · by_cases c : i < a + (b - m)
    · exact ⟨i + (m - a), by omega, by omega, by rw [hd]; unfold rotF; rw [if_neg (by omega), if_pos c]⟩
    · exact ⟨i - (b - m), by omega, by omega, by rw [hd]; unfold rotF; rw [if_neg (by omega), if_neg c, if_pos h2]⟩


theorem SortedIn.sub {a b a' b' : Nat} {d : Array α} (h : SortedIn lt a b d) (ha : a ≤ a') (hb : b' ≤ b) : SortedIn lt a' b' d := fun i j h1 h2 h3 => h i j (by omega) h2 (by omega)
theorem SortedIn.same {a b : Nat} {d d' : Array α} (h : SortedIn lt a b d) (e : ∀ i, a ≤ i → i < b → d'[i]! = d[i]!) : SortedIn lt a b d' := fun i j h1 h2 h3 => by
  rw [e i h1 (by omega), e j (by omega) h3]; exact h i j h1 h2 h3

/-- No element of [m, b) is less than one of [a, m): then both sorted parts are one. -/
theorem sorted_join {a m b : Nat} {d : Array α} (h1 : SortedIn lt a m d) (h2 : SortedIn lt m b d) (h3 : ∀ x y, a ≤ x → x < m → m ≤ y → y < b → lt d[y]! d[x]! = false) : SortedIn lt a b d := fun i j g1 g2 g3 => by
  by_cases c : j < m
  · exact h1 i j g1 g2 c
  · by_cases e : i < m
    · exact h3 i j g1 e (by omega) g3
    · exact h2 i j (by omega) g2 g3

/-- What is turned into one sorted row by one exchange of neighbouring parts. -/
theorem rot_sorted (hO : SWO lt) (key : α → κ) (hkey : ∀ x y, lt x y = true → key x ≠ key y) (d d' : Array α) (a m b s e : Nat) (has : a ≤ s) (hsm : s ≤ m) (hme : m ≤ e) (heb : e ≤ b) (hb : b ≤ d.size) (hs : d'.size = d.size)
    (hd : ∀ i, d'[i]! = rotF (fun i => d[i]!) s m e i) (s1 : SortedIn lt a m d) (s2 : SortedIn lt m b d)
    (c1 : ∀ x y, s ≤ x → x < m → m ≤ y → y < e → lt d[y]! d[x]! = true) (c2 : ∀ x y, a ≤ x → x < s → m ≤ y → y < b → lt d[y]! d[x]! = false) (c3 : ∀ x y, s ≤ x → x < m → e ≤ y → y < b → lt d[y]! d[x]! = false) :
    SortedIn lt a b d' ∧ Merged key a b d d' := by
  refine ⟨fun i j h1 h2 h3 => ?_, (rot_merged key d d' s m e hsm hme (by omega) hs hd (fun x y h1 h2 h3 h4 => fun h => hkey _ _ (c1 x y h1 h2 h3 h4) h.symm)).mono has heb⟩
  rw [hd, hd]
  unfold rotF
  by_cases i1 : i < s
  · rw [if_pos i1]
    by_cases j1 : j < s
    · rw [if_pos j1]; exact s1 i j h1 h2 (by omega)
    · rw [if_neg j1]
      by_cases j2 : j < s + (e - m)
      · rw [if_pos j2]; exact c2 i _ h1 i1 (by omega) (by omega)
      · rw [if_neg j2]
        by_cases j3 : j < e
        · rw [if_pos j3]; exact s1 _ _ h1 (by omega) (by omega)
        · rw [if_neg j3]; exact c2 i _ h1 i1 (by omega) h3
  · rw [if_neg i1]
    by_cases i2 : i < s + (e - m)
    · rw [if_pos i2, if_neg (by omega)]
      by_cases j2 : j < s + (e - m)
      · rw [if_pos j2]; exact s2 _ _ (by omega) (by omega) (by omega)
      · rw [if_neg j2]
        by_cases j3 : j < e
        · rw [if_pos j3]; exact hO.asymmA (c1 _ _ (by omega) (by omega) (by omega) (by omega))
        · rw [if_neg j3]; exact s2 _ _ (by omega) (by omega) h3
    · rw [if_neg i2, if_neg (by omega), if_neg (by omega)]
      by_cases i3 : i < e
      · rw [if_pos i3]
        by_cases j3 : j < e
        · rw [if_pos j3]; exact s1 _ _ (by omega) (by omega) (by omega)
        · rw [if_neg j3]; exact c3 _ _ (by omega) (by omega) (by omega) h3
      · rw [if_neg i3, if_neg (by omega)]; exact s2 _ _ (by omega) h2 h3

/-- One element ahead of a sorted row goes to its place. -/
theorem insert_left (hO : SWO lt) (key : α → κ) (hkey : ∀ x y, lt x y = true → key x ≠ key y) (d d' : Array α) (a b i : Nat) (hi : a + 1 ≤ i) (hib : i ≤ b) (hb : b ≤ d.size) (hs : d'.size = d.size) (hd : ∀ x, d'[x]! = rotF (fun x => d[x]!) a (a + 1) i x)
    (s2 : SortedIn lt (a + 1) b d) (h1 : a + 1 < i → lt d[i - 1]! d[a]! = true) (h2 : i < b → lt d[i]! d[a]! = false) : SortedIn lt a b d' ∧ Merged key a b d d' := by
  refine rot_sorted hO key hkey d d' a (a + 1) b a i (Nat.le_refl _) (by omega) hi hib hb hs hd (fun x y g1 g2 g3 => by omega) s2 (fun x y g1 g2 g3 g4 => ?_) (fun x y g1 g2 g3 g4 => by omega) (fun x y g1 g2 g3 g4 => ?_)
  · obtain rfl : x = a := by omega
    by_cases e : y = i - 1
    · subst e; exact h1 (by omega)
    · exact swo_le_lt hO (s2 y (i - 1) g3 (by omega) (by omega)) (h1 (by omega))
  · obtain rfl : x = a := by omega
    by_cases e : y = i
    · subst e; exact h2 g4
    · exact hO.ntrans _ _ _ (s2 i y hi (by omega) g4) (h2 (by omega))

/-- One element behind a sorted row goes to its place. -/
theorem insert_right (hO : SWO lt) (key : α → κ) (hkey : ∀ x y, lt x y = true → key x ≠ key y) (d d' : Array α) (a m i : Nat) (hi : a ≤ i) (him : i ≤ m) (hb : m + 1 ≤ d.size) (hs : d'.size = d.size) (hd : ∀ x, d'[x]! = rotF (fun x => d[x]!) i m (m + 1) x)
    (s1 : SortedIn lt a m d) (h1 : a < i → lt d[m]! d[i - 1]! = false) (h2 : i < m → lt d[m]! d[i]! = true) : SortedIn lt a (m + 1) d' ∧ Merged key a (m + 1) d d' := by
  refine rot_sorted hO key hkey d d' a m (m + 1) i (m + 1) hi him (by omega) (Nat.le_refl _) hb hs hd s1 (fun x y g1 g2 g3 => by omega) (fun x y g1 g2 g3 g4 => ?_) (fun x y g1 g2 g3 g4 => ?_) (fun x y g1 g2 g3 g4 => by omega)
  · obtain rfl : y = m := by omega
    by_cases e : x = i
    · subst e; exact h2 g2
    · exact swo_lt_le hO (h2 (by omega)) (s1 i x hi (by omega) g2)
  · obtain rfl : y = m := by omega
    by_cases e : x = i - 1
    · subst e; exact h1 (by omega)
    · exact hO.ntrans _ _ _ (h1 (by omega)) (s1 x (i - 1) g1 (by omega) (by omega))

/-- What one step of the symmetric merge leaves: both halves in two sorted parts each, and nothing of the second half is less than anything of the first one. -/
structure Split (lt : α → α → Bool) (key : α → κ) (a b start mid en : Nat) (d d1 : Array α) : Prop where
  l1 : SortedIn lt a start d1
  l2 : SortedIn lt start mid d1
  r1 : SortedIn lt mid en d1
  r2 : SortedIn lt en b d1
  cross : ∀ x y, a ≤ x → x < mid → mid ≤ y → y < b → lt d1[y]! d1[x]! = false
  merged : Merged key a b d d1

theorem sym_split (hO : SWO lt) (key : α → κ) (hkey : ∀ x y, lt x y = true → key x ≠ key y) (d d1 : Array α) (a m b mid start en : Nat) (ham : a < m) (_hmb : m < b) (hb : b ≤ d.size) (hmid : mid = (a + b) / 2) (hen : en + start = mid + m)
    (hlo : symLo a m b mid ≤ start) (hhi : start ≤ symHi m mid) (hP : start < symHi m mid → lt d[mid + m - 1 - start]! d[start]! = true) (hQ : symLo a m b mid < start → lt d[mid + m - start]! d[start - 1]! = false)
    (hs : d1.size = d.size) (hd : ∀ i, d1[i]! = rotF (fun i => d[i]!) start m en i) (s1 : SortedIn lt a m d) (s2 : SortedIn lt m b d) : Split lt key a b start mid en d d1 ∧ a ≤ start ∧ start ≤ mid ∧ start ≤ m ∧ mid ≤ en ∧ m ≤ en ∧ en ≤ b := by
  have h1 : a ≤ start ∧ start ≤ mid ∧ start ≤ m ∧ mid ≤ en ∧ m ≤ en ∧ en ≤ b := by
    unfold symLo at hlo; unfold symHi at hhi
    by_cases c : mid < m
    · rw [if_pos c] at hlo hhi; omega
    · rw [if_neg c] at hlo hhi; omega
  obtain ⟨has, hsm, hsm', hme, hme', heb⟩ := h1
  -- all of [m, en) is less than all of [start, m)
  have c1 : ∀ x y, start ≤ x → x < m → m ≤ y → y < en → lt d[y]! d[x]! = true := by
    intro x y g1 g2 g3 g4
    have hst : start < symHi m mid := by
      unfold symHi
      by_cases c : mid < m
      · rw [if_pos c]
        by_cases e : start = mid
        · omega
        · omega
      · rw [if_neg c]; omega
    have h := hP hst
    rw [show mid + m - 1 - start = en - 1 by omega] at h
    have h2 : lt d[y]! d[start]! = true := by
      by_cases e : y = en - 1
      · rw [e]; exact h
      · exact swo_le_lt hO (s2 y (en - 1) g3 (by omega) (by omega)) h
    by_cases e : x = start
    · rw [e]; exact h2
    · exact swo_lt_le hO h2 (s1 start x has (by omega) g2)
  -- nothing of [en, b) is less than anything of [a, start)
  have c2 : ∀ x y, a ≤ x → x < start → en ≤ y → y < b → lt d[y]! d[x]! = false := by
    intro x y g1 g2 g3 g4
    have hst : symLo a m b mid < start := by
      unfold symLo
      by_cases c : mid < m
      · rw [if_pos c]; omega
      · rw [if_neg c]; omega
    have h := hQ hst
    rw [show mid + m - start = en by omega] at h
    have h2 : lt d[y]! d[start - 1]! = false := by
      by_cases e : y = en
      · rw [e]; exact h
      · exact hO.ntrans _ _ _ (s2 en y hme' (by omega) g4) h
    by_cases e : x = start - 1
    · rw [e]; exact h2
    · exact hO.ntrans _ _ _ h2 (s1 x (start - 1) g1 (by omega) (by omega))
  have hM := rot_merged key d d1 start m en hsm' hme' (by omega) hs hd (fun x y g1 g2 g3 g4 => fun h => hkey _ _ (c1 x y g1 g2 g3 g4) h.symm)
  have z1 : ∀ i, i < start → d1[i]! = d[i]! := fun i hi => by rw [hd]; unfold rotF; rw [if_pos hi]
  have z2 : ∀ i, start ≤ i → i < mid → d1[i]! = d[i + (m - start)]! := fun i h1 h2 => by rw [hd]; unfold rotF; rw [if_neg (by omega), if_pos (by omega)]
  have z3 : ∀ i, mid ≤ i → i < en → d1[i]! = d[i - (en - m)]! := fun i h1 h2 => by rw [hd]; unfold rotF; rw [if_neg (by omega), if_neg (by omega), if_pos h2]
  have z4 : ∀ i, en ≤ i → d1[i]! = d[i]! := fun i h1 => by rw [hd]; unfold rotF; rw [if_neg (by omega), if_neg (by omega), if_neg (by omega)]
  refine ⟨⟨fun i j g1 g2 g3 => ?_, fun i j g1 g2 g3 => ?_, fun i j g1 g2 g3 => ?_, fun i j g1 g2 g3 => ?_, fun x y g1 g2 g3 g4 => ?_, hM.mono has heb⟩, has, hsm, hsm', hme, hme', heb⟩
  · rw [z1 i (by omega), z1 j g3]; exact s1 i j g1 g2 (by omega)
  · rw [z2 i g1 (by omega), z2 j (by omega) g3]; exact s2 _ _ (by omega) (by omega) (by omega)
  · rw [z3 i g1 (by omega), z3 j (by omega) g3]; exact s1 _ _ (by omega) (by omega) (by omega)
  · rw [z4 i g1, z4 j (by omega)]; exact s2 _ _ (by omega) g2 g3
  · by_cases x1 : x < start
    · rw [z1 _ x1]
      by_cases y1 : y < en
      · rw [z3 _ g3 y1]; exact s1 _ _ g1 (by omega) (by omega)
      · rw [z4 _ (by omega)]; exact c2 x y g1 x1 (by omega) g4
    · rw [z2 _ (by omega) g2]
      by_cases y1 : y < en
      · rw [z3 _ g3 y1]; exact hO.asymmA (c1 _ _ (by omega) (by omega) (by omega) (by omega))
      · rw [z4 _ (by omega)]; exact s2 _ _ (by omega) (by omega) g4

/-- Both halves sorted: all is. -/
theorem sym_end {key : α → κ} {a b start mid en : Nat} {d d1 d2 d3 : Array α} (h : Split lt key a b start mid en d d1) (ham : a ≤ mid) (hmb : mid ≤ b) (m2 : Merged key a mid d1 d2) (t2 : SortedIn lt a mid d2) (m3 : Merged key mid b d2 d3) (t3 : SortedIn lt mid b d3) :
    SortedIn lt a b d3 ∧ Merged key a b d d3 := by
  refine ⟨sorted_join (SortedIn.same t2 fun i _ h2 => m3.out i (.inl h2)) t3 fun x y g1 g2 g3 g4 => ?_, (h.merged.trans (m2.mono (Nat.le_refl _) hmb)).trans (m3.mono ham (Nat.le_refl _))⟩
  obtain ⟨y', k1, k2, e⟩ := m3.ins y g3 g4
  rw [e, m3.out x (.inl g2), m2.out y' (.inr k1)]
  obtain ⟨x', k3, k4, e'⟩ := m2.ins x g1 g2
  rw [e']
  exact h.cross x' y' k3 k4 k1 k2

/-- A neighbouring pair out of order is exchanged. -/
theorem swp_stab (key : α → κ) (hkey : ∀ x y, lt x y = true → key x ≠ key y) (d : Array α) (j : Nat) (hj : j + 1 < d.size) (hl : lt d[j + 1]! d[j]! = true) : Stab key d (swp d (j + 1) j) := by
  refine rot_stab key d _ j (j + 1) (j + 2) (by omega) (by omega) hj (size_swp _ _ _) (rot_down (fun i => d[i]!) d (j + 1) j (fun i => by rw [rotF_none]) (Nat.le_refl _) hj) fun x y h1 h2 h3 h4 => ?_
  obtain rfl : x = j := by omega
  obtain rfl : y = x + 1 := by omega
  exact (hkey _ _ hl).symm

theorem insInner_stab (key : α → κ) (hkey : ∀ x y, lt x y = true → key x ≠ key y) (a : Nat) : ∀ (j : Nat) (d : Array α), j < d.size → Stab key d (insInner lt a j d)
  | 0, d, _ => by unfold insInner; exact .refl _ _
  | j + 1, d, hj => by
    unfold insInner
    split
    · rename_i hc
      simp only [Bool.and_eq_true, decide_eq_true_eq] at hc
      exact (swp_stab key hkey d j hj hc.2).trans (insInner_stab key hkey a j _ (by rw [size_swp]; omega))
    · exact .refl _ _

theorem insOuter_stab (key : α → κ) (hkey : ∀ x y, lt x y = true → key x ≠ key y) (a b : Nat) : ∀ (n i : Nat) (d : Array α), b - i = n → b ≤ d.size → Stab key d (insOuter lt a b i d)
  | 0, i, d, hn, _ => by rw [insOuter, if_neg (by omega)]; exact .refl _ _
  | n + 1, i, d, hn, hb => by
    rw [insOuter, if_pos (by omega)]
    have h := insInner_stab key hkey a i d (by omega)
    exact h.trans (insOuter_stab key hkey a b n (i + 1) _ (by omega) (by rw [h.1]; exact hb))

theorem insertion_merged (hO : SWO lt) (key : α → κ) (hkey : ∀ x y, lt x y = true → key x ≠ key y) (d : Array α) (a b : Nat) (hab : a ≤ b) (hb : b ≤ d.size) :
    SortedIn lt a b (insertionSort lt d a b) ∧ Merged key a b d (insertionSort lt d a b) := by
  have h := insertionSort_holds (lt := lt) hO d a b hab hb
  exact ⟨h.2, insOuter_stab key hkey a b _ (a + 1) d rfl hb, h.1.2.1, permIn_all d _ a b (fun x => ∃ j, a ≤ j ∧ j < b ∧ x = d[j]!) hb h.1 fun i h1 h2 => ⟨i, h1, h2, rfl⟩⟩

/-- From lo to hi, within each block of bs places, the row is sorted. -/
def Runs (lt : α → α → Bool) (bs lo hi : Nat) (d : Array α) : Prop := ∀ i j, lo ≤ i → i < j → j < hi → i / bs = j / bs → lt d[j]! d[i]! = false

theorem runs_none (bs a : Nat) (d : Array α) : Runs lt bs a a d := fun i j h1 h2 h3 => by omega

theorem runs_sub {bs lo lo' hi : Nat} {d : Array α} (h : Runs lt bs lo hi d) (hl : lo ≤ lo') : Runs lt bs lo' hi d := fun i j h1 h2 h3 => h i j (by omega) h2 h3
theorem runs_same {bs lo hi : Nat} {d d' : Array α} (h : Runs lt bs lo hi d) (e : ∀ i, lo ≤ i → i < hi → d'[i]! = d[i]!) : Runs lt bs lo hi d' := fun i j h1 h2 h3 h4 => by
  rw [e i h1 (by omega), e j (by omega) h3]; exact h i j h1 h2 h3 h4

/-- The next block is sorted, too. -/
theorem runs_grow {bs a e q : Nat} {d d' : Array α} (hq : a = bs * q) (hbs : 0 < bs) (h : Runs lt bs 0 a d) (hs : ∀ i, i < a → d'[i]! = d[i]!) (hn : SortedIn lt a e d') : Runs lt bs 0 e d' := fun i j h1 h2 h3 h4 => by
  by_cases c : j < a
  · rw [hs i (by omega), hs j c]; exact h i j h1 h2 c h4
  · by_cases g : i < a
    · exfalso
      have e1 : i / bs < q := Nat.div_lt_of_lt_mul (by rw [← hq]; exact g)
      have e2 : q ≤ j / bs := (Nat.le_div_iff_mul_le hbs).2 (by rw [Nat.mul_comm, ← hq]; omega)
      omega
    · exact hn i j (by omega) h2 h3

theorem runs_sorted {bs a e hi q : Nat} {d : Array α} (hq : a = bs * q) (h : Runs lt bs a hi d) (he : e ≤ a + bs) (heh : e ≤ hi) : SortedIn lt a e d := fun i j h1 h2 h3 => by
  have hk : ∀ x, a ≤ x → x < e → x / bs = q := fun x g1 g2 => Nat.div_eq_of_lt_le (by rw [Nat.mul_comm, ← hq]; exact g1) (by rw [Nat.add_mul, Nat.one_mul, Nat.mul_comm, ← hq]; omega)
  exact h i j h1 h2 (by omega) ((hk i h1 (by omega)).trans (hk j (by omega) h3).symm)

end
end Go.Proofs.Ytfnmmnbndfdpiaa

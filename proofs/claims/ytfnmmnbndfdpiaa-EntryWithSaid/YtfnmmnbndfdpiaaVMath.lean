/-
  Plain mathematics of numbers in as few bytes as they need: the bytes of a number, of a row of numbers, and what stands in any bytes. Nothing of the program stands here.
-/
import Derived.Lib.BitFns
namespace Go.Proofs.Ytfnmmnbndfdpiaa.Plain

/-- How many bytes a number needs, one at least. -/
def nbF : Nat → Nat → Nat
  | 0, _ => 1
  | k + 1, n => if n < 256 then 1 else nbF k (n / 256) + 1
def nb (n : Nat) : Nat := nbF 8 n
/-- The m lowest bytes of n, the lowest one first. -/
def low : Nat → Nat → List UInt8
  | _, 0 => []
  | n, m + 1 => UInt8.ofNat (n % 256) :: low (n / 256) m
def enc (n : Nat) : List UInt8 := if n ≤ 247 then [UInt8.ofNat n] else UInt8.ofNat (247 + nb n) :: low n (nb n)
def size (n : Nat) : Nat := if n ≤ 247 then 1 else 1 + nb n
def encs (l : List Nat) : List UInt8 := l.flatMap enc
def val : List UInt8 → Nat
  | [] => 0
  | b :: r => b.toNat + 256 * val r
/-- What stands at the beginning of bytes: the number, how many bytes, the error. -/
def getL : List UInt8 → Nat × Nat × Nat
  | [] => (0, 0, 3)
  | b :: r => if b.toNat ≤ 247 then (b.toNat, 1, 0) else if r.length < b.toNat - 247 then (0, 0, 3) else
    if size (val (r.take (b.toNat - 247))) = 1 + (b.toNat - 247) then (val (r.take (b.toNat - 247)), 1 + (b.toNat - 247), 0) else (0, 0, 5)
def get (s : List UInt8) (at' : Int) : Nat × Int × Nat :=
  if at' < 0 ∨ (s.length : Int) ≤ at' then (0, at', 3) else ((getL (s.drop at'.toNat)).1, at' + ((getL (s.drop at'.toNat)).2.1 : Nat), (getL (s.drop at'.toNat)).2.2)
/-- Numbers, one behind the other, behind those that have been had. -/
def rowFrom (s : List UInt8) : Nat → List Nat → Int → List Nat × Int × Nat
  | 0, acc, p => (acc, p, 0)
  | k + 1, acc, p => if (get s p).2.2 = 0 then rowFrom s k (acc ++ [(get s p).1]) (get s p).2.1 else ([], (get s p).2.1, (get s p).2.2)
def row (s : List UInt8) (at' : Int) (many : Int) : List Nat × Int × Nat := rowFrom s many.toNat [] at'

theorem nbF_bounds : ∀ (k n : Nat), n < 256 ^ (k + 1) → 1 ≤ nbF k n ∧ nbF k n ≤ k + 1 ∧ n < 256 ^ nbF k n ∧ (2 ≤ nbF k n → 256 ^ (nbF k n - 1) ≤ n)
  | 0, n, h => by simp [nbF] at h ⊢; exact h
  | k + 1, n, h => by
    unfold nbF
    split
    · rename_i h2
      exact ⟨Nat.le_refl _, by omega, by simpa using h2, by omega⟩
    · rename_i h2
      have hd : n / 256 < 256 ^ (k + 1) := by rw [Nat.div_lt_iff_lt_mul (by omega)]; rw [Nat.pow_succ] at h; exact h
      obtain ⟨a, b, c, d⟩ := nbF_bounds k (n / 256) hd
      refine ⟨by omega, by omega, ?_, fun _ => ?_⟩
      · rw [Nat.pow_succ]; omega
      · rw [Nat.add_sub_cancel]
        rcases Nat.lt_or_ge (nbF k (n / 256)) 2 with g | g
        · rw [show nbF k (n / 256) = 1 by omega]; simp; omega
        · have d' := d g
          obtain ⟨m, hm⟩ : ∃ m, nbF k (n / 256) = m + 1 := ⟨nbF k (n / 256) - 1, by omega⟩
          rw [hm] at d' ⊢
          rw [Nat.add_sub_cancel] at d'
          rw [Nat.pow_succ]; omega

theorem nb_bounds {n : Nat} (h : n < 18446744073709551616) : 1 ≤ nb n ∧ nb n ≤ 8 ∧ n < 256 ^ nb n ∧ (2 ≤ nb n → 256 ^ (nb n - 1) ≤ n) := by
  obtain ⟨a, b, c, d⟩ := nbF_bounds 7 n (by simpa using h)
  have e : nb n = nbF 7 n := by
    unfold nb
    have : ∀ (k n : Nat), n < 256 ^ (k + 1) → nbF (k + 1) n = nbF k n := by
      intro k
      induction k with
      | zero => intro n h; simp [nbF] at h ⊢; omega
      | succ k ih => 
        intro n h
        rw [show nbF (k + 1 + 1) n = if n < 256 then 1 else nbF (k + 1) (n / 256) + 1 from rfl, show nbF (k + 1) n = if n < 256 then 1 else nbF k (n / 256) + 1 from rfl]
        split
        · rfl
        · rw [ih]; rw [Nat.div_lt_iff_lt_mul (by omega)]; rw [Nat.pow_succ] at h; exact h
    exact this 7 n (by simpa using h)
  rw [e]; exact ⟨a, b, c, d⟩

/-- A number that is below 256^m, and not below 256^(m-1), needs m bytes. -/
theorem nb_eq {n m : Nat} (h : n < 18446744073709551616) (h1 : 1 ≤ m) (h2 : n < 256 ^ m) (h3 : 2 ≤ m → 256 ^ (m - 1) ≤ n) : nb n = m := by
  obtain ⟨a, _, c, d⟩ := nb_bounds h
  rcases Nat.lt_trichotomy (nb n) m with g | g | g
  · have h3' := h3 (by omega)
    have : 256 ^ nb n ≤ 256 ^ (m - 1) := Nat.pow_le_pow_right (by omega) (by omega)
    omega
  · exact g
  · have d' := d (by omega)
    have : 256 ^ m ≤ 256 ^ (nb n - 1) := Nat.pow_le_pow_right (by omega) (by omega)
    omega

theorem nb_bitLen_aux : ∀ (k n : Nat), n ≠ 0 → n < 256 ^ (k + 1) → n < 18446744073709551616 → (Lib.bitLen n + 7) / 8 = nbF k n
  | 0, n, h0, h, hb => by
    have h' : n < 256 := by simpa using h
    have a := Lib.bitLen_le8 ⟨n, h'⟩
    have b : 1 ≤ Lib.bitLen n := by rw [Lib.bitLen_half n h0 (by simpa using hb)]; omega
    simp only at a
    simp only [nbF]; omega
  | k + 1, n, h0, h, hb => by
    unfold nbF
    split
    · rename_i h'
      have a := Lib.bitLen_le8 ⟨n, h'⟩
      have b : 1 ≤ Lib.bitLen n := by rw [Lib.bitLen_half n h0 (by simpa using hb)]; omega
      simp only at a
      omega
    · rename_i h'
      have := nb_bitLen_aux k (n / 256) (by omega) (by rw [Nat.div_lt_iff_lt_mul (by omega)]; rw [Nat.pow_succ] at h; exact h) (by omega)
      rw [Lib.bitLen_shift8 n (by omega) hb, ← this]
      omega
theorem nb_bitLen {n : Nat} (h0 : n ≠ 0) (h : n < 18446744073709551616) : (Lib.bitLen n + 7) / 8 = nb n :=
  nb_bitLen_aux 8 n h0 (Nat.lt_of_lt_of_le h (by decide)) h

theorem size_bounds {n : Nat} (h : n < 18446744073709551616) : 1 ≤ size n ∧ size n ≤ 9 := by
  obtain ⟨a, b, _⟩ := nb_bounds h
  unfold size; split <;> omega

theorem low_length : ∀ (n m : Nat), (low n m).length = m
  | _, 0 => rfl
  | n, m + 1 => by simp [low, low_length]
theorem enc_length (n : Nat) : (enc n).length = size n := by
  unfold enc size; split
  · rfl
  · simp [low_length]; omega
theorem val_low : ∀ (m n : Nat), val (low n m) = n % 256 ^ m
  | 0, n => by simp [low, val, Nat.mod_one]
  | m + 1, n => by
    simp only [low, val, val_low m, UInt8.toNat_ofNat']
    rw [show (256 : Nat) ^ (m + 1) = 256 * 256 ^ m by rw [Nat.pow_succ, Nat.mul_comm], Nat.mod_mul]; omega
theorem low_val : ∀ (l : List UInt8), low (val l) l.length = l
  | [] => rfl
  | b :: r => by
    have hb : b.toNat < 256 := b.toNat_lt
    simp only [val, List.length_cons, low]
    rw [show (b.toNat + 256 * val r) / 256 = val r by omega, low_val r, show (b.toNat + 256 * val r) % 256 = b.toNat by omega]
    simp
theorem val_lt : ∀ (l : List UInt8), val l < 256 ^ l.length
  | [] => by simp [val]
  | b :: r => by
    have hb : b.toNat < 256 := b.toNat_lt
    have := val_lt r
    simp only [val, List.length_cons, Nat.pow_succ]; omega
theorem pow_le8 {m : Nat} (h : m ≤ 8) : 256 ^ m ≤ 18446744073709551616 :=
  Nat.le_trans (Nat.pow_le_pow_right (by omega) h) (by decide)
theorem val_lt64 {l : List UInt8} (h : l.length ≤ 8) : val l < 18446744073709551616 := Nat.lt_of_lt_of_le (val_lt l) (pow_le8 h)

/-- What is put is had, whatever stands behind it. -/
theorem getL_enc {n : Nat} (h : n < 18446744073709551616) (r : List UInt8) : getL (enc n ++ r) = (n, size n, 0) := by
  obtain ⟨a, b, c, d⟩ := nb_bounds h
  unfold enc size
  split
  · rename_i h'
    simp [getL, h', Nat.mod_eq_of_lt (show n < 256 by omega)]
  · rename_i h'
    have e : (UInt8.ofNat (247 + nb n)).toNat = 247 + nb n := by
      rw [UInt8.toNat_ofNat']; exact Nat.mod_eq_of_lt (by omega)
    have v : val (low n (nb n)) = n := by rw [val_low]; exact Nat.mod_eq_of_lt c
    simp only [List.cons_append, getL, e]
    rw [if_neg (by omega), show 247 + nb n - 247 = nb n by omega, if_neg (by simp [low_length]), List.take_append_of_le_length (by rw [low_length]; exact Nat.le_refl _), List.take_of_length_le (by rw [low_length]; exact Nat.le_refl _), v, if_pos (by unfold size; rw [if_neg h'])]

/-- What is had is put just so. -/
theorem getL_ok {l : List UInt8} (h : (getL l).2.2 = 0) : enc (getL l).1 = l.take (getL l).2.1 ∧ 1 ≤ (getL l).2.1 ∧ (getL l).2.1 ≤ l.length ∧ (getL l).1 < 18446744073709551616 := by
  cases l with
  | nil => simp [getL] at h
  | cons b r =>
    have hb : b.toNat < 256 := b.toNat_lt
    simp only [getL] at h ⊢
    split
    · rename_i h1
      refine ⟨?_, Nat.le_refl _, by simp, by show b.toNat < _; omega⟩
      unfold enc; rw [if_pos h1]; simp
    · rename_i h1
      rw [if_neg h1] at h
      split
      · rename_i h2; rw [if_pos h2] at h; simp at h
      · rename_i h2
        rw [if_neg h2] at h
        split
        · rename_i h3
          have hl : (r.take (b.toNat - 247)).length = b.toNat - 247 := by rw [List.length_take]; omega
          have hv : val (r.take (b.toNat - 247)) < 18446744073709551616 := val_lt64 (by rw [hl]; omega)
          simp only
          refine ⟨?_, by omega, by simp; omega, hv⟩
          have hn : ¬ val (r.take (b.toNat - 247)) ≤ 247 := by
            intro hc; unfold size at h3; rw [if_pos hc] at h3; omega
          have h3' := h3
          unfold size at h3'; rw [if_neg hn] at h3'
          have hnb : nb (val (r.take (b.toNat - 247))) = b.toNat - 247 := by omega
          unfold enc; rw [if_neg hn, hnb, show 247 + (b.toNat - 247) = b.toNat by omega]
          have := low_val (r.take (b.toNat - 247))
          rw [hl] at this
          rw [this, show 1 + (b.toNat - 247) = (b.toNat - 247) + 1 by omega, List.take_succ_cons]
          simp
        · rename_i h3; rw [if_neg h3] at h; simp at h
theorem getL_bad {l : List UInt8} (h : (getL l).2.2 ≠ 0) : (getL l).1 = 0 ∧ (getL l).2.1 = 0 := by
  unfold getL at h ⊢
  split
  · exact ⟨rfl, rfl⟩
  · rename_i b r
    simp only at h
    split
    · rename_i h1; rw [if_pos h1] at h; simp at h
    · rename_i h1
      rw [if_neg h1] at h
      split
      · exact ⟨rfl, rfl⟩
      · rename_i h2
        rw [if_neg h2] at h
        split
        · rename_i h3; rw [if_pos h3] at h; simp at h
        · exact ⟨rfl, rfl⟩
/-- A number that is cut can't be had. -/
theorem getL_cut {n k : Nat} (h : n < 18446744073709551616) (hk : k < size n) : getL ((enc n).take k) = (0, 0, 3) := by
  obtain ⟨a, b, c, d⟩ := nb_bounds h
  unfold enc
  unfold size at hk
  split
  · rename_i h'
    rw [if_pos h'] at hk
    rw [show k = 0 by omega]; rfl
  · rename_i h'
    rw [if_neg h'] at hk
    cases k with
    | zero => rfl
    | succ k =>
      have e : (UInt8.ofNat (247 + nb n)).toNat = 247 + nb n := by
        rw [UInt8.toNat_ofNat']; exact Nat.mod_eq_of_lt (by omega)
      simp only [List.take_succ_cons, getL, e]
      rw [if_neg (by omega), if_pos (by rw [List.length_take, low_length]; omega)]
theorem getL_err (l : List UInt8) : (getL l).2.2 = 0 ∨ (getL l).2.2 = 3 ∨ (getL l).2.2 = 5 := by
  unfold getL
  split
  · simp
  · split
    · simp
    · split
      · simp
      · split <;> simp

/-! ### The same at places -/
theorem get_err (s : List UInt8) (p : Int) : (get s p).2.2 = 0 ∨ (get s p).2.2 = 3 ∨ (get s p).2.2 = 5 := by
  unfold get; split
  · simp
  · exact getL_err _
theorem get_at {s : List UInt8} {k : Nat} (h : k < s.length) : get s (k : Int) = ((getL (s.drop k)).1, (k : Int) + ((getL (s.drop k)).2.1 : Nat), (getL (s.drop k)).2.2) := by
  unfold get; rw [if_neg (by omega)]; simp
theorem get_ok {s : List UInt8} {p : Int} (h : (get s p).2.2 = 0) : ∃ k u : Nat, p = (k : Int) ∧ (get s p).2.1 = ((k + u : Nat) : Int) ∧ 1 ≤ u ∧ k + u ≤ s.length ∧ enc (get s p).1 = (s.drop k).take u ∧ (get s p).1 < 18446744073709551616 := by
  rcases Int.lt_or_le p 0 with hp | hp
  · unfold get at h; rw [if_pos (.inl hp)] at h; simp at h
  rcases Int.lt_or_le p s.length with hq | hq
  · obtain ⟨k, rfl⟩ : ∃ k : Nat, p = (k : Int) := ⟨p.toNat, by omega⟩
    have hk : k < s.length := by omega
    rw [get_at hk] at h ⊢
    obtain ⟨a, b, c, d⟩ := getL_ok h
    refine ⟨k, _, rfl, by simp, b, ?_, a, d⟩
    rw [List.length_drop] at c; omega
  · unfold get at h; rw [if_pos (.inr hq)] at h; simp at h
theorem get_bad {s : List UInt8} {p : Int} (h : (get s p).2.2 ≠ 0) : (get s p).1 = 0 ∧ (get s p).2.1 = p := by
  unfold get at h ⊢
  split
  · exact ⟨rfl, rfl⟩
  · rename_i hc
    rw [if_neg hc] at h
    obtain ⟨a, b⟩ := getL_bad h
    exact ⟨a, by rw [b]; simp⟩
theorem get_lt (s : List UInt8) (p : Int) : (get s p).1 < 18446744073709551616 := by
  by_cases h : (get s p).2.2 = 0
  · obtain ⟨_, _, _, _, _, _, _, h⟩ := get_ok h; exact h
  · rw [(get_bad h).1]; decide

theorem encs_append (a b : List Nat) : encs (a ++ b) = encs a ++ encs b := by simp [encs]
theorem encs_cons (n : Nat) (l : List Nat) : encs (n :: l) = enc n ++ encs l := by simp [encs]

/-- Each number at its place. -/
theorem get_encs {a b : List Nat} {n : Nat} (h : n < 18446744073709551616) (r : List UInt8) : get (encs (a ++ n :: b) ++ r) ((encs a).length : Int) = (n, (((encs a).length + size n : Nat) : Int), 0) := by
  have hs := size_bounds h
  have hl := enc_length n
  rw [get_at (by simp [encs_append, encs_cons, hl]; omega), encs_append, encs_cons, List.append_assoc, List.append_assoc, List.drop_left, getL_enc h]
  simp

theorem rowFrom_encs : ∀ (b a acc : List Nat) (r : List UInt8), (∀ n ∈ b, n < 18446744073709551616) →
    rowFrom (encs (a ++ b) ++ r) b.length acc ((encs a).length : Int) = (acc ++ b, ((encs (a ++ b)).length : Int), 0)
  | [], a, acc, r, _ => by simp [rowFrom]
  | n :: b, a, acc, r, h => by
    have hn := h n (by simp)
    rw [List.length_cons, rowFrom, get_encs hn]
    have e : a ++ n :: b = (a ++ [n]) ++ b := by simp
    have := rowFrom_encs b (a ++ [n]) (acc ++ [n]) r (fun m hm => h m (by simp [hm]))
    rw [e]
    simp only [if_true]
    rw [show (((encs a).length + size n : Nat) : Int) = ((encs (a ++ [n])).length : Int) by rw [encs_append, List.length_append, encs_cons]; simp [encs, enc_length], this]
    simp
theorem row_encs {l : List Nat} (h : ∀ n ∈ l, n < 18446744073709551616) : row (encs l) 0 (l.length : Int) = (l, ((encs l).length : Int), 0) := by
  have := rowFrom_encs l [] [] [] h
  simpa [row, encs] using this

theorem get_cut {a b : List Nat} {n k : Nat} (h : n < 18446744073709551616) (h1 : (encs a).length ≤ k) (h2 : k < (encs a).length + size n) :
    get ((encs (a ++ n :: b)).take k) ((encs a).length : Int) = (0, ((encs a).length : Int), 3) := by
  rcases Nat.eq_or_lt_of_le h1 with g | g
  · unfold get; rw [if_pos (.inr (by rw [List.length_take]; omega))]
  · rw [get_at (by rw [List.length_take, encs_append, encs_cons, List.length_append, List.length_append, enc_length]; omega)]
    rw [encs_append, List.take_append, List.take_of_length_le (by omega), List.drop_left, encs_cons, List.take_append_of_le_length (by rw [enc_length]; omega), getL_cut h (by omega)]
    simp

theorem rowFrom_cut : ∀ (c a acc b : List Nat) (n k : Nat), (∀ m ∈ c, m < 18446744073709551616) → n < 18446744073709551616 → (encs (a ++ c)).length ≤ k → k < (encs (a ++ c)).length + size n →
    rowFrom ((encs (a ++ c ++ n :: b)).take k) (c.length + (b.length + 1)) acc ((encs a).length : Int) = ([], ((encs (a ++ c)).length : Int), 3)
  | [], a, acc, b, n, k, _, hn, h1, h2 => by
    simp only [List.append_nil] at h1 h2 ⊢
    rw [List.length_nil, Nat.zero_add, rowFrom, get_cut hn h1 h2]
    simp
  | m :: c, a, acc, b, n, k, hc, hn, h1, h2 => by
    have hm := hc m (by simp)
    have e : a ++ m :: c = (a ++ [m]) ++ c := by simp
    rw [e] at h1 h2 ⊢
    have hsz := size_bounds hn
    have g : get ((encs (a ++ [m] ++ c ++ n :: b)).take k) ((encs a).length : Int) = (m, ((encs (a ++ [m])).length : Int), 0) := by
      have hle : (encs (a ++ [m])).length ≤ k := by rw [encs_append (a ++ [m]), List.length_append] at h1; omega
      have hle2 : k ≤ (encs (a ++ [m] ++ c ++ n :: b)).length := by
        rw [encs_append _ (n :: b), encs_cons, List.length_append, List.length_append, enc_length]; omega
      have e2 : (encs (a ++ [m] ++ c ++ n :: b)).take k = encs (a ++ m :: []) ++ (encs (c ++ n :: b)).take (k - (encs (a ++ [m])).length) := by
        rw [List.append_assoc (a ++ [m]), encs_append (a ++ [m]), List.take_append, List.take_of_length_le hle]
      rw [e2, get_encs hm]
      simp [enc_length, encs]
    rw [List.length_cons, show c.length + 1 + (b.length + 1) = (c.length + (b.length + 1)) + 1 by omega, rowFrom, g]
    simp only [if_true]
    exact rowFrom_cut c (a ++ [m]) _ b n k (fun x hx => hc x (by simp [hx])) hn h1 h2
theorem row_cut {a b : List Nat} {n k : Nat} (h : ∀ m ∈ a ++ n :: b, m < 18446744073709551616) (h1 : (encs a).length ≤ k) (h2 : k < (encs a).length + size n) :
    row ((encs (a ++ n :: b)).take k) 0 ((a ++ n :: b).length : Int) = ([], ((encs a).length : Int), 3) := by
  have := rowFrom_cut a [] [] b n k (fun m hm => h m (by simp [hm])) (h n (by simp)) (by simpa using h1) (by simpa using h2)
  unfold row
  rw [Int.toNat_natCast, List.length_append, List.length_cons]
  simpa [encs] using this

theorem nb_mono {a b : Nat} (hb : b < 18446744073709551616) (h : a ≤ b) : nb a ≤ nb b := by
  obtain ⟨a1, _, _, a4⟩ := nb_bounds (n := a) (by omega)
  obtain ⟨b1, _, b3, _⟩ := nb_bounds hb
  rcases Nat.lt_or_ge (nb b) (nb a) with g | g
  · have := a4 (by omega)
    have : 256 ^ nb b ≤ 256 ^ (nb a - 1) := Nat.pow_le_pow_right (by omega) (by omega)
    omega
  · exact g
theorem size_mono {a b : Nat} (hb : b < 18446744073709551616) (h : a ≤ b) : size a ≤ size b := by
  have := nb_mono hb h
  have := (nb_bounds hb).1
  unfold size; split <;> split <;> omega
theorem enc_no_prefix {a b : Nat} (ha : a < 18446744073709551616) (hb : b < 18446744073709551616) (h : a ≠ b) : (enc b).isPrefixOf (enc a) = false := by
  cases g : (enc b).isPrefixOf (enc a) with
  | false => rfl
  | true =>
    rw [List.isPrefixOf_iff_prefix] at g
    obtain ⟨r, hr⟩ := g
    have x := getL_enc ha []
    rw [List.append_nil, ← hr, getL_enc hb] at x
    exact absurd (congrArg Prod.fst x).symm h

/-! ### Single bytes -/
theorem low_getD : ∀ (m n i : Nat), i < m → (low n m).getD i 0 = UInt8.ofNat (n / 256 ^ i % 256)
  | m + 1, n, 0, _ => by simp [low]
  | m + 1, n, i + 1, h => by
    rw [low, List.getD_cons_succ, low_getD m (n / 256) i (by omega), Nat.div_div_eq_div_mul, ← Nat.pow_succ']
theorem low_take : ∀ (k m n : Nat), k ≤ m → (low n m).take k = low n k
  | 0, m, n, _ => by simp [low]
  | k + 1, m + 1, n, h => by simp [low, low_take k m _ (by omega)]
theorem low_succ : ∀ (n m : Nat), low n m ++ [UInt8.ofNat (n / 256 ^ m % 256)] = low n (m + 1)
  | n, 0 => by simp [low]
  | n, m + 1 => by
    rw [low, List.cons_append, show n / 256 ^ (m + 1) = n / 256 / 256 ^ m by rw [Nat.div_div_eq_div_mul, ← Nat.pow_succ'], low_succ (n / 256) m]
    rfl
/-- A number's bytes, with what is not needed behind them: nine in all. -/
def full (n : Nat) : List UInt8 := if n ≤ 247 then UInt8.ofNat n :: List.replicate 8 0 else UInt8.ofNat (247 + nb n) :: low n 8
theorem full_length (n : Nat) : (full n).length = 9 := by unfold full; split <;> simp [low_length]
theorem full_take {n : Nat} (h : n < 18446744073709551616) : (full n).take (size n) = enc n := by
  have := nb_bounds h
  unfold full size enc
  split
  · simp
  · rw [show 1 + nb n = nb n + 1 by omega, List.take_succ_cons, low_take _ _ _ this.2.1]
theorem val_snoc : ∀ (l : List UInt8) (b : UInt8), val (l ++ [b]) = val l + 256 ^ l.length * b.toNat
  | [], b => by simp [val]
  | c :: l, b => by
    simp only [List.cons_append, val, List.length_cons, Nat.pow_succ, val_snoc l b]
    rw [Nat.mul_add, show 256 ^ l.length * 256 * b.toNat = 256 * (256 ^ l.length * b.toNat) by rw [Nat.mul_comm (256 ^ l.length) 256, Nat.mul_assoc]]
    omega
theorem val_take_succ {l : List UInt8} {i : Nat} (h : i < l.length) : val (l.take (i + 1)) = val (l.take i) + 256 ^ i * (l.getD i 0).toNat := by
  rw [List.take_succ_eq_append_getElem h, val_snoc, List.length_take, Nat.min_eq_left (by omega)]
  simp [h]
theorem val_drop {l : List UInt8} {i : Nat} (h : i < l.length) : val (l.drop i) = val (l.drop (i + 1)) * 256 + (l.getD i 0).toNat := by
  rw [List.drop_eq_getElem_cons h, val]
  simp [h]; omega

end Go.Proofs.Ytfnmmnbndfdpiaa.Plain

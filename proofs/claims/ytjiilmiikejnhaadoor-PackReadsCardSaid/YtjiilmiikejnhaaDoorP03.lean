/-
  Plain mathematics of numbers in as few bytes as they need: the bytes of a number, of a row of numbers, and what stands in any bytes. Nothing of the program stands here. Plain mathematics of transducers' bytes: laid, and read. Nothing of the program stands here. Plain mathematics: what was laid comes back, and what is read is laid just so.
-/
import Derived.Lib.BitFns
set_option linter.unusedVariables false
set_option linter.unusedSimpArgs false
namespace Go.Proofs.YtjiilmiikejnhaaDoor.Plain

/-- How many bytes a number needs, one at least. -/
def nbF : Nat → Nat → Nat
  | 0, _ => 1
  | k + 1, n => if n < 256 then 1 else nbF k (n / 256) + 1
def nb (n : Nat) : Nat := nbF 8 n
/-- The m lowest bytes of n, the lowest one first. -/
def low : Nat → Nat → List UInt8
  | _, 0 => []
  | n, m + 1 => UInt8.ofNat (n % 256) :: low (n / 256) m
def enc (n : Nat) : List UInt8 := if n ≤ 247 then [UInt8.ofNat n] else UInt8.ofNat (247 + nb n) :: low n (nb n)
def size (n : Nat) : Nat := if n ≤ 247 then 1 else 1 + nb n
def encs (l : List Nat) : List UInt8 := l.flatMap enc
def val : List UInt8 → Nat
  | [] => 0
  | b :: r => b.toNat + 256 * val r
/-- What stands at the beginning of bytes: the number, how many bytes, the error. -/
def getL : List UInt8 → Nat × Nat × Nat
  | [] => (0, 0, 3)
  | b :: r => if b.toNat ≤ 247 then (b.toNat, 1, 0) else if r.length < b.toNat - 247 then (0, 0, 3) else
    if size (val (r.take (b.toNat - 247))) = 1 + (b.toNat - 247) then (val (r.take (b.toNat - 247)), 1 + (b.toNat - 247), 0) else (0, 0, 5)
def get (s : List UInt8) (at' : Int) : Nat × Int × Nat :=
  if at' < 0 ∨ (s.length : Int) ≤ at' then (0, at', 3) else ((getL (s.drop at'.toNat)).1, at' + ((getL (s.drop at'.toNat)).2.1 : Nat), (getL (s.drop at'.toNat)).2.2)
/-- Numbers, one behind the other, behind those that have been had. -/
def rowFrom (s : List UInt8) : Nat → List Nat → Int → List Nat × Int × Nat
  | 0, acc, p => (acc, p, 0)
  | k + 1, acc, p => if (get s p).2.2 = 0 then rowFrom s k (acc ++ [(get s p).1]) (get s p).2.1 else ([], (get s p).2.1, (get s p).2.2)
def row (s : List UInt8) (at' : Int) (many : Int) : List Nat × Int × Nat := rowFrom s many.toNat [] at'

theorem nbF_bounds : ∀ (k n : Nat), n < 256 ^ (k + 1) → 1 ≤ nbF k n ∧ nbF k n ≤ k + 1 ∧ n < 256 ^ nbF k n ∧ (2 ≤ nbF k n → 256 ^ (nbF k n - 1) ≤ n)
  | 0, n, h => by simp [nbF] at h ⊢; exact h
  | k + 1, n, h => by
    unfold nbF
    split
    · rename_i h2
      exact ⟨Nat.le_refl _, by omega, by simpa using h2, by omega⟩
    · rename_i h2
      have hd : n / 256 < 256 ^ (k + 1) := by rw [Nat.div_lt_iff_lt_mul (by omega)]; rw [Nat.pow_succ] at h; exact h
      obtain ⟨a, b, c, d⟩ := nbF_bounds k (n / 256) hd
      refine ⟨by omega, by omega, ?_, fun _ => ?_⟩
      · rw [Nat.pow_succ]; omega
      · rw [Nat.add_sub_cancel]
        rcases Nat.lt_or_ge (nbF k (n / 256)) 2 with g | g
        · rw [show nbF k (n / 256) = 1 by omega]; simp; omega
        · have d' := d g
          obtain ⟨m, hm⟩ : ∃ m, nbF k (n / 256) = m + 1 := ⟨nbF k (n / 256) - 1, by omega⟩
          rw [hm] at d' ⊢
          rw [Nat.add_sub_cancel] at d'
          rw [Nat.pow_succ]; omega

theorem nb_bounds {n : Nat} (h : n < 18446744073709551616) : 1 ≤ nb n ∧ nb n ≤ 8 ∧ n < 256 ^ nb n ∧ (2 ≤ nb n → 256 ^ (nb n - 1) ≤ n) := by
  obtain ⟨a, b, c, d⟩ := nbF_bounds 7 n (by simpa using h)
  have e : nb n = nbF 7 n := by
    unfold nb
    have : ∀ (k n : Nat), n < 256 ^ (k + 1) → nbF (k + 1) n = nbF k n := by
      intro k
      induction k with
      | zero => intro n h; simp [nbF] at h ⊢; omega
      | succ k ih => 
        intro n h
        rw [show nbF (k + 1 + 1) n = if n < 256 then 1 else nbF (k + 1) (n / 256) + 1 from rfl, show nbF (k + 1) n = if n < 256 then 1 else nbF k (n / 256) + 1 from rfl]
        split
        · rfl
        · rw [ih]; rw [Nat.div_lt_iff_lt_mul (by omega)]; rw [Nat.pow_succ] at h; exact h
    exact this 7 n (by simpa using h)
  rw [e]; exact ⟨a, b, c, d⟩

/-- A number that is below 256^m, and not below 256^(m-1), needs m bytes. -/
theorem nb_eq {n m : Nat} (h : n < 18446744073709551616) (h1 : 1 ≤ m) (h2 : n < 256 ^ m) (h3 : 2 ≤ m → 256 ^ (m - 1) ≤ n) : nb n = m := by
  obtain ⟨a, _, c, d⟩ := nb_bounds h
  rcases Nat.lt_trichotomy (nb n) m with g | g | g
  · have h3' := h3 (by omega)
    have : 256 ^ nb n ≤ 256 ^ (m - 1) := Nat.pow_le_pow_right (by omega) (by omega)
    omega
  · exact g
  · have d' := d (by omega)
    have : 256 ^ m ≤ 256 ^ (nb n - 1) := Nat.pow_le_pow_right (by omega) (by omega)
    omega

theorem nb_bitLen_aux : ∀ (k n : Nat), n ≠ 0 → n < 256 ^ (k + 1) → n < 18446744073709551616 → (Lib.bitLen n + 7) / 8 = nbF k n
  | 0, n, h0, h, hb => by
    have h' : n < 256 := by simpa using h
    have a := Lib.bitLen_le8 ⟨n, h'⟩
    have b : 1 ≤ Lib.bitLen n := by rw [Lib.bitLen_half n h0 (by simpa using hb)]; omega
    simp only at a
    simp only [nbF]; omega
  | k + 1, n, h0, h, hb => by
    unfold nbF
    split
    · rename_i h'
      have a := Lib.bitLen_le8 ⟨n, h'⟩
      have b : 1 ≤ Lib.bitLen n := by rw [Lib.bitLen_half n h0 (by simpa using hb)]; omega
      simp only at a
      omega
    · rename_i h'
      have := nb_bitLen_aux k (n / 256) (by omega) (by rw [Nat.div_lt_iff_lt_mul (by omega)]; rw [Nat.pow_succ] at h; exact h) (by omega)
      rw [Lib.bitLen_shift8 n (by omega) hb, ← this]
      omega
theorem nb_bitLen {n : Nat} (h0 : n ≠ 0) (h : n < 18446744073709551616) : (Lib.bitLen n + 7) / 8 = nb n :=
  nb_bitLen_aux 8 n h0 (Nat.lt_of_lt_of_le h (by decide)) h

theorem size_bounds {n : Nat} (h : n < 18446744073709551616) : 1 ≤ size n ∧ size n ≤ 9 := by
  obtain ⟨a, b, _⟩ := nb_bounds h
  unfold size; split <;> omega

theorem low_length : ∀ (n m : Nat), (low n m).length = m
  | _, 0 => rfl
  | n, m + 1 => by simp [low, low_length]
theorem enc_length (n : Nat) : (enc n).length = size n := by
  unfold enc size; split
  · rfl
  · simp [low_length]; omega
theorem val_low : ∀ (m n : Nat), val (low n m) = n % 256 ^ m
  | 0, n => by simp [low, val, Nat.mod_one]
  | m + 1, n => by
    simp only [low, val, val_low m, UInt8.toNat_ofNat']
    rw [show (256 : Nat) ^ (m + 1) = 256 * 256 ^ m by rw [Nat.pow_succ, Nat.mul_comm], Nat.mod_mul]; omega
theorem low_val : ∀ (l : List UInt8), low (val l) l.length = l
  | [] => rfl
  | b :: r => by
    have hb : b.toNat < 256 := b.toNat_lt
    simp only [val, List.length_cons, low]
    rw [show (b.toNat + 256 * val r) / 256 = val r by omega, low_val r, show (b.toNat + 256 * val r) % 256 = b.toNat by omega]
    simp
theorem val_lt : ∀ (l : List UInt8), val l < 256 ^ l.length
  | [] => by simp [val]
  | b :: r => by
    have hb : b.toNat < 256 := b.toNat_lt
    have := val_lt r
    simp only [val, List.length_cons, Nat.pow_succ]; omega
theorem pow_le8 {m : Nat} (h : m ≤ 8) : 256 ^ m ≤ 18446744073709551616 :=
  Nat.le_trans (Nat.pow_le_pow_right (by omega) h) (by decide)
theorem val_lt64 {l : List UInt8} (h : l.length ≤ 8) : val l < 18446744073709551616 := Nat.lt_of_lt_of_le (val_lt l) (pow_le8 h)

/-- What is put is had, whatever stands behind it. -/
theorem getL_enc {n : Nat} (h : n < 18446744073709551616) (r : List UInt8) : getL (enc n ++ r) = (n, size n, 0) := by
  obtain ⟨a, b, c, d⟩ := nb_bounds h
  unfold enc size
  split
  · rename_i h'
    simp [getL, h', Nat.mod_eq_of_lt (show n < 256 by omega)]
  · rename_i h'
    have e : (UInt8.ofNat (247 + nb n)).toNat = 247 + nb n := by
      rw [UInt8.toNat_ofNat']; exact Nat.mod_eq_of_lt (by omega)
    have v : val (low n (nb n)) = n := by rw [val_low]; exact Nat.mod_eq_of_lt c
    simp only [List.cons_append, getL, e]
    rw [if_neg (by omega), show 247 + nb n - 247 = nb n by omega, if_neg (by simp [low_length]), List.take_append_of_le_length (by rw [low_length]; exact Nat.le_refl _), List.take_of_length_le (by rw [low_length]; exact Nat.le_refl _), v, if_pos (by unfold size; rw [if_neg h'])]

/-- What is had is put just so. -/
theorem getL_ok {l : List UInt8} (h : (getL l).2.2 = 0) : enc (getL l).1 = l.take (getL l).2.1 ∧ 1 ≤ (getL l).2.1 ∧ (getL l).2.1 ≤ l.length ∧ (getL l).1 < 18446744073709551616 := by
  cases l with
  | nil => simp [getL] at h
  | cons b r =>
    have hb : b.toNat < 256 := b.toNat_lt
    simp only [getL] at h ⊢
    split
    · rename_i h1
      refine ⟨?_, Nat.le_refl _, by simp, by show b.toNat < _; omega⟩
      unfold enc; rw [if_pos h1]; simp
    · rename_i h1
      rw [if_neg h1] at h
      split
      · rename_i h2; rw [if_pos h2] at h; simp at h
      · rename_i h2
        rw [if_neg h2] at h
        split
        · rename_i h3
          have hl : (r.take (b.toNat - 247)).length = b.toNat - 247 := by rw [List.length_take]; omega
          have hv : val (r.take (b.toNat - 247)) < 18446744073709551616 := val_lt64 (by rw [hl]; omega)
          simp only
          refine ⟨?_, by omega, by simp; omega, hv⟩
          have hn : ¬ val (r.take (b.toNat - 247)) ≤ 247 := by
            intro hc; unfold size at h3; rw [if_pos hc] at h3; omega
          have h3' := h3
          unfold size at h3'; rw [if_neg hn] at h3'
          have hnb : nb (val (r.take (b.toNat - 247))) = b.toNat - 247 := by omega
          unfold enc; rw [if_neg hn, hnb, show 247 + (b.toNat - 247) = b.toNat by omega]
          have := low_val (r.take (b.toNat - 247))
          rw [hl] at this
          rw [this, show 1 + (b.toNat - 247) = (b.toNat - 247) + 1 by omega, List.take_succ_cons]
          simp
        · rename_i h3; rw [if_neg h3] at h; simp at h
theorem getL_bad {l : List UInt8} (h : (getL l).2.2 ≠ 0) : (getL l).1 = 0 ∧ (getL l).2.1 = 0 := by
  unfold getL at h ⊢
  split
  · exact ⟨rfl, rfl⟩
  · rename_i b r
    simp only at h
    split
    · rename_i h1; rw [if_pos h1] at h; simp at h
    · rename_i h1
      rw [if_neg h1] at h
      split
      · exact ⟨rfl, rfl⟩
      · rename_i h2
        rw [if_neg h2] at h
        split
        · rename_i h3; rw [if_pos h3] at h; simp at h
        · exact ⟨rfl, rfl⟩
/-- A number that is cut can't be had. -/
theorem getL_cut {n k : Nat} (h : n < 18446744073709551616) (hk : k < size n) : getL ((enc n).take k) = (0, 0, 3) := by
  obtain ⟨a, b, c, d⟩ := nb_bounds h
  unfold enc
  unfold size at hk
  split
  · rename_i h'
    rw [if_pos h'] at hk
    rw [show k = 0 by omega]; rfl
  · rename_i h'
    rw [if_neg h'] at hk
    cases k with
    | zero => rfl
    | succ k =>
      have e : (UInt8.ofNat (247 + nb n)).toNat = 247 + nb n := by
        rw [UInt8.toNat_ofNat']; exact Nat.mod_eq_of_lt (by omega)
      simp only [List.take_succ_cons, getL, e]
      rw [if_neg (by omega), if_pos (by rw [List.length_take, low_length]; omega)]
theorem getL_err (l : List UInt8) : (getL l).2.2 = 0 ∨ (getL l).2.2 = 3 ∨ (getL l).2.2 = 5 := by
  unfold getL
  split
  · simp
  · split
    · simp
    · split
      · simp
      · split <;> simp

/-! ### The same at places -/
theorem get_err (s : List UInt8) (p : Int) : (get s p).2.2 = 0 ∨ (get s p).2.2 = 3 ∨ (get s p).2.2 = 5 := by
  unfold get; split
  · simp
  · exact getL_err _
theorem get_at {s : List UInt8} {k : Nat} (h : k < s.length) : get s (k : Int) = ((getL (s.drop k)).1, (k : Int) + ((getL (s.drop k)).2.1 : Nat), (getL (s.drop k)).2.2) := by
  unfold get; rw [if_neg (by omega)]; simp
theorem get_ok {s : List UInt8} {p : Int} (h : (get s p).2.2 = 0) : ∃ k u : Nat, p = (k : Int) ∧ (get s p).2.1 = ((k + u : Nat) : Int) ∧ 1 ≤ u ∧ k + u ≤ s.length ∧ enc (get s p).1 = (s.drop k).take u ∧ (get s p).1 < 18446744073709551616 := by
  rcases Int.lt_or_le p 0 with hp | hp
  · unfold get at h; rw [if_pos (.inl hp)] at h; simp at h
  rcases Int.lt_or_le p s.length with hq | hq
  · obtain ⟨k, rfl⟩ : ∃ k : Nat, p = (k : Int) := ⟨p.toNat, by omega⟩
    have hk : k < s.length := by omega
    rw [get_at hk] at h ⊢
    obtain ⟨a, b, c, d⟩ := getL_ok h
    refine ⟨k, _, rfl, by simp, b, ?_, a, d⟩
    rw [List.length_drop] at c; omega
  · unfold get at h; rw [if_pos (.inr hq)] at h; simp at h
theorem get_bad {s : List UInt8} {p : Int} (h : (get s p).2.2 ≠ 0) : (get s p).1 = 0 ∧ (get s p).2.1 = p := by
  unfold get at h ⊢
  split
  · exact ⟨rfl, rfl⟩
  · rename_i hc
    rw [if_neg hc] at h
    obtain ⟨a, b⟩ := getL_bad h
    exact ⟨a, by rw [b]; simp⟩
theorem get_lt (s : List UInt8) (p : Int) : (get s p).1 < 18446744073709551616 := by
  by_cases h : (get s p).2.2 = 0
  · obtain ⟨_, _, _, _, _, _, _, h⟩ := get_ok h; exact h
  · rw [(get_bad h).1]; decide

theorem encs_append (a b : List Nat) : encs (a ++ b) = encs a ++ encs b := by simp [encs]
theorem encs_cons (n : Nat) (l : List Nat) : encs (n :: l) = enc n ++ encs l := by simp [encs]

/-- Each number at its place. -/
theorem get_encs {a b : List Nat} {n : Nat} (h : n < 18446744073709551616) (r : List UInt8) : get (encs (a ++ n :: b) ++ r) ((encs a).length : Int) = (n, (((encs a).length + size n : Nat) : Int), 0) := by
  have hs := size_bounds h
  have hl := enc_length n
  rw [get_at (by simp [encs_append, encs_cons, hl]; omega), encs_append, encs_cons, List.append_assoc, List.append_assoc, List.drop_left, getL_enc h]
  simp

theorem rowFrom_encs : ∀ (b a acc : List Nat) (r : List UInt8), (∀ n ∈ b, n < 18446744073709551616) →
    rowFrom (encs (a ++ b) ++ r) b.length acc ((encs a).length : Int) = (acc ++ b, ((encs (a ++ b)).length : Int), 0)
  | [], a, acc, r, _ => by simp [rowFrom]
  | n :: b, a, acc, r, h => by
    have hn := h n (by simp)
    rw [List.length_cons, rowFrom, get_encs hn]
    have e : a ++ n :: b = (a ++ [n]) ++ b := by simp
    have := rowFrom_encs b (a ++ [n]) (acc ++ [n]) r (fun m hm => h m (by simp [hm]))
    rw [e]
    simp only [if_true]
    rw [show (((encs a).length + size n : Nat) : Int) = ((encs (a ++ [n])).length : Int) by rw [encs_append, List.length_append, encs_cons]; simp [encs, enc_length], this]
    simp
theorem row_encs {l : List Nat} (h : ∀ n ∈ l, n < 18446744073709551616) : row (encs l) 0 (l.length : Int) = (l, ((encs l).length : Int), 0) := by
  have := rowFrom_encs l [] [] [] h
  simpa [row, encs] using this

theorem get_cut {a b : List Nat} {n k : Nat} (h : n < 18446744073709551616) (h1 : (encs a).length ≤ k) (h2 : k < (encs a).length + size n) :
    get ((encs (a ++ n :: b)).take k) ((encs a).length : Int) = (0, ((encs a).length : Int), 3) := by
  rcases Nat.eq_or_lt_of_le h1 with g | g
  · unfold get; rw [if_pos (.inr (by rw [List.length_take]; omega))]
  · rw [get_at (by rw [List.length_take, encs_append, encs_cons, List.length_append, List.length_append, enc_length]; omega)]
    rw [encs_append, List.take_append, List.take_of_length_le (by omega), List.drop_left, encs_cons, List.take_append_of_le_length (by rw [enc_length]; omega), getL_cut h (by omega)]
    simp

theorem rowFrom_cut : ∀ (c a acc b : List Nat) (n k : Nat), (∀ m ∈ c, m < 18446744073709551616) → n < 18446744073709551616 → (encs (a ++ c)).length ≤ k → k < (encs (a ++ c)).length + size n →
    rowFrom ((encs (a ++ c ++ n :: b)).take k) (c.length + (b.length + 1)) acc ((encs a).length : Int) = ([], ((encs (a ++ c)).length : Int), 3)
  | [], a, acc, b, n, k, _, hn, h1, h2 => by
    simp only [List.append_nil] at h1 h2 ⊢
    rw [List.length_nil, Nat.zero_add, rowFrom, get_cut hn h1 h2]
    simp
  | m :: c, a, acc, b, n, k, hc, hn, h1, h2 => by
    have hm := hc m (by simp)
    have e : a ++ m :: c = (a ++ [m]) ++ c := by simp
    rw [e] at h1 h2 ⊢
    have hsz := size_bounds hn
    have g : get ((encs (a ++ [m] ++ c ++ n :: b)).take k) ((encs a).length : Int) = (m, ((encs (a ++ [m])).length : Int), 0) := by
      have hle : (encs (a ++ [m])).length ≤ k := by rw [encs_append (a ++ [m]), List.length_append] at h1; omega
      have hle2 : k ≤ (encs (a ++ [m] ++ c ++ n :: b)).length := by
        rw [encs_append _ (n :: b), encs_cons, List.length_append, List.length_append, enc_length]; omega
      have e2 : (encs (a ++ [m] ++ c ++ n :: b)).take k = encs (a ++ m :: []) ++ (encs (c ++ n :: b)).take (k - (encs (a ++ [m])).length) := by
        rw [List.append_assoc (a ++ [m]), encs_append (a ++ [m]), List.take_append, List.take_of_length_le hle]
      rw [e2, get_encs hm]
      simp [enc_length, encs]
    rw [List.length_cons, show c.length + 1 + (b.length + 1) = (c.length + (b.length + 1)) + 1 by omega, rowFrom, g]
    simp only [if_true]
    exact rowFrom_cut c (a ++ [m]) _ b n k (fun x hx => hc x (by simp [hx])) hn h1 h2
theorem row_cut {a b : List Nat} {n k : Nat} (h : ∀ m ∈ a ++ n :: b, m < 18446744073709551616) (h1 : (encs a).length ≤ k) (h2 : k < (encs a).length + size n) :
    row ((encs (a ++ n :: b)).take k) 0 ((a ++ n :: b).length : Int) = ([], ((encs a).length : Int), 3) := by
  have := rowFrom_cut a [] [] b n k (fun m hm => h m (by simp [hm])) (h n (by simp)) (by simpa using h1) (by simpa using h2)
  unfold row
  rw [Int.toNat_natCast, List.length_append, List.length_cons]
  simpa [encs] using this

theorem nb_mono {a b : Nat} (hb : b < 18446744073709551616) (h : a ≤ b) : nb a ≤ nb b := by
  obtain ⟨a1, _, _, a4⟩ := nb_bounds (n := a) (by omega)
  obtain ⟨b1, _, b3, _⟩ := nb_bounds hb
  rcases Nat.lt_or_ge (nb b) (nb a) with g | g
  · have := a4 (by omega)
    have : 256 ^ nb b ≤ 256 ^ (nb a - 1) := Nat.pow_le_pow_right (by omega) (by omega)
    omega
  · exact g
theorem size_mono {a b : Nat} (hb : b < 18446744073709551616) (h : a ≤ b) : size a ≤ size b := by
  have := nb_mono hb h
  have := (nb_bounds hb).1
  unfold size; split <;> split <;> omega
theorem enc_no_prefix {a b : Nat} (ha : a < 18446744073709551616) (hb : b < 18446744073709551616) (h : a ≠ b) : (enc b).isPrefixOf (enc a) = false := by
  cases g : (enc b).isPrefixOf (enc a) with
  | false => rfl
  | true =>
    rw [List.isPrefixOf_iff_prefix] at g
    obtain ⟨r, hr⟩ := g
    have x := getL_enc ha []
    rw [List.append_nil, ← hr, getL_enc hb] at x
    exact absurd (congrArg Prod.fst x).symm h

/-! ### Single bytes -/
theorem low_getD : ∀ (m n i : Nat), i < m → (low n m).getD i 0 = UInt8.ofNat (n / 256 ^ i % 256)
  | m + 1, n, 0, _ => by simp [low]
  | m + 1, n, i + 1, h => by
    rw [low, List.getD_cons_succ, low_getD m (n / 256) i (by omega), Nat.div_div_eq_div_mul, ← Nat.pow_succ']
theorem low_take : ∀ (k m n : Nat), k ≤ m → (low n m).take k = low n k
  | 0, m, n, _ => by simp [low]
  | k + 1, m + 1, n, h => by simp [low, low_take k m _ (by omega)]
theorem low_succ : ∀ (n m : Nat), low n m ++ [UInt8.ofNat (n / 256 ^ m % 256)] = low n (m + 1)
  | n, 0 => by simp [low]
  | n, m + 1 => by
    rw [low, List.cons_append, show n / 256 ^ (m + 1) = n / 256 / 256 ^ m by rw [Nat.div_div_eq_div_mul, ← Nat.pow_succ'], low_succ (n / 256) m]
    rfl
/-- A number's bytes, with what is not needed behind them: nine in all. -/
def full (n : Nat) : List UInt8 := if n ≤ 247 then UInt8.ofNat n :: List.replicate 8 0 else UInt8.ofNat (247 + nb n) :: low n 8
theorem full_length (n : Nat) : (full n).length = 9 := by unfold full; split <;> simp [low_length]
theorem full_take {n : Nat} (h : n < 18446744073709551616) : (full n).take (size n) = enc n := by
  have := nb_bounds h
  unfold full size enc
  split
  · simp
  · rw [show 1 + nb n = nb n + 1 by omega, List.take_succ_cons, low_take _ _ _ this.2.1]
theorem val_snoc : ∀ (l : List UInt8) (b : UInt8), val (l ++ [b]) = val l + 256 ^ l.length * b.toNat
  | [], b => by simp [val]
  | c :: l, b => by
    simp only [List.cons_append, val, List.length_cons, Nat.pow_succ, val_snoc l b]
    rw [Nat.mul_add, show 256 ^ l.length * 256 * b.toNat = 256 * (256 ^ l.length * b.toNat) by rw [Nat.mul_comm (256 ^ l.length) 256, Nat.mul_assoc]]
    omega
theorem val_take_succ {l : List UInt8} {i : Nat} (h : i < l.length) : val (l.take (i + 1)) = val (l.take i) + 256 ^ i * (l.getD i 0).toNat := by
  rw [List.take_succ_eq_append_getElem h, val_snoc, List.length_take, Nat.min_eq_left (by omega)]
  simp [h]
theorem val_drop {l : List UInt8} {i : Nat} (h : i < l.length) : val (l.drop i) = val (l.drop (i + 1)) * 256 + (l.getD i 0).toNat := by
  rw [List.drop_eq_getElem_cons h, val]
  simp [h]; omega

end Go.Proofs.YtjiilmiikejnhaaDoor.Plain
namespace Go.Proofs.YtjiilmiikejnhaaDoor
open Plain

/-- An arc: its byte, what it puts out, where it goes. -/
structure DArc where
  b : Nat
  out : Nat
  to : Int
deriving Inhabited, DecidableEq
/-- A state: its arcs, whether a word ends, and what it puts out then. -/
structure DSt where
  arcs : List DArc
  fin : Bool
  out : Nat
deriving Inhabited, DecidableEq

def DArc.ok (a : DArc) : Prop := a.b < 256 ∧ a.out < 18446744073709551616 ∧ -9223372036854775808 ≤ a.to ∧ a.to < 9223372036854775808
def DSt.ok (s : DSt) : Prop := (∀ a ∈ s.arcs, a.ok) ∧ s.out < 18446744073709551616
instance (a : DArc) : Decidable a.ok := by unfold DArc.ok; infer_instance
instance (s : DSt) : Decidable s.ok := by unfold DSt.ok; infer_instance

/-- May a state be laid? -/
def mayA (own : Nat) (a : DArc) : Bool := decide (0 ≤ a.to) && decide (a.to < (own : Int))
def mayS (own : Nat) (s : DSt) : Bool := decide (s.arcs.length ≤ 256) && ((s.fin || s.out == 0) && s.arcs.all (mayA own))
def maySs : Nat → List DSt → Bool
  | _, [] => true
  | own, s :: l => mayS own s && maySs (own + 1) l
def mayT (n : Int) (l : List DSt) : Bool := decide (0 ≤ n) && (decide (n ≤ 100000) && (!l.isEmpty && maySs 0 l))

/-- The bytes. -/
def layA (own : Nat) (a : DArc) : List UInt8 := UInt8.ofNat a.b :: (enc a.out ++ enc ((own : Int) - a.to).toNat)
def headS (s : DSt) : List UInt8 := if s.fin then enc (2 * s.arcs.length + 1) ++ enc s.out else enc (2 * s.arcs.length)
def layS (own : Nat) (s : DSt) : List UInt8 := headS s ++ s.arcs.flatMap (layA own)
def laySs : Nat → List DSt → List UInt8
  | _, [] => []
  | own, s :: l => layS own s ++ laySs (own + 1) l
def magicL : List UInt8 := [67, 83, 1]
def layT (n : Nat) (l : List DSt) (init : Nat) : List UInt8 := magicL ++ (enc n ++ enc l.length) ++ laySs 0 l ++ enc init

/-- What is read: or a fault, and where. -/
abbrev Rd (α : Type) := Except (Nat × Nat) (α × Nat)
def numR (s : List UInt8) (at_ : Nat) (least most : Nat) : Rd Nat :=
  let g := Plain.get s (at_ : Int)
  if g.2.2 ≠ 0 then .error (g.2.2, at_) else if g.1 < least ∨ most < g.1 then .error (17, at_) else .ok (g.1, g.2.1.toNat)
def letR (s : List UInt8) (at_ : Nat) : Rd UInt8 := if h : at_ < s.length then .ok (s[at_], at_ + 1) else .error (3, at_)
def arcR (s : List UInt8) (own at_ : Nat) : Rd DArc :=
  match letR s at_ with
  | .error e => .error e
  | .ok (b, a1) => match numR s a1 0 18446744073709551615 with
    | .error e => .error e
    | .ok (o, a2) => match numR s a2 1 own with
      | .error e => .error e
      | .ok (t, a3) => .ok (⟨b.toNat, o, (own : Int) - t⟩, a3)
def arcsR (s : List UInt8) (own : Nat) : Nat → Nat → List DArc → Rd (List DArc)
  | 0, at_, acc => .ok (acc, at_)
  | k + 1, at_, acc => match arcR s own at_ with
    | .error e => .error e
    | .ok (a, a1) => arcsR s own k a1 (acc ++ [a])
def stEnd (f : Bool) (o : Nat) : Rd (List DArc) → Rd DSt
  | .error e => .error e
  | .ok (l, a) => .ok (⟨l, f, o⟩, a)
def stR (s : List UInt8) (own at_ : Nat) : Rd DSt :=
  match numR s at_ 0 513 with
  | .error e => .error e
  | .ok (t, a1) =>
    match (if t % 2 = 1 then numR s a1 0 18446744073709551615 else .ok (0, a1) : Rd Nat) with
    | .error e => .error e
    | .ok (o, a2) => stEnd (t % 2 == 1) o (arcsR s own (t / 2) a2 [])
def stsR (s : List UInt8) (many : Nat) : Nat → Nat → Nat → List DSt → Rd (List DSt)
  | 0, _, at_, acc => .error (3, at_)
  | f + 1, own, at_, acc => if many ≤ own then .ok (acc, at_) else match stR s own at_ with
    | .error e => .error e
    | .ok (x, a1) => stsR s many f (own + 1) a1 (acc ++ [x])
def magR (s : List UInt8) : Nat → Nat → Option (Nat × Nat)
  | 0, _ => none
  | f + 1, at_ => if at_ < 3 then (if h : at_ < s.length then (if s[at_] = magicL.getD at_ 0 then magR s f (at_ + 1) else some (6, at_)) else some (3, at_)) else none
/-- Of what was sealed: the number of entries, the states, what goes ahead. -/
def bodyR (s : List UInt8) : Except (Nat × Nat) (Nat × List DSt × Nat) :=
  match magR s 4 0 with
  | some e => .error e
  | none => match numR s 3 0 100000 with
    | .error e => .error e
    | .ok (n, a1) => match numR s a1 1 18446744073709551615 with
      | .error e => .error e
      | .ok (m, a2) => match stsR s m (s.length + 2) 0 a2 [] with
        | .error e => .error e
        | .ok (l, a3) => match numR s a3 0 18446744073709551615 with
          | .error e => .error e
          | .ok (i, a4) => if a4 = s.length then .ok (n, l, i) else .error (4, a4)

end Go.Proofs.YtjiilmiikejnhaaDoor
namespace Go.Proofs.YtjiilmiikejnhaaDoor
open Plain

theorem enc_pos {k : Nat} (hk : k < 18446744073709551616) : 1 ≤ (enc k).length := by rw [enc_length]; exact (size_bounds hk).1
theorem drop_next {s X T : List UInt8} {a : Nat} (h : s.drop a = X ++ T) : s.drop (a + X.length) = T := by
  rw [← List.drop_drop, h, List.drop_left]
theorem drop_lt {s T : List UInt8} {a : Nat} {c : UInt8} (h : s.drop a = c :: T) : a < s.length := by
  have := congrArg List.length h
  simp at this
  omega

theorem numR_enc {s T : List UInt8} {a k lo hi : Nat} (hk : k < 18446744073709551616) (h1 : lo ≤ k) (h2 : k ≤ hi) (h : s.drop a = enc k ++ T) : numR s a lo hi = .ok (k, a + (enc k).length) := by
  have hp := enc_pos hk
  have hlt : a < s.length := by
    have := congrArg List.length h
    simp at this
    omega
  unfold numR
  rw [get_at hlt, h, getL_enc hk]
  dsimp only
  rw [if_neg (by simp), if_neg (by omega), enc_length]
  have e : ((a : Int) + (Plain.size k : Nat)).toNat = a + Plain.size k := by omega
  rw [e]

theorem letR_at {s T : List UInt8} {a : Nat} {c : UInt8} (h : s.drop a = c :: T) : letR s a = .ok (c, a + 1) := by
  have hlt := drop_lt h
  unfold letR
  rw [dif_pos hlt]
  have : s[a] = c := by
    have h0 := List.drop_eq_getElem_cons hlt
    rw [h] at h0
    exact ((List.cons.inj h0).1).symm
  rw [this]

theorem arcR_lay {s T : List UInt8} {a own : Nat} {x : DArc} (hx : x.ok) (hm : mayA own x = true) (ho : own < 18446744073709551616) (h : s.drop a = layA own x ++ T) :
    arcR s own a = .ok (x, a + (layA own x).length) := by
  obtain ⟨b, o, t⟩ := x
  obtain ⟨h1, h2, _, _⟩ := hx
  simp only [mayA, Bool.and_eq_true, decide_eq_true_eq] at hm h1 h2
  obtain ⟨h3, h4⟩ := hm
  obtain ⟨d, hd⟩ : ∃ d : Nat, (own : Int) - t = (d : Int) := ⟨((own : Int) - t).toNat, by omega⟩
  have e : layA own ⟨b, o, t⟩ = UInt8.ofNat b :: (enc o ++ enc d) := by
    simp only [layA, hd]
    rfl
  rw [e] at h ⊢
  have g0 : s.drop a = UInt8.ofNat b :: (enc o ++ (enc d ++ T)) := by rw [h]; simp
  have g1 : s.drop (a + 1) = enc o ++ (enc d ++ T) := drop_next (X := [UInt8.ofNat b]) (by simpa using g0)
  have g2 := drop_next g1
  unfold arcR
  rw [letR_at g0]
  dsimp only
  rw [numR_enc h2 (Nat.zero_le _) (by omega) g1]
  dsimp only
  rw [numR_enc (by omega) (by omega) (by omega) g2]
  dsimp only
  have hb : (UInt8.ofNat b).toNat = b := by simp; omega
  have ht : (own : Int) - (d : Nat) = t := by omega
  rw [hb, ht]
  simp
  omega

theorem arcsR_lay {s : List UInt8} {own : Nat} (ho : own < 18446744073709551616) : ∀ (l : List DArc) (T : List UInt8) (a : Nat) (acc : List DArc), (∀ x ∈ l, x.ok) → l.all (mayA own) = true → s.drop a = l.flatMap (layA own) ++ T →
    arcsR s own l.length a acc = .ok (acc ++ l, a + (l.flatMap (layA own)).length)
  | [], T, a, acc, _, _, _ => by simp [arcsR]
  | x :: l, T, a, acc, hok, hm, h => by
    simp only [List.all_cons, Bool.and_eq_true] at hm
    rw [List.flatMap_cons, List.append_assoc] at h
    rw [List.length_cons]
    unfold arcsR
    rw [arcR_lay (hok x (by simp)) hm.1 ho h]
    dsimp only
    rw [arcsR_lay ho l T (a + (layA own x).length) (acc ++ [x]) (fun y hy => hok y (by simp [hy])) hm.2 (drop_next h)]
    simp
    omega

theorem stR_lay {s T : List UInt8} {own a : Nat} {x : DSt} (ho : own < 18446744073709551616) (hx : x.ok) (hm : mayS own x = true) (h : s.drop a = layS own x ++ T) :
    stR s own a = .ok (x, a + (layS own x).length) := by
  obtain ⟨l, f, o⟩ := x
  obtain ⟨h1, h2⟩ := hx
  simp only [mayS, Bool.and_eq_true, decide_eq_true_eq, Bool.or_eq_true, beq_iff_eq] at hm h1 h2
  obtain ⟨h3, h4, h5⟩ := hm
  unfold layS headS at h ⊢
  dsimp only at h ⊢
  cases f with
  | true =>
    simp only [if_true, List.append_assoc] at h ⊢
    have g1 := drop_next h
    have g2 := drop_next g1
    unfold stR
    rw [numR_enc (by omega) (by omega) (by omega) h]
    dsimp only
    rw [if_pos (by omega), numR_enc h2 (Nat.zero_le _) (by omega) g1]
    dsimp only
    rw [show (2 * l.length + 1) / 2 = l.length by omega, arcsR_lay ho l T _ [] h1 h5 g2]
    have : ((2 * l.length + 1) % 2 == 1) = true := by rw [beq_iff_eq]; omega
    rw [this]
    simp [stEnd]
    omega
  | false =>
    have ho' : o = 0 := by simpa using h4
    subst ho'
    simp only [Bool.false_eq_true, if_false, List.append_assoc] at h ⊢
    have g1 := drop_next h
    unfold stR
    rw [numR_enc (by omega) (by omega) (by omega) h]
    dsimp only
    rw [if_neg (by omega)]
    dsimp only
    rw [show (2 * l.length) / 2 = l.length by omega, arcsR_lay ho l T _ [] h1 h5 g1]
    have : ((2 * l.length) % 2 == 1) = false := by rw [beq_eq_false_iff_ne]; omega
    rw [this]
    simp [stEnd]
    omega

theorem headS_pos (x : DSt) : 1 ≤ (headS x).length ∨ 18446744073709551616 ≤ 2 * x.arcs.length + 1 := by
  rcases Nat.lt_or_ge (2 * x.arcs.length + 1) 18446744073709551616 with h | h
  · left
    unfold headS
    split
    · rw [List.length_append]
      have := enc_pos h
      omega
    · exact enc_pos (by omega)
  · exact .inr h

theorem stsR_lay {s : List UInt8} {many : Nat} (hM : many < 18446744073709551616) : ∀ (l : List DSt) (T : List UInt8) (own a f : Nat) (acc : List DSt), many = own + l.length → l.length < f → (∀ x ∈ l, x.ok) → maySs own l = true → s.drop a = laySs own l ++ T →
    stsR s many f own a acc = .ok (acc ++ l, a + (laySs own l).length)
  | [], T, own, a, 0, acc, hm, hf, _, _, _ => by simp at hf
  | [], T, own, a, f + 1, acc, hm, hf, _, _, _ => by
    unfold stsR
    simp at hm
    rw [if_pos (by omega)]
    simp [laySs]
  | x :: l, T, own, a, 0, acc, hm, hf, _, _, _ => by simp at hf
  | x :: l, T, own, a, f + 1, acc, hm, hf, hok, hmay, h => by
    simp only [maySs, Bool.and_eq_true] at hmay
    simp only [laySs, List.append_assoc] at h
    simp only [List.length_cons] at hm hf
    unfold stsR
    rw [if_neg (by omega), stR_lay (by omega) (hok x (by simp)) hmay.1 h]
    dsimp only
    rw [stsR_lay hM l T (own + 1) _ f (acc ++ [x]) (by omega) (by omega) (fun y hy => hok y (by simp [hy])) hmay.2 (drop_next h)]
    simp [laySs]
    omega

theorem laySs_len : ∀ (l : List DSt) (own : Nat), maySs own l = true → l.length ≤ (laySs own l).length
  | [], _, _ => by simp
  | x :: l, own, h => by
    simp only [maySs, Bool.and_eq_true] at h
    have h2 := laySs_len l (own + 1) h.2
    have h3 := h.1
    simp only [mayS, Bool.and_eq_true, decide_eq_true_eq] at h3
    have h1 := headS_pos x
    simp only [laySs, layS, List.length_append, List.length_cons]
    omega

theorem magR_lay (T : List UInt8) : magR (magicL ++ T) 4 0 = none := by
  simp [magR, magicL]

theorem bodyR_lay {n init : Nat} {l : List DSt} (hn : n ≤ 100000) (hi : init < 18446744073709551616) (hl : l ≠ []) (hL : l.length < 18446744073709551616) (hok : ∀ x ∈ l, x.ok) (hm : maySs 0 l = true) :
    bodyR (layT n l init) = .ok (n, l, init) := by
  have hlen := laySs_len l 0 hm
  have hpos : 1 ≤ l.length := by
    cases l with
    | nil => exact absurd rfl hl
    | cons _ _ => simp
  obtain ⟨s, hs⟩ : ∃ s, s = layT n l init := ⟨_, rfl⟩
  have h0 : s.drop 0 = magicL ++ (enc n ++ (enc l.length ++ (laySs 0 l ++ (enc init ++ [])))) := by rw [hs]; simp [layT]
  have h1 := drop_next h0
  have h2 := drop_next h1
  have h3 := drop_next h2
  have h4 := drop_next h3
  have hS : s.length = 3 + (enc n).length + (enc l.length).length + (laySs 0 l).length + (enc init).length := by
    rw [hs]; simp [layT, magicL]; omega
  rw [← hs]
  unfold bodyR
  have hmag : magR s 4 0 = none := by
    have : s = magicL ++ (enc n ++ (enc l.length ++ (laySs 0 l ++ (enc init ++ [])))) := by simpa using h0
    rw [this]
    exact magR_lay _
  rw [hmag]
  dsimp only
  rw [show (0 : Nat) + magicL.length = 3 from rfl] at h1 h2 h3 h4
  rw [numR_enc (by omega) (Nat.zero_le _) hn h1]
  dsimp only
  rw [numR_enc hL hpos (by omega) h2]
  dsimp only
  rw [stsR_lay hL l _ 0 _ (s.length + 2) [] (by omega) (by omega) hok hm h3]
  dsimp only
  rw [numR_enc hi (Nat.zero_le _) (by omega) h4]
  dsimp only
  rw [if_pos (by omega)]
  simp

/-! ### what is read is laid just so -/
theorem numR_ok {s : List UInt8} {a lo hi k b : Nat} (h : numR s a lo hi = .ok (k, b)) : s.drop a = enc k ++ s.drop b ∧ lo ≤ k ∧ k ≤ hi ∧ k < 18446744073709551616 ∧ a < b ∧ b ≤ s.length := by
  unfold numR at h
  dsimp only at h
  split at h
  · cases h
  rename_i h0
  split at h
  · cases h
  rename_i h1
  obtain ⟨k', u, e1, e2, e3, e4, e5, e6⟩ := get_ok (Classical.not_not.1 h0)
  have e1' : k' = a := by omega
  subst e1'
  simp only [Except.ok.injEq, Prod.mk.injEq] at h
  obtain ⟨hk, hb⟩ := h
  rw [e2] at hb
  have hb' : b = k' + u := by omega
  rw [hk] at e5 e6 h1
  subst hb'
  refine ⟨?_, by omega, by omega, e6, by omega, e4⟩
  rw [e5, ← List.drop_drop, List.take_append_drop]

theorem letR_ok {s : List UInt8} {a b : Nat} {c : UInt8} (h : letR s a = .ok (c, b)) : s.drop a = c :: s.drop b ∧ b = a + 1 ∧ b ≤ s.length := by
  unfold letR at h
  split at h
  · rename_i hlt
    simp only [Except.ok.injEq, Prod.mk.injEq] at h
    obtain ⟨rfl, rfl⟩ := h
    exact ⟨List.drop_eq_getElem_cons hlt, rfl, hlt⟩
  · cases h

theorem arcR_ok {s : List UInt8} {own a b : Nat} {x : DArc} (ho : own < 9223372036854775808) (h : arcR s own a = .ok (x, b)) : s.drop a = layA own x ++ s.drop b ∧ x.ok ∧ mayA own x = true ∧ a < b ∧ b ≤ s.length := by
  unfold arcR at h
  split at h
  · cases h
  rename_i c a1 h1
  split at h
  · cases h
  rename_i o a2 h2
  split at h
  · cases h
  rename_i t a3 h3
  simp only [Except.ok.injEq, Prod.mk.injEq] at h
  obtain ⟨rfl, rfl⟩ := h
  obtain ⟨g1, g2, g3⟩ := letR_ok h1
  obtain ⟨k1, k2, k3, k4, k5, k6⟩ := numR_ok h2
  obtain ⟨m1, m2, m3, m4, m5, m6⟩ := numR_ok h3
  have hd : ((own : Int) - ((own : Int) - (t : Nat))).toNat = t := by omega
  have hc : UInt8.ofNat c.toNat = c := by simp
  refine ⟨?_, ⟨UInt8.toNat_lt c, k4, ?_, ?_⟩, ?_, by omega, m6⟩
  · simp only [layA, hd, hc]
    rw [g1, k1, m1]
    simp
  · show -9223372036854775808 ≤ (own : Int) - (t : Nat)
    omega
  · show (own : Int) - (t : Nat) < 9223372036854775808
    omega
  · simp only [mayA, Bool.and_eq_true, decide_eq_true_eq]
    omega

theorem arcsR_ok {s : List UInt8} {own : Nat} (ho : own < 9223372036854775808) : ∀ (k a b : Nat) (acc r : List DArc), a ≤ s.length → arcsR s own k a acc = .ok (r, b) →
    ∃ l, r = acc ++ l ∧ l.length = k ∧ s.drop a = l.flatMap (layA own) ++ s.drop b ∧ (∀ x ∈ l, x.ok) ∧ l.all (mayA own) = true ∧ a ≤ b ∧ b ≤ s.length
  | 0, a, b, acc, r, hle, h => by
    unfold arcsR at h
    simp only [Except.ok.injEq, Prod.mk.injEq] at h
    obtain ⟨rfl, rfl⟩ := h
    exact ⟨[], by simp, rfl, by simp, by simp, rfl, Nat.le_refl _, hle⟩
  | k + 1, a, b, acc, r, hle, h => by
    unfold arcsR at h
    split at h
    · cases h
    rename_i x a1 h1
    obtain ⟨g1, g2, g3, g4, g5⟩ := arcR_ok ho h1
    obtain ⟨l, rfl, e2, e3, e4, e5, e6, e7⟩ := arcsR_ok ho k a1 b _ r g5 h
    refine ⟨x :: l, by simp, by simp [e2], ?_, ?_, by simp [g3, e5], by omega, e7⟩
    · rw [g1, e3]; simp
    · intro y hy
      rcases List.mem_cons.1 hy with rfl | hy
      · exact g2
      · exact e4 y hy

theorem stR_ok {s : List UInt8} {own a b : Nat} {x : DSt} (ho : own < 9223372036854775808) (h : stR s own a = .ok (x, b)) : s.drop a = layS own x ++ s.drop b ∧ x.ok ∧ mayS own x = true ∧ a < b ∧ b ≤ s.length := by
  unfold stR at h
  split at h
  · cases h
  rename_i t a1 h1
  obtain ⟨g1, g2, g3, g4, g5, g6⟩ := numR_ok h1
  split at h
  · cases h
  rename_i o a2 h2
  unfold stEnd at h
  split at h
  · cases h
  rename_i l a3 h3
  simp only [Except.ok.injEq, Prod.mk.injEq] at h
  obtain ⟨rfl, rfl⟩ := h
  rcases Nat.mod_two_eq_zero_or_one t with ht | ht
  · rw [if_neg (by omega)] at h2
    simp only [Except.ok.injEq, Prod.mk.injEq] at h2
    obtain ⟨rfl, rfl⟩ := h2
    obtain ⟨l', e1, e2, e3, e4, e5, e6, e7⟩ := arcsR_ok ho _ _ _ _ _ g6 h3
    simp at e1
    subst e1
    have hb : (t % 2 == 1) = false := by rw [beq_eq_false_iff_ne]; omega
    rw [hb]
    have ht2 : t = 2 * l.length := by omega
    refine ⟨?_, ⟨e4, by show (0 : Nat) < 18446744073709551616; omega⟩, ?_, by omega, e7⟩
    · unfold layS headS
      dsimp only
      rw [if_neg (by simp), g1, e3, ← ht2]
      simp
    · simp only [mayS, Bool.and_eq_true, decide_eq_true_eq, e5, Bool.or_eq_true, beq_iff_eq]
      exact ⟨by omega, by simp, trivial⟩
  · rw [if_pos ht] at h2
    obtain ⟨k1, k2, k3, k4, k5, k6⟩ := numR_ok h2
    obtain ⟨l', e1, e2, e3, e4, e5, e6, e7⟩ := arcsR_ok ho _ _ _ _ _ k6 h3
    simp at e1
    subst e1
    have hb : (t % 2 == 1) = true := by rw [beq_iff_eq]; omega
    rw [hb]
    have ht2 : t = 2 * l.length + 1 := by omega
    refine ⟨?_, ⟨e4, k4⟩, ?_, by omega, e7⟩
    · unfold layS headS
      dsimp only
      rw [if_pos rfl, g1, k1, e3, ← ht2]
      simp
    · simp only [mayS, Bool.and_eq_true, decide_eq_true_eq, e5, Bool.or_eq_true, beq_iff_eq]
      exact ⟨by omega, by simp, trivial⟩

theorem stsR_ok {s : List UInt8} {many : Nat} (hS : s.length < 9223372036854775808) : ∀ (f own a b : Nat) (acc r : List DSt), own ≤ a → a ≤ s.length → stsR s many f own a acc = .ok (r, b) →
    ∃ l, r = acc ++ l ∧ (own ≤ many → own + l.length = many) ∧ s.drop a = laySs own l ++ s.drop b ∧ (∀ x ∈ l, x.ok) ∧ maySs own l = true ∧ a ≤ b ∧ b ≤ s.length
  | 0, own, a, b, acc, r, _, _, h => by unfold stsR at h; cases h
  | f + 1, own, a, b, acc, r, ho, hle, h => by
    unfold stsR at h
    split at h
    · rename_i hm
      simp only [Except.ok.injEq, Prod.mk.injEq] at h
      obtain ⟨rfl, rfl⟩ := h
      exact ⟨[], by simp, by intro h2; simp; omega, by simp [laySs], by simp, rfl, Nat.le_refl _, hle⟩
    · rename_i hm
      split at h
      · cases h
      rename_i x a1 h1
      obtain ⟨g1, g2, g3, g4, g5⟩ := stR_ok (by omega) h1
      obtain ⟨l, rfl, e2, e3, e4, e5, e6, e7⟩ := stsR_ok hS f (own + 1) a1 b _ r (by omega) g5 h
      refine ⟨x :: l, by simp, ?_, ?_, ?_, by simp [maySs, g3, e5], by omega, e7⟩
      · intro h2
        have := e2 (by omega)
        simp
        omega
      · rw [g1, e3]; simp [laySs]
      · intro y hy
        rcases List.mem_cons.1 hy with rfl | hy
        · exact g2
        · exact e4 y hy

theorem magR_ok {s : List UInt8} (h : magR s 4 0 = none) : s = magicL ++ s.drop 3 := by
  match s with
  | [] => simp [magR] at h
  | [a] => simp [magR] at h; split at h <;> simp_all
  | [a, b] => simp [magR] at h; split at h <;> simp_all; split at h <;> simp_all
  | a :: b :: c :: s =>
    simp [magR, magicL] at h ⊢
    split at h
    · split at h
      · split at h
        · rename_i h1 h2 h3
          exact ⟨h1, h2, h3⟩
        · cases h
      · cases h
    · cases h

theorem bodyR_ok {s : List UInt8} (hS : s.length < 9223372036854775808) {n init : Nat} {l : List DSt} (h : bodyR s = .ok (n, l, init)) :
    s = layT n l init ∧ n ≤ 100000 ∧ init < 18446744073709551616 ∧ l ≠ [] ∧ (∀ x ∈ l, x.ok) ∧ maySs 0 l = true ∧ l.length ≤ s.length := by
  unfold bodyR at h
  split at h
  · cases h
  rename_i h0
  split at h
  · cases h
  rename_i n' a1 h1
  split at h
  · cases h
  rename_i m a2 h2
  split at h
  · cases h
  rename_i l' a3 h3
  split at h
  · cases h
  rename_i i a4 h4
  split at h
  · rename_i h5
    simp only [Except.ok.injEq, Prod.mk.injEq] at h
    obtain ⟨rfl, rfl, rfl⟩ := h
    obtain ⟨g1, g2, g3, g4, g5, g6⟩ := numR_ok h1
    obtain ⟨k1, k2, k3, k4, k5, k6⟩ := numR_ok h2
    obtain ⟨l2, e1, e2, e3, e4, e5, e6, e7⟩ := stsR_ok hS _ _ _ _ _ _ (Nat.zero_le _) k6 h3
    obtain ⟨m1, m2, m3, m4, m5, m6⟩ := numR_ok h4
    simp at e1
    subst e1
    have hm : l'.length = m := by have := e2 (Nat.zero_le _); omega
    have hs : s = layT n' l' i := by
      have := magR_ok h0
      rw [g1, k1, e3, m1, h5, List.drop_length, ← hm] at this
      rw [this]
      simp [layT]
    refine ⟨hs, g3, m4, ?_, e4, e5, ?_⟩
    · intro he
      subst he
      simp at hm
      omega
    · have := laySs_len l' 0 e5
      have h6 := congrArg List.length e3
      simp at h6
      omega
  · cases h

end Go.Proofs.YtjiilmiikejnhaaDoor

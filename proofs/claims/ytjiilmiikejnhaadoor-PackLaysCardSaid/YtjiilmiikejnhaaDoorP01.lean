/-
  Plain mathematics of numbers in as few bytes as they need: the bytes of a number, of a row of numbers, and what stands in any bytes. Nothing of the program stands here. Plain mathematics of transducers' bytes: laid, and read. Nothing of the program stands here. Plain mathematics: what was laid comes back, and what is read is laid just so. Plain mathematics of the transducers that are drawn. Plain mathematics: bytes read as the document's answer reads them, up to the first fault; it is what bodyR tells.
-/
import Derived.Lib.BitFns
set_option linter.unusedVariables false
set_option linter.unusedSimpArgs false
namespace Go.Proofs.YtjiilmiikejnhaaDoor.Plain

/-- How many bytes a number needs, one at least. -/
def nbF : Nat → Nat → Nat
  | 0, _ => 1
  | k + 1, n => if n < 256 then 1 else nbF k (n / 256) + 1
def nb (n : Nat) : Nat := nbF 8 n
/-- The m lowest bytes of n, the lowest one first. -/
def low : Nat → Nat → List UInt8
  | _, 0 => []
  | n, m + 1 => UInt8.ofNat (n % 256) :: low (n / 256) m
def enc (n : Nat) : List UInt8 := if n ≤ 247 then [UInt8.ofNat n] else UInt8.ofNat (247 + nb n) :: low n (nb n)
def size (n : Nat) : Nat := if n ≤ 247 then 1 else 1 + nb n
def encs (l : List Nat) : List UInt8 := l.flatMap enc
def val : List UInt8 → Nat
  | [] => 0
  | b :: r => b.toNat + 256 * val r
/-- What stands at the beginning of bytes: the number, how many bytes, the error. -/
def getL : List UInt8 → Nat × Nat × Nat
  | [] => (0, 0, 3)
  | b :: r => if b.toNat ≤ 247 then (b.toNat, 1, 0) else if r.length < b.toNat - 247 then (0, 0, 3) else
    if size (val (r.take (b.toNat - 247))) = 1 + (b.toNat - 247) then (val (r.take (b.toNat - 247)), 1 + (b.toNat - 247), 0) else (0, 0, 5)
def get (s : List UInt8) (at' : Int) : Nat × Int × Nat :=
  if at' < 0 ∨ (s.length : Int) ≤ at' then (0, at', 3) else ((getL (s.drop at'.toNat)).1, at' + ((getL (s.drop at'.toNat)).2.1 : Nat), (getL (s.drop at'.toNat)).2.2)
/-- Numbers, one behind the other, behind those that have been had. -/
def rowFrom (s : List UInt8) : Nat → List Nat → Int → List Nat × Int × Nat
  | 0, acc, p => (acc, p, 0)
  | k + 1, acc, p => if (get s p).2.2 = 0 then rowFrom s k (acc ++ [(get s p).1]) (get s p).2.1 else ([], (get s p).2.1, (get s p).2.2)
def row (s : List UInt8) (at' : Int) (many : Int) : List Nat × Int × Nat := rowFrom s many.toNat [] at'

theorem nbF_bounds : ∀ (k n : Nat), n < 256 ^ (k + 1) → 1 ≤ nbF k n ∧ nbF k n ≤ k + 1 ∧ n < 256 ^ nbF k n ∧ (2 ≤ nbF k n → 256 ^ (nbF k n - 1) ≤ n)
  | 0, n, h => by simp [nbF] at h ⊢; exact h
  | k + 1, n, h => by
    unfold nbF
    split
    · rename_i h2
      exact ⟨Nat.le_refl _, by omega, by simpa using h2, by omega⟩
    · rename_i h2
      have hd : n / 256 < 256 ^ (k + 1) := by rw [Nat.div_lt_iff_lt_mul (by omega)]; rw [Nat.pow_succ] at h; exact h
      obtain ⟨a, b, c, d⟩ := nbF_bounds k (n / 256) hd
      refine ⟨by omega, by omega, ?_, fun _ => ?_⟩
      · rw [Nat.pow_succ]; omega
      · rw [Nat.add_sub_cancel]
        rcases Nat.lt_or_ge (nbF k (n / 256)) 2 with g | g
        · rw [show nbF k (n / 256) = 1 by omega]; simp; omega
        · have d' := d g
          obtain ⟨m, hm⟩ : ∃ m, nbF k (n / 256) = m + 1 := ⟨nbF k (n / 256) - 1, by omega⟩
          rw [hm] at d' ⊢
          rw [Nat.add_sub_cancel] at d'
          rw [Nat.pow_succ]; omega

theorem nb_bounds {n : Nat} (h : n < 18446744073709551616) : 1 ≤ nb n ∧ nb n ≤ 8 ∧ n < 256 ^ nb n ∧ (2 ≤ nb n → 256 ^ (nb n - 1) ≤ n) := by
  obtain ⟨a, b, c, d⟩ := nbF_bounds 7 n (by simpa using h)
  have e : nb n = nbF 7 n := by
    unfold nb
    have : ∀ (k n : Nat), n < 256 ^ (k + 1) → nbF (k + 1) n = nbF k n := by
      intro k
      induction k with
      | zero => intro n h; simp [nbF] at h ⊢; omega
      | succ k ih => 
        intro n h
        rw [show nbF (k + 1 + 1) n = if n < 256 then 1 else nbF (k + 1) (n / 256) + 1 from rfl, show nbF (k + 1) n = if n < 256 then 1 else nbF k (n / 256) + 1 from rfl]
        split
        · rfl
        · rw [ih]; rw [Nat.div_lt_iff_lt_mul (by omega)]; rw [Nat.pow_succ] at h; exact h
    exact this 7 n (by simpa using h)
  rw [e]; exact ⟨a, b, c, d⟩

/-- A number that is below 256^m, and not below 256^(m-1), needs m bytes. -/
theorem nb_eq {n m : Nat} (h : n < 18446744073709551616) (h1 : 1 ≤ m) (h2 : n < 256 ^ m) (h3 : 2 ≤ m → 256 ^ (m - 1) ≤ n) : nb n = m := by
  obtain ⟨a, _, c, d⟩ := nb_bounds h
  rcases Nat.lt_trichotomy (nb n) m with g | g | g
  · have h3' := h3 (by omega)
    have : 256 ^ nb n ≤ 256 ^ (m - 1) := Nat.pow_le_pow_right (by omega) (by omega)
    omega
  · exact g
  · have d' := d (by omega)
    have : 256 ^ m ≤ 256 ^ (nb n - 1) := Nat.pow_le_pow_right (by omega) (by omega)
    omega

theorem nb_bitLen_aux : ∀ (k n : Nat), n ≠ 0 → n < 256 ^ (k + 1) → n < 18446744073709551616 → (Lib.bitLen n + 7) / 8 = nbF k n
  | 0, n, h0, h, hb => by
    have h' : n < 256 := by simpa using h
    have a := Lib.bitLen_le8 ⟨n, h'⟩
    have b : 1 ≤ Lib.bitLen n := by rw [Lib.bitLen_half n h0 (by simpa using hb)]; omega
    simp only at a
    simp only [nbF]; omega
  | k + 1, n, h0, h, hb => by
    unfold nbF
    split
    · rename_i h'
      have a := Lib.bitLen_le8 ⟨n, h'⟩
      have b : 1 ≤ Lib.bitLen n := by rw [Lib.bitLen_half n h0 (by simpa using hb)]; omega
      simp only at a
      omega
    · rename_i h'
      have := nb_bitLen_aux k (n / 256) (by omega) (by rw [Nat.div_lt_iff_lt_mul (by omega)]; rw [Nat.pow_succ] at h; exact h) (by omega)
      rw [Lib.bitLen_shift8 n (by omega) hb, ← this]
      omega
theorem nb_bitLen {n : Nat} (h0 : n ≠ 0) (h : n < 18446744073709551616) : (Lib.bitLen n + 7) / 8 = nb n :=
  nb_bitLen_aux 8 n h0 (Nat.lt_of_lt_of_le h (by decide)) h

theorem size_bounds {n : Nat} (h : n < 18446744073709551616) : 1 ≤ size n ∧ size n ≤ 9 := by
  obtain ⟨a, b, _⟩ := nb_bounds h
  unfold size; split <;> omega

theorem low_length : ∀ (n m : Nat), (low n m).length = m
  | _, 0 => rfl
  | n, m + 1 => by simp [low, low_length]
theorem enc_length (n : Nat) : (enc n).length = size n := by
  unfold enc size; split
  · rfl
  · simp [low_length]; omega
theorem val_low : ∀ (m n : Nat), val (low n m) = n % 256 ^ m
  | 0, n => by simp [low, val, Nat.mod_one]
  | m + 1, n => by
    simp only [low, val, val_low m, UInt8.toNat_ofNat']
    rw [show (256 : Nat) ^ (m + 1) = 256 * 256 ^ m by rw [Nat.pow_succ, Nat.mul_comm], Nat.mod_mul]; omega
theorem low_val : ∀ (l : List UInt8), low (val l) l.length = l
  | [] => rfl
  | b :: r => by
    have hb : b.toNat < 256 := b.toNat_lt
    simp only [val, List.length_cons, low]
    rw [show (b.toNat + 256 * val r) / 256 = val r by omega, low_val r, show (b.toNat + 256 * val r) % 256 = b.toNat by omega]
    simp
theorem val_lt : ∀ (l : List UInt8), val l < 256 ^ l.length
  | [] => by simp [val]
  | b :: r => by
    have hb : b.toNat < 256 := b.toNat_lt
    have := val_lt r
    simp only [val, List.length_cons, Nat.pow_succ]; omega
theorem pow_le8 {m : Nat} (h : m ≤ 8) : 256 ^ m ≤ 18446744073709551616 :=
  Nat.le_trans (Nat.pow_le_pow_right (by omega) h) (by decide)
theorem val_lt64 {l : List UInt8} (h : l.length ≤ 8) : val l < 18446744073709551616 := Nat.lt_of_lt_of_le (val_lt l) (pow_le8 h)

/-- What is put is had, whatever stands behind it. -/
theorem getL_enc {n : Nat} (h : n < 18446744073709551616) (r : List UInt8) : getL (enc n ++ r) = (n, size n, 0) := by
  obtain ⟨a, b, c, d⟩ := nb_bounds h
  unfold enc size
  split
  · rename_i h'
    simp [getL, h', Nat.mod_eq_of_lt (show n < 256 by omega)]
  · rename_i h'
    have e : (UInt8.ofNat (247 + nb n)).toNat = 247 + nb n := by
      rw [UInt8.toNat_ofNat']; exact Nat.mod_eq_of_lt (by omega)
    have v : val (low n (nb n)) = n := by rw [val_low]; exact Nat.mod_eq_of_lt c
    simp only [List.cons_append, getL, e]
    rw [if_neg (by omega), show 247 + nb n - 247 = nb n by omega, if_neg (by simp [low_length]), List.take_append_of_le_length (by rw [low_length]; exact Nat.le_refl _), List.take_of_length_le (by rw [low_length]; exact Nat.le_refl _), v, if_pos (by unfold size; rw [if_neg h'])]

/-- What is had is put just so. -/
theorem getL_ok {l : List UInt8} (h : (getL l).2.2 = 0) : enc (getL l).1 = l.take (getL l).2.1 ∧ 1 ≤ (getL l).2.1 ∧ (getL l).2.1 ≤ l.length ∧ (getL l).1 < 18446744073709551616 := by
  cases l with
  | nil => simp [getL] at h
  | cons b r =>
    have hb : b.toNat < 256 := b.toNat_lt
    simp only [getL] at h ⊢
    split
    · rename_i h1
      refine ⟨?_, Nat.le_refl _, by simp, by show b.toNat < _; omega⟩
      unfold enc; rw [if_pos h1]; simp
    · rename_i h1
      rw [if_neg h1] at h
      split
      · rename_i h2; rw [if_pos h2] at h; simp at h
      · rename_i h2
        rw [if_neg h2] at h
        split
        · rename_i h3
          have hl : (r.take (b.toNat - 247)).length = b.toNat - 247 := by rw [List.length_take]; omega
          have hv : val (r.take (b.toNat - 247)) < 18446744073709551616 := val_lt64 (by rw [hl]; omega)
          simp only
          refine ⟨?_, by omega, by simp; omega, hv⟩
          have hn : ¬ val (r.take (b.toNat - 247)) ≤ 247 := by
            intro hc; unfold size at h3; rw [if_pos hc] at h3; omega
          have h3' := h3
          unfold size at h3'; rw [if_neg hn] at h3'
          have hnb : nb (val (r.take (b.toNat - 247))) = b.toNat - 247 := by omega
          unfold enc; rw [if_neg hn, hnb, show 247 + (b.toNat - 247) = b.toNat by omega]
          have := low_val (r.take (b.toNat - 247))
          rw [hl] at this
          rw [this, show 1 + (b.toNat - 247) = (b.toNat - 247) + 1 by omega, List.take_succ_cons]
          simp
        · rename_i h3; rw [if_neg h3] at h; simp at h
theorem getL_bad {l : List UInt8} (h : (getL l).2.2 ≠ 0) : (getL l).1 = 0 ∧ (getL l).2.1 = 0 := by
  unfold getL at h ⊢
  split
  · exact ⟨rfl, rfl⟩
  · rename_i b r
    simp only at h
    split
    · rename_i h1; rw [if_pos h1] at h; simp at h
    · rename_i h1
      rw [if_neg h1] at h
      split
      · exact ⟨rfl, rfl⟩
      · rename_i h2
        rw [if_neg h2] at h
        split
        · rename_i h3; rw [if_pos h3] at h; simp at h
        · exact ⟨rfl, rfl⟩
/-- A number that is cut can't be had. -/
theorem getL_cut {n k : Nat} (h : n < 18446744073709551616) (hk : k < size n) : getL ((enc n).take k) = (0, 0, 3) := by
  obtain ⟨a, b, c, d⟩ := nb_bounds h
  unfold enc
  unfold size at hk
  split
  · rename_i h'
    rw [if_pos h'] at hk
    rw [show k = 0 by omega]; rfl
  · rename_i h'
    rw [if_neg h'] at hk
    cases k with
    | zero => rfl
    | succ k =>
      have e : (UInt8.ofNat (247 + nb n)).toNat = 247 + nb n := by
        rw [UInt8.toNat_ofNat']; exact Nat.mod_eq_of_lt (by omega)
      simp only [List.take_succ_cons, getL, e]
      rw [if_neg (by omega), if_pos (by rw [List.length_take, low_length]; omega)]
theorem getL_err (l : List UInt8) : (getL l).2.2 = 0 ∨ (getL l).2.2 = 3 ∨ (getL l).2.2 = 5 := by
  unfold getL
  split
  · simp
  · split
    · simp
    · split
      · simp
      · split <;> simp

/-! ### The same at places -/
theorem get_err (s : List UInt8) (p : Int) : (get s p).2.2 = 0 ∨ (get s p).2.2 = 3 ∨ (get s p).2.2 = 5 := by
  unfold get; split
  · simp
  · exact getL_err _
theorem get_at {s : List UInt8} {k : Nat} (h : k < s.length) : get s (k : Int) = ((getL (s.drop k)).1, (k : Int) + ((getL (s.drop k)).2.1 : Nat), (getL (s.drop k)).2.2) := by
  unfold get; rw [if_neg (by omega)]; simp
theorem get_ok {s : List UInt8} {p : Int} (h : (get s p).2.2 = 0) : ∃ k u : Nat, p = (k : Int) ∧ (get s p).2.1 = ((k + u : Nat) : Int) ∧ 1 ≤ u ∧ k + u ≤ s.length ∧ enc (get s p).1 = (s.drop k).take u ∧ (get s p).1 < 18446744073709551616 := by
  rcases Int.lt_or_le p 0 with hp | hp
  · unfold get at h; rw [if_pos (.inl hp)] at h; simp at h
  rcases Int.lt_or_le p s.length with hq | hq
  · obtain ⟨k, rfl⟩ : ∃ k : Nat, p = (k : Int) := ⟨p.toNat, by omega⟩
    have hk : k < s.length := by omega
    rw [get_at hk] at h ⊢
    obtain ⟨a, b, c, d⟩ := getL_ok h
    refine ⟨k, _, rfl, by simp, b, ?_, a, d⟩
    rw [List.length_drop] at c; omega
  · unfold get at h; rw [if_pos (.inr hq)] at h; simp at h
theorem get_bad {s : List UInt8} {p : Int} (h : (get s p).2.2 ≠ 0) : (get s p).1 = 0 ∧ (get s p).2.1 = p := by
  unfold get at h ⊢
  split
  · exact ⟨rfl, rfl⟩
  · rename_i hc
    rw [if_neg hc] at h
    obtain ⟨a, b⟩ := getL_bad h
    exact ⟨a, by rw [b]; simp⟩
theorem get_lt (s : List UInt8) (p : Int) : (get s p).1 < 18446744073709551616 := by
  by_cases h : (get s p).2.2 = 0
  · obtain ⟨_, _, _, _, _, _, _, h⟩ := get_ok h; exact h
  · rw [(get_bad h).1]; decide

theorem encs_append (a b : List Nat) : encs (a ++ b) = encs a ++ encs b := by simp [encs]
theorem encs_cons (n : Nat) (l : List Nat) : encs (n :: l) = enc n ++ encs l := by simp [encs]

/-- Each number at its place. -/
theorem get_encs {a b : List Nat} {n : Nat} (h : n < 18446744073709551616) (r : List UInt8) : get (encs (a ++ n :: b) ++ r) ((encs a).length : Int) = (n, (((encs a).length + size n : Nat) : Int), 0) := by
  have hs := size_bounds h
  have hl := enc_length n
  rw [get_at (by simp [encs_append, encs_cons, hl]; omega), encs_append, encs_cons, List.append_assoc, List.append_assoc, List.drop_left, getL_enc h]
  simp

theorem rowFrom_encs : ∀ (b a acc : List Nat) (r : List UInt8), (∀ n ∈ b, n < 18446744073709551616) →
    rowFrom (encs (a ++ b) ++ r) b.length acc ((encs a).length : Int) = (acc ++ b, ((encs (a ++ b)).length : Int), 0)
  | [], a, acc, r, _ => by simp [rowFrom]
  | n :: b, a, acc, r, h => by
    have hn := h n (by simp)
    rw [List.length_cons, rowFrom, get_encs hn]
    have e : a ++ n :: b = (a ++ [n]) ++ b := by simp
    have := rowFrom_encs b (a ++ [n]) (acc ++ [n]) r (fun m hm => h m (by simp [hm]))
    rw [e]
    simp only [if_true]
    rw [show (((encs a).length + size n : Nat) : Int) = ((encs (a ++ [n])).length : Int) by rw [encs_append, List.length_append, encs_cons]; simp [encs, enc_length], this]
    simp
theorem row_encs {l : List Nat} (h : ∀ n ∈ l, n < 18446744073709551616) : row (encs l) 0 (l.length : Int) = (l, ((encs l).length : Int), 0) := by
  have := rowFrom_encs l [] [] [] h
  simpa [row, encs] using this

theorem get_cut {a b : List Nat} {n k : Nat} (h : n < 18446744073709551616) (h1 : (encs a).length ≤ k) (h2 : k < (encs a).length + size n) :
    get ((encs (a ++ n :: b)).take k) ((encs a).length : Int) = (0, ((encs a).length : Int), 3) := by
  rcases Nat.eq_or_lt_of_le h1 with g | g
  · unfold get; rw [if_pos (.inr (by rw [List.length_take]; omega))]
  · rw [get_at (by rw [List.length_take, encs_append, encs_cons, List.length_append, List.length_append, enc_length]; omega)]
    rw [encs_append, List.take_append, List.take_of_length_le (by omega), List.drop_left, encs_cons, List.take_append_of_le_length (by rw [enc_length]; omega), getL_cut h (by omega)]
    simp

theorem rowFrom_cut : ∀ (c a acc b : List Nat) (n k : Nat), (∀ m ∈ c, m < 18446744073709551616) → n < 18446744073709551616 → (encs (a ++ c)).length ≤ k → k < (encs (a ++ c)).length + size n →
    rowFrom ((encs (a ++ c ++ n :: b)).take k) (c.length + (b.length + 1)) acc ((encs a).length : Int) = ([], ((encs (a ++ c)).length : Int), 3)
  | [], a, acc, b, n, k, _, hn, h1, h2 => by
    simp only [List.append_nil] at h1 h2 ⊢
    rw [List.length_nil, Nat.zero_add, rowFrom, get_cut hn h1 h2]
    simp
  | m :: c, a, acc, b, n, k, hc, hn, h1, h2 => by
    have hm := hc m (by simp)
    have e : a ++ m :: c = (a ++ [m]) ++ c := by simp
    rw [e] at h1 h2 ⊢
    have hsz := size_bounds hn
    have g : get ((encs (a ++ [m] ++ c ++ n :: b)).take k) ((encs a).length : Int) = (m, ((encs (a ++ [m])).length : Int), 0) := by
      have hle : (encs (a ++ [m])).length ≤ k := by rw [encs_append (a ++ [m]), List.length_append] at h1; omega
      have hle2 : k ≤ (encs (a ++ [m] ++ c ++ n :: b)).length := by
        rw [encs_append _ (n :: b), encs_cons, List.length_append, List.length_append, enc_length]; omega
      have e2 : (encs (a ++ [m] ++ c ++ n :: b)).take k = encs (a ++ m :: []) ++ (encs (c ++ n :: b)).take (k - (encs (a ++ [m])).length) := by
        rw [List.append_assoc (a ++ [m]), encs_append (a ++ [m]), List.take_append, List.take_of_length_le hle]
      rw [e2, get_encs hm]
      simp [enc_length, encs]
    rw [List.length_cons, show c.length + 1 + (b.length + 1) = (c.length + (b.length + 1)) + 1 by omega, rowFrom, g]
    simp only [if_true]
    exact rowFrom_cut c (a ++ [m]) _ b n k (fun x hx => hc x (by simp [hx])) hn h1 h2
theorem row_cut {a b : List Nat} {n k : Nat} (h : ∀ m ∈ a ++ n :: b, m < 18446744073709551616) (h1 : (encs a).length ≤ k) (h2 : k < (encs a).length + size n) :
    row ((encs (a ++ n :: b)).take k) 0 ((a ++ n :: b).length : Int) = ([], ((encs a).length : Int), 3) := by
  have := rowFrom_cut a [] [] b n k (fun m hm => h m (by simp [hm])) (h n (by simp)) (by simpa using h1) (by simpa using h2)
  unfold row
  rw [Int.toNat_natCast, List.length_append, List.length_cons]
  simpa [encs] using this

theorem nb_mono {a b : Nat} (hb : b < 18446744073709551616) (h : a ≤ b) : nb a ≤ nb b := by
  obtain ⟨a1, _, _, a4⟩ := nb_bounds (n := a) (by omega)
  obtain ⟨b1, _, b3, _⟩ := nb_bounds hb
  rcases Nat.lt_or_ge (nb b) (nb a) with g | g
  · have := a4 (by omega)
    have : 256 ^ nb b ≤ 256 ^ (nb a - 1) := Nat.pow_le_pow_right (by omega) (by omega)
    omega
  · exact g
theorem size_mono {a b : Nat} (hb : b < 18446744073709551616) (h : a ≤ b) : size a ≤ size b := by
  have := nb_mono hb h
  have := (nb_bounds hb).1
  unfold size; split <;> split <;> omega
theorem enc_no_prefix {a b : Nat} (ha : a < 18446744073709551616) (hb : b < 18446744073709551616) (h : a ≠ b) : (enc b).isPrefixOf (enc a) = false := by
  cases g : (enc b).isPrefixOf (enc a) with
  | false => rfl
  | true =>
    rw [List.isPrefixOf_iff_prefix] at g
    obtain ⟨r, hr⟩ := g
    have x := getL_enc ha []
    rw [List.append_nil, ← hr, getL_enc hb] at x
    exact absurd (congrArg Prod.fst x).symm h

/-! ### Single bytes -/
theorem low_getD : ∀ (m n i : Nat), i < m → (low n m).getD i 0 = UInt8.ofNat (n / 256 ^ i % 256)
  | m + 1, n, 0, _ => by simp [low]
  | m + 1, n, i + 1, h => by
    rw [low, List.getD_cons_succ, low_getD m (n / 256) i (by omega), Nat.div_div_eq_div_mul, ← Nat.pow_succ']
theorem low_take : ∀ (k m n : Nat), k ≤ m → (low n m).take k = low n k
  | 0, m, n, _ => by simp [low]
  | k + 1, m + 1, n, h => by simp [low, low_take k m _ (by omega)]
theorem low_succ : ∀ (n m : Nat), low n m ++ [UInt8.ofNat (n / 256 ^ m % 256)] = low n (m + 1)
  | n, 0 => by simp [low]
  | n, m + 1 => by
    rw [low, List.cons_append, show n / 256 ^ (m + 1) = n / 256 / 256 ^ m by rw [Nat.div_div_eq_div_mul, ← Nat.pow_succ'], low_succ (n / 256) m]
    rfl
/-- A number's bytes, with what is not needed behind them: nine in all. -/
def full (n : Nat) : List UInt8 := if n ≤ 247 then UInt8.ofNat n :: List.replicate 8 0 else UInt8.ofNat (247 + nb n) :: low n 8
theorem full_length (n : Nat) : (full n).length = 9 := by unfold full; split <;> simp [low_length]
theorem full_take {n : Nat} (h : n < 18446744073709551616) : (full n).take (size n) = enc n := by
  have := nb_bounds h
  unfold full size enc
  split
  · simp
  · rw [show 1 + nb n = nb n + 1 by omega, List.take_succ_cons, low_take _ _ _ this.2.1]
theorem val_snoc : ∀ (l : List UInt8) (b : UInt8), val (l ++ [b]) = val l + 256 ^ l.length * b.toNat
  | [], b => by simp [val]
  | c :: l, b => by
    simp only [List.cons_append, val, List.length_cons, Nat.pow_succ, val_snoc l b]
    rw [Nat.mul_add, show 256 ^ l.length * 256 * b.toNat = 256 * (256 ^ l.length * b.toNat) by rw [Nat.mul_comm (256 ^ l.length) 256, Nat.mul_assoc]]
    omega
theorem val_take_succ {l : List UInt8} {i : Nat} (h : i < l.length) : val (l.take (i + 1)) = val (l.take i) + 256 ^ i * (l.getD i 0).toNat := by
  rw [List.take_succ_eq_append_getElem h, val_snoc, List.length_take, Nat.min_eq_left (by omega)]
  simp [h]
theorem val_drop {l : List UInt8} {i : Nat} (h : i < l.length) : val (l.drop i) = val (l.drop (i + 1)) * 256 + (l.getD i 0).toNat := by
  rw [List.drop_eq_getElem_cons h, val]
  simp [h]; omega

end Go.Proofs.YtjiilmiikejnhaaDoor.Plain
namespace Go.Proofs.YtjiilmiikejnhaaDoor
open Plain

/-- An arc: its byte, what it puts out, where it goes. -/
structure DArc where
  b : Nat
  out : Nat
  to : Int
deriving Inhabited, DecidableEq
/-- A state: its arcs, whether a word ends, and what it puts out then. -/
structure DSt where
  arcs : List DArc
  fin : Bool
  out : Nat
deriving Inhabited, DecidableEq

def DArc.ok (a : DArc) : Prop := a.b < 256 ∧ a.out < 18446744073709551616 ∧ -9223372036854775808 ≤ a.to ∧ a.to < 9223372036854775808
def DSt.ok (s : DSt) : Prop := (∀ a ∈ s.arcs, a.ok) ∧ s.out < 18446744073709551616
instance (a : DArc) : Decidable a.ok := by unfold DArc.ok; infer_instance
instance (s : DSt) : Decidable s.ok := by unfold DSt.ok; infer_instance

/-- May a state be laid? -/
def mayA (own : Nat) (a : DArc) : Bool := decide (0 ≤ a.to) && decide (a.to < (own : Int))
def mayS (own : Nat) (s : DSt) : Bool := decide (s.arcs.length ≤ 256) && ((s.fin || s.out == 0) && s.arcs.all (mayA own))
def maySs : Nat → List DSt → Bool
  | _, [] => true
  | own, s :: l => mayS own s && maySs (own + 1) l
def mayT (n : Int) (l : List DSt) : Bool := decide (0 ≤ n) && (decide (n ≤ 100000) && (!l.isEmpty && maySs 0 l))

/-- The bytes. -/
def layA (own : Nat) (a : DArc) : List UInt8 := UInt8.ofNat a.b :: (enc a.out ++ enc ((own : Int) - a.to).toNat)
def headS (s : DSt) : List UInt8 := if s.fin then enc (2 * s.arcs.length + 1) ++ enc s.out else enc (2 * s.arcs.length)
def layS (own : Nat) (s : DSt) : List UInt8 := headS s ++ s.arcs.flatMap (layA own)
def laySs : Nat → List DSt → List UInt8
  | _, [] => []
  | own, s :: l => layS own s ++ laySs (own + 1) l
def magicL : List UInt8 := [67, 83, 1]
def layT (n : Nat) (l : List DSt) (init : Nat) : List UInt8 := magicL ++ (enc n ++ enc l.length) ++ laySs 0 l ++ enc init

/-- What is read: or a fault, and where. -/
abbrev Rd (α : Type) := Except (Nat × Nat) (α × Nat)
def numR (s : List UInt8) (at_ : Nat) (least most : Nat) : Rd Nat :=
  let g := Plain.get s (at_ : Int)
  if g.2.2 ≠ 0 then .error (g.2.2, at_) else if g.1 < least ∨ most < g.1 then .error (17, at_) else .ok (g.1, g.2.1.toNat)
def letR (s : List UInt8) (at_ : Nat) : Rd UInt8 := if h : at_ < s.length then .ok (s[at_], at_ + 1) else .error (3, at_)
def arcR (s : List UInt8) (own at_ : Nat) : Rd DArc :=
  match letR s at_ with
  | .error e => .error e
  | .ok (b, a1) => match numR s a1 0 18446744073709551615 with
    | .error e => .error e
    | .ok (o, a2) => match numR s a2 1 own with
      | .error e => .error e
      | .ok (t, a3) => .ok (⟨b.toNat, o, (own : Int) - t⟩, a3)
def arcsR (s : List UInt8) (own : Nat) : Nat → Nat → List DArc → Rd (List DArc)
  | 0, at_, acc => .ok (acc, at_)
  | k + 1, at_, acc => match arcR s own at_ with
    | .error e => .error e
    | .ok (a, a1) => arcsR s own k a1 (acc ++ [a])
def stEnd (f : Bool) (o : Nat) : Rd (List DArc) → Rd DSt
  | .error e => .error e
  | .ok (l, a) => .ok (⟨l, f, o⟩, a)
def stR (s : List UInt8) (own at_ : Nat) : Rd DSt :=
  match numR s at_ 0 513 with
  | .error e => .error e
  | .ok (t, a1) =>
    match (if t % 2 = 1 then numR s a1 0 18446744073709551615 else .ok (0, a1) : Rd Nat) with
    | .error e => .error e
    | .ok (o, a2) => stEnd (t % 2 == 1) o (arcsR s own (t / 2) a2 [])
def stsR (s : List UInt8) (many : Nat) : Nat → Nat → Nat → List DSt → Rd (List DSt)
  | 0, _, at_, acc => .error (3, at_)
  | f + 1, own, at_, acc => if many ≤ own then .ok (acc, at_) else match stR s own at_ with
    | .error e => .error e
    | .ok (x, a1) => stsR s many f (own + 1) a1 (acc ++ [x])
def magR (s : List UInt8) : Nat → Nat → Option (Nat × Nat)
  | 0, _ => none
  | f + 1, at_ => if at_ < 3 then (if h : at_ < s.length then (if s[at_] = magicL.getD at_ 0 then magR s f (at_ + 1) else some (6, at_)) else some (3, at_)) else none
/-- Of what was sealed: the number of entries, the states, what goes ahead. -/
def bodyR (s : List UInt8) : Except (Nat × Nat) (Nat × List DSt × Nat) :=
  match magR s 4 0 with
  | some e => .error e
  | none => match numR s 3 0 100000 with
    | .error e => .error e
    | .ok (n, a1) => match numR s a1 1 18446744073709551615 with
      | .error e => .error e
      | .ok (m, a2) => match stsR s m (s.length + 2) 0 a2 [] with
        | .error e => .error e
        | .ok (l, a3) => match numR s a3 0 18446744073709551615 with
          | .error e => .error e
          | .ok (i, a4) => if a4 = s.length then .ok (n, l, i) else .error (4, a4)

end Go.Proofs.YtjiilmiikejnhaaDoor
namespace Go.Proofs.YtjiilmiikejnhaaDoor
open Plain

theorem enc_pos {k : Nat} (hk : k < 18446744073709551616) : 1 ≤ (enc k).length := by rw [enc_length]; exact (size_bounds hk).1
theorem drop_next {s X T : List UInt8} {a : Nat} (h : s.drop a = X ++ T) : s.drop (a + X.length) = T := by
  rw [← List.drop_drop, h, List.drop_left]
theorem drop_lt {s T : List UInt8} {a : Nat} {c : UInt8} (h : s.drop a = c :: T) : a < s.length := by
  have := congrArg List.length h
  simp at this
  omega

theorem numR_enc {s T : List UInt8} {a k lo hi : Nat} (hk : k < 18446744073709551616) (h1 : lo ≤ k) (h2 : k ≤ hi) (h : s.drop a = enc k ++ T) : numR s a lo hi = .ok (k, a + (enc k).length) := by
  have hp := enc_pos hk
  have hlt : a < s.length := by
    have := congrArg List.length h
    simp at this
    omega
  unfold numR
  rw [get_at hlt, h, getL_enc hk]
  dsimp only
  rw [if_neg (by simp), if_neg (by omega), enc_length]
  have e : ((a : Int) + (Plain.size k : Nat)).toNat = a + Plain.size k := by omega
  rw [e]

theorem letR_at {s T : List UInt8} {a : Nat} {c : UInt8} (h : s.drop a = c :: T) : letR s a = .ok (c, a + 1) := by
  have hlt := drop_lt h
  unfold letR
  rw [dif_pos hlt]
  have : s[a] = c := by
    have h0 := List.drop_eq_getElem_cons hlt
    rw [h] at h0
    exact ((List.cons.inj h0).1).symm
  rw [this]

theorem arcR_lay {s T : List UInt8} {a own : Nat} {x : DArc} (hx : x.ok) (hm : mayA own x = true) (ho : own < 18446744073709551616) (h : s.drop a = layA own x ++ T) :
    arcR s own a = .ok (x, a + (layA own x).length) := by
  obtain ⟨b, o, t⟩ := x
  obtain ⟨h1, h2, _, _⟩ := hx
  simp only [mayA, Bool.and_eq_true, decide_eq_true_eq] at hm h1 h2
  obtain ⟨h3, h4⟩ := hm
  obtain ⟨d, hd⟩ : ∃ d : Nat, (own : Int) - t = (d : Int) := ⟨((own : Int) - t).toNat, by omega⟩
  have e : layA own ⟨b, o, t⟩ = UInt8.ofNat b :: (enc o ++ enc d) := by
    simp only [layA, hd]
    rfl
  rw [e] at h ⊢
  have g0 : s.drop a = UInt8.ofNat b :: (enc o ++ (enc d ++ T)) := by rw [h]; simp
  have g1 : s.drop (a + 1) = enc o ++ (enc d ++ T) := drop_next (X := [UInt8.ofNat b]) (by simpa using g0)
  have g2 := drop_next g1
  unfold arcR
  rw [letR_at g0]
  dsimp only
  rw [numR_enc h2 (Nat.zero_le _) (by omega) g1]
  dsimp only
  rw [numR_enc (by omega) (by omega) (by omega) g2]
  dsimp only
  have hb : (UInt8.ofNat b).toNat = b := by simp; omega
  have ht : (own : Int) - (d : Nat) = t := by omega
  rw [hb, ht]
  simp
  omega

theorem arcsR_lay {s : List UInt8} {own : Nat} (ho : own < 18446744073709551616) : ∀ (l : List DArc) (T : List UInt8) (a : Nat) (acc : List DArc), (∀ x ∈ l, x.ok) → l.all (mayA own) = true → s.drop a = l.flatMap (layA own) ++ T →
    arcsR s own l.length a acc = .ok (acc ++ l, a + (l.flatMap (layA own)).length)
  | [], T, a, acc, _, _, _ => by simp [arcsR]
  | x :: l, T, a, acc, hok, hm, h => by
    simp only [List.all_cons, Bool.and_eq_true] at hm
    rw [List.flatMap_cons, List.append_assoc] at h
    rw [List.length_cons]
    unfold arcsR
    rw [arcR_lay (hok x (by simp)) hm.1 ho h]
    dsimp only
    rw [arcsR_lay ho l T (a + (layA own x).length) (acc ++ [x]) (fun y hy => hok y (by simp [hy])) hm.2 (drop_next h)]
    simp
    omega

theorem stR_lay {s T : List UInt8} {own a : Nat} {x : DSt} (ho : own < 18446744073709551616) (hx : x.ok) (hm : mayS own x = true) (h : s.drop a = layS own x ++ T) :
    stR s own a = .ok (x, a + (layS own x).length) := by
  obtain ⟨l, f, o⟩ := x
  obtain ⟨h1, h2⟩ := hx
  simp only [mayS, Bool.and_eq_true, decide_eq_true_eq, Bool.or_eq_true, beq_iff_eq] at hm h1 h2
  obtain ⟨h3, h4, h5⟩ := hm
  unfold layS headS at h ⊢
  dsimp only at h ⊢
  cases f with
  | true =>
    simp only [if_true, List.append_assoc] at h ⊢
    have g1 := drop_next h
    have g2 := drop_next g1
    unfold stR
    rw [numR_enc (by omega) (by omega) (by omega) h]
    dsimp only
    rw [if_pos (by omega), numR_enc h2 (Nat.zero_le _) (by omega) g1]
    dsimp only
    rw [show (2 * l.length + 1) / 2 = l.length by omega, arcsR_lay ho l T _ [] h1 h5 g2]
    have : ((2 * l.length + 1) % 2 == 1) = true := by rw [beq_iff_eq]; omega
    rw [this]
    simp [stEnd]
    omega
  | false =>
    have ho' : o = 0 := by simpa using h4
    subst ho'
    simp only [Bool.false_eq_true, if_false, List.append_assoc] at h ⊢
    have g1 := drop_next h
    unfold stR
    rw [numR_enc (by omega) (by omega) (by omega) h]
    dsimp only
    rw [if_neg (by omega)]
    dsimp only
    rw [show (2 * l.length) / 2 = l.length by omega, arcsR_lay ho l T _ [] h1 h5 g1]
    have : ((2 * l.length) % 2 == 1) = false := by rw [beq_eq_false_iff_ne]; omega
    rw [this]
    simp [stEnd]
    omega

theorem headS_pos (x : DSt) : 1 ≤ (headS x).length ∨ 18446744073709551616 ≤ 2 * x.arcs.length + 1 := by
  rcases Nat.lt_or_ge (2 * x.arcs.length + 1) 18446744073709551616 with h | h
  · left
    unfold headS
    split
    · rw [List.length_append]
      have := enc_pos h
      omega
    · exact enc_pos (by omega)
  · exact .inr h

theorem stsR_lay {s : List UInt8} {many : Nat} (hM : many < 18446744073709551616) : ∀ (l : List DSt) (T : List UInt8) (own a f : Nat) (acc : List DSt), many = own + l.length → l.length < f → (∀ x ∈ l, x.ok) → maySs own l = true → s.drop a = laySs own l ++ T →
    stsR s many f own a acc = .ok (acc ++ l, a + (laySs own l).length)
  | [], T, own, a, 0, acc, hm, hf, _, _, _ => by simp at hf
  | [], T, own, a, f + 1, acc, hm, hf, _, _, _ => by
    unfold stsR
    simp at hm
    rw [if_pos (by omega)]
    simp [laySs]
  | x :: l, T, own, a, 0, acc, hm, hf, _, _, _ => by simp at hf
  | x :: l, T, own, a, f + 1, acc, hm, hf, hok, hmay, h => by
    simp only [maySs, Bool.and_eq_true] at hmay
    simp only [laySs, List.append_assoc] at h
    simp only [List.length_cons] at hm hf
    unfold stsR
    rw [if_neg (by omega), stR_lay (by omega) (hok x (by simp)) hmay.1 h]
    dsimp only
    rw [stsR_lay hM l T (own + 1) _ f (acc ++ [x]) (by omega) (by omega) (fun y hy => hok y (by simp [hy])) hmay.2 (drop_next h)]
    simp [laySs]
    omega

theorem laySs_len : ∀ (l : List DSt) (own : Nat), maySs own l = true → l.length ≤ (laySs own l).length
  | [], _, _ => by simp
  | x :: l, own, h => by
    simp only [maySs, Bool.and_eq_true] at h
    have h2 := laySs_len l (own + 1) h.2
    have h3 := h.1
    simp only [mayS, Bool.and_eq_true, decide_eq_true_eq] at h3
    have h1 := headS_pos x
    simp only [laySs, layS, List.length_append, List.length_cons]
    omega

theorem magR_lay (T : List UInt8) : magR (magicL ++ T) 4 0 = none := by
  simp [magR, magicL]

theorem bodyR_lay {n init : Nat} {l : List DSt} (hn : n ≤ 100000) (hi : init < 18446744073709551616) (hl : l ≠ []) (hL : l.length < 18446744073709551616) (hok : ∀ x ∈ l, x.ok) (hm : maySs 0 l = true) :
    bodyR (layT n l init) = .ok (n, l, init) := by
  have hlen := laySs_len l 0 hm
  have hpos : 1 ≤ l.length := by
    cases l with
    | nil => exact absurd rfl hl
    | cons _ _ => simp
  obtain ⟨s, hs⟩ : ∃ s, s = layT n l init := ⟨_, rfl⟩
  have h0 : s.drop 0 = magicL ++ (enc n ++ (enc l.length ++ (laySs 0 l ++ (enc init ++ [])))) := by rw [hs]; simp [layT]
  have h1 := drop_next h0
  have h2 := drop_next h1
  have h3 := drop_next h2
  have h4 := drop_next h3
  have hS : s.length = 3 + (enc n).length + (enc l.length).length + (laySs 0 l).length + (enc init).length := by
    rw [hs]; simp [layT, magicL]; omega
  rw [← hs]
  unfold bodyR
  have hmag : magR s 4 0 = none := by
    have : s = magicL ++ (enc n ++ (enc l.length ++ (laySs 0 l ++ (enc init ++ [])))) := by simpa using h0
    rw [this]
    exact magR_lay _
  rw [hmag]
  dsimp only
  rw [show (0 : Nat) + magicL.length = 3 from rfl] at h1 h2 h3 h4
  rw [numR_enc (by omega) (Nat.zero_le _) hn h1]
  dsimp only
  rw [numR_enc hL hpos (by omega) h2]
  dsimp only
  rw [stsR_lay hL l _ 0 _ (s.length + 2) [] (by omega) (by omega) hok hm h3]
  dsimp only
  rw [numR_enc hi (Nat.zero_le _) (by omega) h4]
  dsimp only
  rw [if_pos (by omega)]
  simp

/-! ### what is read is laid just so -/
theorem numR_ok {s : List UInt8} {a lo hi k b : Nat} (h : numR s a lo hi = .ok (k, b)) : s.drop a = enc k ++ s.drop b ∧ lo ≤ k ∧ k ≤ hi ∧ k < 18446744073709551616 ∧ a < b ∧ b ≤ s.length := by
  unfold numR at h
  dsimp only at h
  split at h
  · cases h
  rename_i h0
  split at h
  · cases h
  rename_i h1
  obtain ⟨k', u, e1, e2, e3, e4, e5, e6⟩ := get_ok (Classical.not_not.1 h0)
  have e1' : k' = a := by omega
  subst e1'
  simp only [Except.ok.injEq, Prod.mk.injEq] at h
  obtain ⟨hk, hb⟩ := h
  rw [e2] at hb
  have hb' : b = k' + u := by omega
  rw [hk] at e5 e6 h1
  subst hb'
  refine ⟨?_, by omega, by omega, e6, by omega, e4⟩
  rw [e5, ← List.drop_drop, List.take_append_drop]

theorem letR_ok {s : List UInt8} {a b : Nat} {c : UInt8} (h : letR s a = .ok (c, b)) : s.drop a = c :: s.drop b ∧ b = a + 1 ∧ b ≤ s.length := by
  unfold letR at h
  split at h
  · rename_i hlt
    simp only [Except.ok.injEq, Prod.mk.injEq] at h
    obtain ⟨rfl, rfl⟩ := h
    exact ⟨List.drop_eq_getElem_cons hlt, rfl, hlt⟩
  · cases h

theorem arcR_ok {s : List UInt8} {own a b : Nat} {x : DArc} (ho : own < 9223372036854775808) (h : arcR s own a = .ok (x, b)) : s.drop a = layA own x ++ s.drop b ∧ x.ok ∧ mayA own x = true ∧ a < b ∧ b ≤ s.length := by
  unfold arcR at h
  split at h
  · cases h
  rename_i c a1 h1
  split at h
  · cases h
  rename_i o a2 h2
  split at h
  · cases h
  rename_i t a3 h3
  simp only [Except.ok.injEq, Prod.mk.injEq] at h
  obtain ⟨rfl, rfl⟩ := h
  obtain ⟨g1, g2, g3⟩ := letR_ok h1
  obtain ⟨k1, k2, k3, k4, k5, k6⟩ := numR_ok h2
  obtain ⟨m1, m2, m3, m4, m5, m6⟩ := numR_ok h3
  have hd : ((own : Int) - ((own : Int) - (t : Nat))).toNat = t := by omega
  have hc : UInt8.ofNat c.toNat = c := by simp
  refine ⟨?_, ⟨UInt8.toNat_lt c, k4, ?_, ?_⟩, ?_, by omega, m6⟩
  · simp only [layA, hd, hc]
    rw [g1, k1, m1]
    simp
  · show -9223372036854775808 ≤ (own : Int) - (t : Nat)
    omega
  · show (own : Int) - (t : Nat) < 9223372036854775808
    omega
  · simp only [mayA, Bool.and_eq_true, decide_eq_true_eq]
    omega

theorem arcsR_ok {s : List UInt8} {own : Nat} (ho : own < 9223372036854775808) : ∀ (k a b : Nat) (acc r : List DArc), a ≤ s.length → arcsR s own k a acc = .ok (r, b) →
    ∃ l, r = acc ++ l ∧ l.length = k ∧ s.drop a = l.flatMap (layA own) ++ s.drop b ∧ (∀ x ∈ l, x.ok) ∧ l.all (mayA own) = true ∧ a ≤ b ∧ b ≤ s.length
  | 0, a, b, acc, r, hle, h => by
    unfold arcsR at h
    simp only [Except.ok.injEq, Prod.mk.injEq] at h
    obtain ⟨rfl, rfl⟩ := h
    exact ⟨[], by simp, rfl, by simp, by simp, rfl, Nat.le_refl _, hle⟩
  | k + 1, a, b, acc, r, hle, h => by
    unfold arcsR at h
    split at h
    · cases h
    rename_i x a1 h1
    obtain ⟨g1, g2, g3, g4, g5⟩ := arcR_ok ho h1
    obtain ⟨l, rfl, e2, e3, e4, e5, e6, e7⟩ := arcsR_ok ho k a1 b _ r g5 h
    refine ⟨x :: l, by simp, by simp [e2], ?_, ?_, by simp [g3, e5], by omega, e7⟩
    · rw [g1, e3]; simp
    · intro y hy
      rcases List.mem_cons.1 hy with rfl | hy
      · exact g2
      · exact e4 y hy

theorem stR_ok {s : List UInt8} {own a b : Nat} {x : DSt} (ho : own < 9223372036854775808) (h : stR s own a = .ok (x, b)) : s.drop a = layS own x ++ s.drop b ∧ x.ok ∧ mayS own x = true ∧ a < b ∧ b ≤ s.length := by
  unfold stR at h
  split at h
  · cases h
  rename_i t a1 h1
  obtain ⟨g1, g2, g3, g4, g5, g6⟩ := numR_ok h1
  split at h
  · cases h
  rename_i o a2 h2
  unfold stEnd at h
  split at h
  · cases h
  rename_i l a3 h3
  simp only [Except.ok.injEq, Prod.mk.injEq] at h
  obtain ⟨rfl, rfl⟩ := h
  rcases Nat.mod_two_eq_zero_or_one t with ht | ht
  · rw [if_neg (by omega)] at h2
    simp only [Except.ok.injEq, Prod.mk.injEq] at h2
    obtain ⟨rfl, rfl⟩ := h2
    obtain ⟨l', e1, e2, e3, e4, e5, e6, e7⟩ := arcsR_ok ho _ _ _ _ _ g6 h3
    simp at e1
    subst e1
    have hb : (t % 2 == 1) = false := by rw [beq_eq_false_iff_ne]; omega
    rw [hb]
    have ht2 : t = 2 * l.length := by omega
    refine ⟨?_, ⟨e4, by show (0 : Nat) < 18446744073709551616; omega⟩, ?_, by omega, e7⟩
    · unfold layS headS
      dsimp only
      rw [if_neg (by simp), g1, e3, ← ht2]
      simp
    · simp only [mayS, Bool.and_eq_true, decide_eq_true_eq, e5, Bool.or_eq_true, beq_iff_eq]
      exact ⟨by omega, by simp, trivial⟩
  · rw [if_pos ht] at h2
    obtain ⟨k1, k2, k3, k4, k5, k6⟩ := numR_ok h2
    obtain ⟨l', e1, e2, e3, e4, e5, e6, e7⟩ := arcsR_ok ho _ _ _ _ _ k6 h3
    simp at e1
    subst e1
    have hb : (t % 2 == 1) = true := by rw [beq_iff_eq]; omega
    rw [hb]
    have ht2 : t = 2 * l.length + 1 := by omega
    refine ⟨?_, ⟨e4, k4⟩, ?_, by omega, e7⟩
    · unfold layS headS
      dsimp only
      rw [if_pos rfl, g1, k1, e3, ← ht2]
      simp
    · simp only [mayS, Bool.and_eq_true, decide_eq_true_eq, e5, Bool.or_eq_true, beq_iff_eq]
      exact ⟨by omega, by simp, trivial⟩

theorem stsR_ok {s : List UInt8} {many : Nat} (hS : s.length < 9223372036854775808) : ∀ (f own a b : Nat) (acc r : List DSt), own ≤ a → a ≤ s.length → stsR s many f own a acc = .ok (r, b) →
    ∃ l, r = acc ++ l ∧ (own ≤ many → own + l.length = many) ∧ s.drop a = laySs own l ++ s.drop b ∧ (∀ x ∈ l, x.ok) ∧ maySs own l = true ∧ a ≤ b ∧ b ≤ s.length
  | 0, own, a, b, acc, r, _, _, h => by unfold stsR at h; cases h
  | f + 1, own, a, b, acc, r, ho, hle, h => by
    unfold stsR at h
    split at h
    · rename_i hm
      simp only [Except.ok.injEq, Prod.mk.injEq] at h
      obtain ⟨rfl, rfl⟩ := h
      exact ⟨[], by simp, by intro h2; simp; omega, by simp [laySs], by simp, rfl, Nat.le_refl _, hle⟩
    · rename_i hm
      split at h
      · cases h
      rename_i x a1 h1
      obtain ⟨g1, g2, g3, g4, g5⟩ := stR_ok (by omega) h1
      obtain ⟨l, rfl, e2, e3, e4, e5, e6, e7⟩ := stsR_ok hS f (own + 1) a1 b _ r (by omega) g5 h
      refine ⟨x :: l, by simp, ?_, ?_, ?_, by simp [maySs, g3, e5], by omega, e7⟩
      · intro h2
        have := e2 (by omega)
        simp
        omega
      · rw [g1, e3]; simp [laySs]
      · intro y hy
        rcases List.mem_cons.1 hy with rfl | hy
        · exact g2
        · exact e4 y hy

theorem magR_ok {s : List UInt8} (h : magR s 4 0 = none) : s = magicL ++ s.drop 3 := by
  match s with
  | [] => simp [magR] at h
  | [a] => simp [magR] at h; split at h <;> simp_all
  | [a, b] => simp [magR] at h; split at h <;> simp_all; split at h <;> simp_all
  | a :: b :: c :: s =>
    simp [magR, magicL] at h ⊢
    split at h
    · split at h
      · split at h
        · rename_i h1 h2 h3
          exact ⟨h1, h2, h3⟩
        · cases h
      · cases h
    · cases h

theorem bodyR_ok {s : List UInt8} (hS : s.length < 9223372036854775808) {n init : Nat} {l : List DSt} (h : bodyR s = .ok (n, l, init)) :
    s = layT n l init ∧ n ≤ 100000 ∧ init < 18446744073709551616 ∧ l ≠ [] ∧ (∀ x ∈ l, x.ok) ∧ maySs 0 l = true ∧ l.length ≤ s.length := by
  unfold bodyR at h
  split at h
  · cases h
  rename_i h0
  split at h
  · cases h
  rename_i n' a1 h1
  split at h
  · cases h
  rename_i m a2 h2
  split at h
  · cases h
  rename_i l' a3 h3
  split at h
  · cases h
  rename_i i a4 h4
  split at h
  · rename_i h5
    simp only [Except.ok.injEq, Prod.mk.injEq] at h
    obtain ⟨rfl, rfl, rfl⟩ := h
    obtain ⟨g1, g2, g3, g4, g5, g6⟩ := numR_ok h1
    obtain ⟨k1, k2, k3, k4, k5, k6⟩ := numR_ok h2
    obtain ⟨l2, e1, e2, e3, e4, e5, e6, e7⟩ := stsR_ok hS _ _ _ _ _ _ (Nat.zero_le _) k6 h3
    obtain ⟨m1, m2, m3, m4, m5, m6⟩ := numR_ok h4
    simp at e1
    subst e1
    have hm : l'.length = m := by have := e2 (Nat.zero_le _); omega
    have hs : s = layT n' l' i := by
      have := magR_ok h0
      rw [g1, k1, e3, m1, h5, List.drop_length, ← hm] at this
      rw [this]
      simp [layT]
    refine ⟨hs, g3, m4, ?_, e4, e5, ?_⟩
    · intro he
      subst he
      simp at hm
      omega
    · have := laySs_len l' 0 e5
      have h6 := congrArg List.length e3
      simp at h6
      omega
  · cases h

end Go.Proofs.YtjiilmiikejnhaaDoor
namespace Go.Proofs.YtjiilmiikejnhaaDoor

def fewS (s : DSt) : DSt := { s with arcs := s.arcs.take 6 }
def fewT (l : List DSt) : List DSt := (l.take 12).map fewS
def formA (i : Nat) (a : DArc) : DArc := { a with to := (((a.to % 4294967296).toNat % i : Nat) : Int) }
def formS (i : Nat) (s : DSt) : DSt := ⟨if i = 0 then [] else s.arcs.map (formA i), s.fin, if s.fin then s.out else 0⟩
def formSs : Nat → List DSt → List DSt
  | _, [] => []
  | i, s :: l => formS i s :: formSs (i + 1) l
def formedT (l : List DSt) : List DSt := if l = [] then [⟨[], false, 0⟩] else formSs 0 (fewT l)

theorem formSs_length : ∀ (l : List DSt) (i : Nat), (formSs i l).length = l.length
  | [], _ => rfl
  | x :: l, i => by simp [formSs, formSs_length l]
theorem formSs_append : ∀ (l m : List DSt) (i : Nat), formSs i (l ++ m) = formSs i l ++ formSs (i + l.length) m
  | [], m, i => by simp [formSs]
  | x :: l, m, i => by simp [formSs, formSs_append l m (i + 1)]; congr 1; omega
theorem formSs_take {l : List DSt} {k : Nat} (h : k < l.length) : formSs 0 (l.take (k + 1)) = formSs 0 (l.take k) ++ [formS k l[k]] := by
  rw [List.take_succ_eq_append_getElem h, formSs_append]
  simp [formSs, Nat.min_eq_left (Nat.le_of_lt h)]
theorem fewT_length (l : List DSt) : (fewT l).length = min 12 l.length := by simp [fewT]
theorem formA_ok {i : Nat} {a : DArc} (hi : 0 < i) (hI : i ≤ 12) (h : a.ok) : (formA i a).ok := by
  obtain ⟨h1, h2, h3, h4⟩ := h
  have := Nat.mod_lt (a.to % 4294967296).toNat hi
  refine ⟨h1, h2, ?_, ?_⟩ <;> (simp only [formA]; omega)
theorem fewS_ok {s : DSt} (h : s.ok) : (fewS s).ok := ⟨fun a ha => h.1 a (List.mem_of_mem_take ha), h.2⟩
theorem formS_ok {i : Nat} {s : DSt} (hI : i ≤ 12) (h : s.ok) : (formS i s).ok := by
  refine ⟨fun a ha => ?_, ?_⟩
  · unfold formS at ha
    dsimp only at ha
    split at ha
    · simp at ha
    · obtain ⟨b, hb, rfl⟩ := List.mem_map.1 ha
      exact formA_ok (by omega) hI (h.1 b hb)
  · unfold formS
    dsimp only
    split
    · exact h.2
    · decide
theorem formS_may {i : Nat} {s : DSt} (h : s.arcs.length ≤ 6) : mayS i (formS i s) = true := by
  unfold mayS formS
  dsimp only
  by_cases hi : i = 0
  · subst hi
    cases s.fin <;> simp
  · rw [if_neg hi]
    simp only [List.length_map, Bool.and_eq_true, decide_eq_true_eq, Bool.or_eq_true, beq_iff_eq, List.all_eq_true]
    refine ⟨by omega, ?_, fun a ha => ?_⟩
    · cases s.fin <;> simp
    · obtain ⟨b, _, rfl⟩ := List.mem_map.1 ha
      have := Nat.mod_lt (b.to % 4294967296).toNat (Nat.pos_of_ne_zero hi)
      simp only [formA, mayA, Bool.and_eq_true, decide_eq_true_eq]
      exact ⟨decide_eq_true (Int.natCast_nonneg _), decide_eq_true (Int.ofNat_lt.2 this)⟩
theorem formSs_may : ∀ (l : List DSt) (i : Nat), (∀ s ∈ l, s.arcs.length ≤ 6) → maySs i (formSs i l) = true
  | [], _, _ => rfl
  | x :: l, i, h => by
    simp only [formSs, maySs, Bool.and_eq_true]
    exact ⟨formS_may (h x (by simp)), formSs_may l (i + 1) fun s hs => h s (by simp [hs])⟩
theorem formSs_ok : ∀ (l : List DSt) (i : Nat), i + l.length ≤ 12 → (∀ s ∈ l, s.ok) → ∀ s ∈ formSs i l, s.ok
  | [], _, _, _ => by simp [formSs]
  | x :: l, i, hI, h => by
    intro s hs
    simp only [List.length_cons] at hI
    simp only [formSs, List.mem_cons] at hs
    rcases hs with rfl | hs
    · exact formS_ok (by omega) (h x (by simp))
    · exact formSs_ok l (i + 1) (by omega) (fun s hs => h s (by simp [hs])) s hs
theorem formSs_arcs : ∀ (l : List DSt) (i : Nat), (∀ s ∈ l, s.arcs.length ≤ 6) → ∀ s ∈ formSs i l, s.arcs.length ≤ 6
  | [], _, _ => by simp [formSs]
  | x :: l, i, h => by
    intro s hs
    simp only [formSs, List.mem_cons] at hs
    rcases hs with rfl | hs
    · have := h x (by simp)
      unfold formS
      dsimp only
      split
      · simp
      · simpa using this
    · exact formSs_arcs l (i + 1) (fun s hs => h s (by simp [hs])) s hs
theorem fewT_arcs (l : List DSt) : ∀ s ∈ fewT l, s.arcs.length ≤ 6 := by
  intro s hs
  obtain ⟨x, _, rfl⟩ := List.mem_map.1 hs
  simp [fewS]
  omega
theorem fewT_ok {l : List DSt} (h : ∀ s ∈ l, s.ok) : ∀ s ∈ fewT l, s.ok := by
  intro s hs
  obtain ⟨x, hx, rfl⟩ := List.mem_map.1 hs
  exact fewS_ok (h x (List.mem_of_mem_take hx))

/-- What is drawn, formed: it may be laid, and is short. -/
structure Formed (l : List DSt) : Prop where
  ne : l ≠ []
  len : l.length ≤ 12
  arcs : ∀ s ∈ l, s.arcs.length ≤ 6
  ok : ∀ s ∈ l, s.ok
  may : maySs 0 l = true
theorem formedT_formed {l : List DSt} (h : ∀ s ∈ l, s.ok) : Formed (formedT l) := by
  unfold formedT
  split
  · exact ⟨by simp, by simp, by simp, by simp [DSt.ok], by decide⟩
  · rename_i hl
    have hL := fewT_length l
    have hp : 0 < l.length := List.length_pos_iff.2 hl
    refine ⟨fun e => ?_, by rw [formSs_length]; omega, formSs_arcs _ _ (fewT_arcs l), formSs_ok _ _ (by omega) (fewT_ok h), formSs_may _ _ (fewT_arcs l)⟩
    have h9 := congrArg List.length e
    rw [formSs_length, hL] at h9
    have h8 : min 12 l.length = 0 := h9
    omega
theorem layA_len {i : Nat} {a : DArc} (hi : i < 18446744073709551616) (h : a.ok) (hm : mayA i a = true) : (layA i a).length ≤ 19 := by
  simp only [mayA, Bool.and_eq_true, decide_eq_true_eq] at hm
  have h1 := (Plain.size_bounds h.2.1).2
  have h2 := (Plain.size_bounds (n := ((i : Int) - a.to).toNat) (by omega)).2
  simp [layA, Plain.enc_length]
  omega
theorem arcs_len {i : Nat} (hi : i < 18446744073709551616) : ∀ (l : List DArc), (∀ a ∈ l, a.ok) → l.all (mayA i) = true → (l.flatMap (layA i)).length ≤ 19 * l.length
  | [], _, _ => by simp
  | a :: l, hok, hm => by
    simp only [List.all_cons, Bool.and_eq_true] at hm
    have h1 := layA_len hi (hok a (by simp)) hm.1
    have h2 := arcs_len hi l (fun b hb => hok b (by simp [hb])) hm.2
    simp only [List.flatMap_cons, List.length_append, List.length_cons]
    omega
theorem layS_len {i : Nat} {s : DSt} (hi : i < 18446744073709551616) (hl : s.arcs.length ≤ 256) (h : s.ok) (hm : mayS i s = true) : (layS i s).length ≤ 18 + 19 * s.arcs.length := by
  simp only [mayS, Bool.and_eq_true] at hm
  have h1 := arcs_len hi s.arcs h.1 hm.2.2
  have h2 := (Plain.size_bounds h.2).2
  have h3 := (Plain.size_bounds (n := 2 * s.arcs.length + 1) (by omega)).2
  have h4 := (Plain.size_bounds (n := 2 * s.arcs.length) (by omega)).2
  simp only [layS, headS, List.length_append]
  split
  · rw [List.length_append, Plain.enc_length, Plain.enc_length]; omega
  · rw [Plain.enc_length]; omega
theorem laySs_le6 : ∀ (l : List DSt) (i : Nat), i + l.length < 18446744073709551616 → (∀ s ∈ l, s.arcs.length ≤ 256) → (∀ s ∈ l, s.ok) → maySs i l = true → ∀ k, (∀ s ∈ l, s.arcs.length ≤ k) → (laySs i l).length ≤ (18 + 19 * k) * l.length
  | [], _, _, _, _, _, _, _ => by simp [laySs]
  | s :: l, i, hi, h2, hok, hm, k, hk => by
    simp only [maySs, Bool.and_eq_true] at hm
    simp only [List.length_cons] at hi
    have h1 := layS_len (by omega) (h2 s (by simp)) (hok s (by simp)) hm.1
    have h3 := laySs_le6 l (i + 1) (by omega) (fun x hx => h2 x (by simp [hx])) (fun x hx => hok x (by simp [hx])) hm.2 k (fun x hx => hk x (by simp [hx]))
    have h4 := hk s (by simp)
    have h5 : 19 * s.arcs.length ≤ 19 * k := Nat.mul_le_mul_left _ h4
    simp only [laySs, List.length_append, List.length_cons]
    rw [Nat.mul_add, Nat.mul_one]
    omega
theorem layT_le {n init : Nat} {l : List DSt} (hn : n ≤ 100000) (hi : init < 18446744073709551616) (h : Formed l) : (layT n l init).length ≤ 2000 := by
  have hl := h.len
  have h1 := laySs_le6 l 0 (by omega) (fun s hs => Nat.le_trans (h.arcs s hs) (by omega)) h.ok h.may 6 h.arcs
  have h2 := (Plain.size_bounds hi).2
  have h3 := (Plain.size_bounds (n := n) (by omega)).2
  have h4 := (Plain.size_bounds (n := l.length) (by omega)).2
  simp only [layT, magicL, List.length_append, Plain.enc_length, List.length_cons, List.length_nil]
  omega
theorem formed_may {n : Nat} {l : List DSt} (hn : n ≤ 100000) (h : Formed l) : mayT (n : Int) l = true := by
  have hl := h.ne
  unfold mayT
  rw [h.may]
  cases l with
  | nil => exact absurd rfl hl
  | cons x l => simp; omega
theorem formed_back {n init : Nat} {l : List DSt} (hn : n ≤ 100000) (hi : init < 18446744073709551616) (h : Formed l) : bodyR (layT n l init) = .ok (n, l, init) :=
  bodyR_lay hn hi h.ne (by have := h.len; omega) h.ok h.may

end Go.Proofs.YtjiilmiikejnhaaDoor
namespace Go.Proofs.YtjiilmiikejnhaaDoor
open Plain

/-- Where it stands, and the fault (code 0 is none). -/
structure IS where
  a : Nat
  c : Nat
  p : Nat
def IS.fail (x : IS) (code at_ : Nat) : IS := if x.c = 0 then ⟨x.a, code, at_⟩ else x
def IS.num (s : List UInt8) (x : IS) (lo hi : Nat) : Nat × IS :=
  if x.c = 0 then (match numR s x.a lo hi with
    | .ok (k, b) => (k, ⟨b, 0, x.p⟩)
    | .error (c, _) => (0, ⟨x.a, c, x.a⟩)) else (0, x)
def IS.char (s : List UInt8) (x : IS) : Nat × IS :=
  if x.c = 0 then (if x.a < s.length then ((s.getD x.a 0).toNat, ⟨x.a + 1, 0, x.p⟩) else (0, ⟨x.a, 3, x.a⟩)) else (0, x)
def magG (s : List UInt8) (x : IS) (i : Nat) : IS := if (x.char s).1 = (magicL.getD i 0).toNat then (x.char s).2 else (x.char s).2.fail 6 i
def top64 : Nat := 18446744073709551615
def arcG (s : List UInt8) (own : Nat) (x : IS) : DArc × IS :=
  (⟨(x.char s).1, ((x.char s).2.num s 0 top64).1, (own : Int) - ((((x.char s).2.num s 0 top64).2.num s 1 own).1 : Nat)⟩, (((x.char s).2.num s 0 top64).2.num s 1 own).2)
def arcsG (s : List UInt8) (own : Nat) : Nat → IS → List DArc → List DArc × IS
  | 0, x, acc => (acc, x)
  | k + 1, x, acc => if x.c = 0 then arcsG s own k (arcG s own x).2 (acc ++ [(arcG s own x).1]) else (acc, x)
def outG (s : List UInt8) (f : Bool) (x : IS) : Nat × IS := if f then x.num s 0 top64 else (0, x)
def stG (s : List UInt8) (own : Nat) (x : IS) : DSt × IS :=
  (⟨(arcsG s own ((x.num s 0 513).1 / 2) (outG s ((x.num s 0 513).1 % 2 == 1) (x.num s 0 513).2).2 []).1, (x.num s 0 513).1 % 2 == 1, (outG s ((x.num s 0 513).1 % 2 == 1) (x.num s 0 513).2).1⟩,
   (arcsG s own ((x.num s 0 513).1 / 2) (outG s ((x.num s 0 513).1 % 2 == 1) (x.num s 0 513).2).2 []).2)
def stsG (s : List UInt8) : Nat → Nat → IS → List DSt → List DSt × IS
  | 0, _, x, acc => (acc, x)
  | k + 1, own, x, acc => if x.c = 0 then stsG s k (own + 1) (stG s own x).2 (acc ++ [(stG s own x).1]) else (acc, x)
def magX (s : List UInt8) : IS := magG s (magG s (magG s ⟨0, 0, 0⟩ 0) 1) 2
def entX (s : List UInt8) : Nat × IS := (magX s).num s 0 100000
def numX (s : List UInt8) : Nat × IS := (entX s).2.num s 1 top64
def stsX (s : List UInt8) : List DSt × IS := stsG s (numX s).1 0 (numX s).2 []
def iniX (s : List UInt8) : Nat × IS := (stsX s).2.num s 0 top64
def endX (s : List UInt8) : IS := if (iniX s).2.a < s.length then (iniX s).2.fail 4 (iniX s).2.a else (iniX s).2

/-- Once there is a fault nothing turns. -/
theorem IS.fail_bad {x : IS} (h : x.c ≠ 0) (c p : Nat) : x.fail c p = x := by unfold IS.fail; rw [if_neg h]
theorem IS.num_bad {s : List UInt8} {x : IS} (h : x.c ≠ 0) (lo hi : Nat) : x.num s lo hi = (0, x) := by unfold IS.num; rw [if_neg h]
theorem IS.char_bad {s : List UInt8} {x : IS} (h : x.c ≠ 0) : x.char s = (0, x) := by unfold IS.char; rw [if_neg h]
theorem magG_bad {s : List UInt8} {x : IS} (h : x.c ≠ 0) (i : Nat) : magG s x i = x := by
  unfold magG
  rw [IS.char_bad h]
  dsimp only
  split
  · rfl
  · exact IS.fail_bad h _ _
theorem arcsG_bad {s : List UInt8} {own : Nat} {x : IS} (h : x.c ≠ 0) (k : Nat) (acc : List DArc) : arcsG s own k x acc = (acc, x) := by
  cases k with
  | zero => rfl
  | succ k => unfold arcsG; rw [if_neg h]
theorem stsG_bad {s : List UInt8} {own : Nat} {x : IS} (h : x.c ≠ 0) (k : Nat) (acc : List DSt) : stsG s k own x acc = (acc, x) := by
  cases k with
  | zero => rfl
  | succ k => unfold stsG; rw [if_neg h]

theorem numR_err {s : List UInt8} {a lo hi : Nat} {e : Nat × Nat} (h : numR s a lo hi = .error e) : e.2 = a ∧ e.1 ≠ 0 := by
  unfold numR at h
  dsimp only at h
  split at h
  · rename_i h0
    cases h
    exact ⟨rfl, h0⟩
  · split at h
    · cases h
      exact ⟨rfl, by show (17 : Nat) ≠ 0; decide⟩
    · cases h

/-- The two readings agree: one goes on, or has this fault. -/
def Agr {α : Type} (r : Rd α) (g : α × IS) : Prop :=
  match r with
  | .ok (v, b) => g = (v, ⟨b, 0, 0⟩)
  | .error (c, p) => g.2.c = c ∧ g.2.p = p ∧ c ≠ 0
theorem num_agr (s : List UInt8) (a lo hi : Nat) : Agr (numR s a lo hi) ((⟨a, 0, 0⟩ : IS).num s lo hi) := by
  unfold IS.num
  rw [if_pos rfl]
  cases h : numR s a lo hi with
  | ok r => rfl
  | error e =>
    obtain ⟨h1, h2⟩ := numR_err h
    obtain ⟨c, p⟩ := e
    simp only at h1
    subst h1
    exact ⟨rfl, rfl, h2⟩
theorem char_agr (s : List UInt8) (a : Nat) : match letR s a with
    | .ok (v, b) => (⟨a, 0, 0⟩ : IS).char s = (v.toNat, ⟨b, 0, 0⟩)
    | .error (c, p) => ((⟨a, 0, 0⟩ : IS).char s).2.c = c ∧ ((⟨a, 0, 0⟩ : IS).char s).2.p = p ∧ c ≠ 0 := by
  unfold IS.char letR
  rw [if_pos rfl]
  by_cases h : a < s.length
  · rw [dif_pos h, if_pos h]
    simp [List.getD, h]
  · rw [dif_neg h, if_neg h]
    exact ⟨rfl, rfl, by decide⟩

theorem arc_agr (s : List UInt8) (own a : Nat) : Agr (arcR s own a) (arcG s own ⟨a, 0, 0⟩) := by
  unfold arcR arcG
  have h1 := char_agr s a
  cases hl : letR s a with
  | error e =>
    rw [hl] at h1
    obtain ⟨c, p⟩ := e
    obtain ⟨e1, e2, e3⟩ := h1
    have hb : ((⟨a, 0, 0⟩ : IS).char s).2.c ≠ 0 := by rw [e1]; exact e3
    rw [IS.num_bad hb, IS.num_bad hb]
    exact ⟨e1, e2, e3⟩
  | ok r =>
    obtain ⟨v, b⟩ := r
    rw [hl] at h1
    dsimp only at h1 ⊢
    rw [h1]
    dsimp only
    have h2 := num_agr s b 0 top64
    change Agr (numR s b 0 18446744073709551615) _ at h2
    cases hn : numR s b 0 18446744073709551615 with
    | error e =>
      rw [hn] at h2
      obtain ⟨c, p⟩ := e
      obtain ⟨e1, e2, e3⟩ := h2
      have hb : ((⟨b, 0, 0⟩ : IS).num s 0 top64).2.c ≠ 0 := by rw [e1]; exact e3
      rw [IS.num_bad hb]
      exact ⟨e1, e2, e3⟩
    | ok r2 =>
      obtain ⟨o, b2⟩ := r2
      rw [hn] at h2
      have h2' : (⟨b, 0, 0⟩ : IS).num s 0 top64 = (o, ⟨b2, 0, 0⟩) := h2
      rw [h2']
      dsimp only
      have h3 := num_agr s b2 1 own
      cases hm : numR s b2 1 own with
      | error e =>
        rw [hm] at h3
        exact h3
      | ok r3 =>
        obtain ⟨t, b3⟩ := r3
        rw [hm] at h3
        have h3' : (⟨b2, 0, 0⟩ : IS).num s 1 own = (t, ⟨b3, 0, 0⟩) := h3
        rw [h3']
        rfl
theorem arcs_agr (s : List UInt8) (own : Nat) : ∀ (k a : Nat) (acc : List DArc), Agr (arcsR s own k a acc) (arcsG s own k ⟨a, 0, 0⟩ acc)
  | 0, a, acc => rfl
  | k + 1, a, acc => by
    unfold arcsR arcsG
    rw [if_pos rfl]
    have h1 := arc_agr s own a
    cases hl : arcR s own a with
    | error e =>
      rw [hl] at h1
      obtain ⟨c, p⟩ := e
      obtain ⟨e1, e2, e3⟩ := h1
      rw [arcsG_bad (by rw [e1]; exact e3)]
      exact ⟨e1, e2, e3⟩
    | ok r =>
      obtain ⟨x, b⟩ := r
      rw [hl] at h1
      have h1' : arcG s own ⟨a, 0, 0⟩ = (x, ⟨b, 0, 0⟩) := h1
      rw [h1']
      exact arcs_agr s own k b (acc ++ [x])
theorem st_agr (s : List UInt8) (own a : Nat) : Agr (stR s own a) (stG s own ⟨a, 0, 0⟩) := by
  unfold stR stG
  have h1 := num_agr s a 0 513
  cases hl : numR s a 0 513 with
  | error e =>
    rw [hl] at h1
    obtain ⟨c, p⟩ := e
    obtain ⟨e1, e2, e3⟩ := h1
    have hb : ((⟨a, 0, 0⟩ : IS).num s 0 513).2.c ≠ 0 := by rw [e1]; exact e3
    have ho : ∀ f, outG s f ((⟨a, 0, 0⟩ : IS).num s 0 513).2 = (0, ((⟨a, 0, 0⟩ : IS).num s 0 513).2) := fun f => by
      unfold outG
      split
      · exact IS.num_bad hb _ _
      · rfl
    rw [ho, arcsG_bad hb]
    exact ⟨e1, e2, e3⟩
  | ok r =>
    obtain ⟨t, b⟩ := r
    rw [hl] at h1
    have h1' : (⟨a, 0, 0⟩ : IS).num s 0 513 = (t, ⟨b, 0, 0⟩) := h1
    rw [h1']
    dsimp only
    have h2 : Agr (if t % 2 = 1 then numR s b 0 18446744073709551615 else .ok (0, b) : Rd Nat) (outG s (t % 2 == 1) ⟨b, 0, 0⟩) := by
      unfold outG
      by_cases ht : t % 2 = 1
      · rw [if_pos ht, if_pos (by simpa using ht)]
        exact num_agr s b 0 top64
      · rw [if_neg ht, if_neg (by simpa using ht)]
        rfl
    cases hn : (if t % 2 = 1 then numR s b 0 18446744073709551615 else .ok (0, b) : Rd Nat) with
    | error e =>
      rw [hn] at h2
      obtain ⟨c, p⟩ := e
      obtain ⟨e1, e2, e3⟩ := h2
      rw [arcsG_bad (by rw [e1]; exact e3)]
      exact ⟨e1, e2, e3⟩
    | ok r2 =>
      obtain ⟨o, b2⟩ := r2
      rw [hn] at h2
      have h2' : outG s (t % 2 == 1) ⟨b, 0, 0⟩ = (o, ⟨b2, 0, 0⟩) := h2
      rw [h2']
      dsimp only
      have h3 := arcs_agr s own (t / 2) b2 []
      cases hm : arcsR s own (t / 2) b2 [] with
      | error e =>
        rw [hm] at h3
        exact h3
      | ok r3 =>
        obtain ⟨l, b3⟩ := r3
        rw [hm] at h3
        have h3' : arcsG s own (t / 2) ⟨b2, 0, 0⟩ [] = (l, ⟨b3, 0, 0⟩) := h3
        rw [h3']
        rfl
theorem sts_agr (s : List UInt8) (many : Nat) (hs : s.length < 9223372036854775808) : ∀ (k f own a : Nat) (acc : List DSt), own + k = many ∨ (k = 0 ∧ many ≤ own) → own ≤ a → a ≤ s.length → s.length - a + 2 ≤ f → Agr (stsR s many f own a acc) (stsG s k own ⟨a, 0, 0⟩ acc)
  | 0, 0, own, a, acc, _, _, _, hf => by omega
  | k, 0, own, a, acc, _, _, _, hf => by omega
  | 0, f + 1, own, a, acc, hk, _, _, _ => by
    unfold stsR stsG
    rw [if_pos (by omega)]
    rfl
  | k + 1, f + 1, own, a, acc, hk, ho, ha, hf => by
    unfold stsR stsG
    rw [if_neg (by omega), if_pos rfl]
    have h1 := st_agr s own a
    cases hl : stR s own a with
    | error e =>
      rw [hl] at h1
      obtain ⟨c, p⟩ := e
      obtain ⟨e1, e2, e3⟩ := h1
      rw [stsG_bad (by rw [e1]; exact e3)]
      exact ⟨e1, e2, e3⟩
    | ok r =>
      obtain ⟨x, b⟩ := r
      obtain ⟨_, _, _, g4, g5⟩ := stR_ok (by omega) hl
      rw [hl] at h1
      have h1' : stG s own ⟨a, 0, 0⟩ = (x, ⟨b, 0, 0⟩) := h1
      rw [h1']
      exact sts_agr s many hs k f (own + 1) b (acc ++ [x]) (by omega) (by omega) g5 (by omega)

theorem mag_agr (s : List UInt8) : (magR s 4 0 = none ∧ magX s = ⟨3, 0, 0⟩) ∨ ∃ c p, magR s 4 0 = some (c, p) ∧ (magX s).c = c ∧ (magX s).p = p ∧ c ≠ 0 := by
  have step : ∀ i, i < 3 → (i < s.length ∧ s.getD i 0 = magicL.getD i 0 ∧ magG s ⟨i, 0, 0⟩ i = ⟨i + 1, 0, 0⟩ ∧ ∀ f, magR s (f + 1) i = magR s f (i + 1)) ∨ ∃ c p, c ≠ 0 ∧ (magG s ⟨i, 0, 0⟩ i).c = c ∧ (magG s ⟨i, 0, 0⟩ i).p = p ∧ ∀ f, magR s (f + 1) i = some (c, p) := by
    intro i hi
    by_cases h : i < s.length
    · have hg : s.getD i 0 = s[i] := by simp [List.getD, h]
      by_cases h2 : s[i] = magicL.getD i 0
      · refine .inl ⟨h, by rw [hg, h2], ?_, fun f => by rw [magR, if_pos hi, dif_pos h, if_pos h2]⟩
        unfold magG IS.char
        rw [if_pos rfl, if_pos h, hg, h2, if_pos rfl]
      · refine .inr ⟨6, i, by decide, ?_, ?_, fun f => by rw [magR, if_pos hi, dif_pos h, if_neg h2]⟩
        all_goals
          unfold magG IS.char
          rw [if_pos rfl, if_pos h, hg, if_neg (fun e => h2 (UInt8.toNat_inj.1 e))]
          rfl
    · refine .inr ⟨3, i, by decide, ?_, ?_, fun f => by rw [magR, if_pos hi, dif_neg h]⟩
      all_goals
        unfold magG IS.char
        rw [if_pos rfl, if_neg h]
        dsimp only
        split
        · rfl
        · rw [IS.fail_bad (by show (3 : Nat) ≠ 0; decide)]
  unfold magX
  rcases step 0 (by omega) with ⟨_, _, g0, m0⟩ | ⟨c, p, h0, h1, h2, h3⟩
  · rw [g0]
    rcases step 1 (by omega) with ⟨_, _, g1, m1⟩ | ⟨c, p, h0, h1, h2, h3⟩
    · rw [g1]
      rcases step 2 (by omega) with ⟨_, _, g2, m2⟩ | ⟨c, p, h0, h1, h2, h3⟩
      · rw [g2]
        exact .inl ⟨by rw [m0, m1, m2, magR, if_neg (by omega)], rfl⟩
      · exact .inr ⟨c, p, by rw [m0, m1, h3], h1, h2, h0⟩
    · have hb : (magG s ⟨1, 0, 0⟩ 1).c ≠ 0 := by rw [h1]; exact h0
      rw [magG_bad hb]
      exact .inr ⟨c, p, by rw [m0, h3], h1, h2, h0⟩
  · have hb : (magG s ⟨0, 0, 0⟩ 0).c ≠ 0 := by rw [h1]; exact h0
    rw [magG_bad hb, magG_bad hb]
    exact .inr ⟨c, p, h3 3, h1, h2, h0⟩

theorem end_bad {s : List UInt8} {c p : Nat} (h1 : (iniX s).2.c = c) (h2 : (iniX s).2.p = p) (h : c ≠ 0) : (endX s).c = c ∧ (endX s).p = p := by
  have hb : (iniX s).2.c ≠ 0 := by rw [h1]; exact h
  unfold endX
  split
  · rw [IS.fail_bad hb]; exact ⟨h1, h2⟩
  · exact ⟨h1, h2⟩
theorem ini_bad {s : List UInt8} {c p : Nat} (h1 : (stsX s).2.c = c) (h2 : (stsX s).2.p = p) (h : c ≠ 0) : (endX s).c = c ∧ (endX s).p = p := by
  have hb : (stsX s).2.c ≠ 0 := by rw [h1]; exact h
  have e : iniX s = (0, (stsX s).2) := by unfold iniX; exact IS.num_bad hb _ _
  have e1 : (iniX s).2 = (stsX s).2 := by rw [e]
  exact end_bad (s := s) (c := c) (p := p) (by rw [e1, h1]) (by rw [e1, h2]) h
theorem num_badX {s : List UInt8} {c p : Nat} (h1 : (numX s).2.c = c) (h2 : (numX s).2.p = p) (h : c ≠ 0) : (endX s).c = c ∧ (endX s).p = p := by
  have hb : (numX s).2.c ≠ 0 := by rw [h1]; exact h
  have e : stsX s = ([], (numX s).2) := by unfold stsX; exact stsG_bad hb _ _
  have e1 : (stsX s).2 = (numX s).2 := by rw [e]
  exact ini_bad (s := s) (c := c) (p := p) (by rw [e1, h1]) (by rw [e1, h2]) h
theorem ent_bad {s : List UInt8} {c p : Nat} (h1 : (entX s).2.c = c) (h2 : (entX s).2.p = p) (h : c ≠ 0) : (endX s).c = c ∧ (endX s).p = p := by
  have hb : (entX s).2.c ≠ 0 := by rw [h1]; exact h
  have e : numX s = (0, (entX s).2) := by unfold numX; exact IS.num_bad hb _ _
  have e1 : (numX s).2 = (entX s).2 := by rw [e]
  exact num_badX (s := s) (c := c) (p := p) (by rw [e1, h1]) (by rw [e1, h2]) h
theorem mag_bad {s : List UInt8} {c p : Nat} (h1 : (magX s).c = c) (h2 : (magX s).p = p) (h : c ≠ 0) : (endX s).c = c ∧ (endX s).p = p := by
  have hb : (magX s).c ≠ 0 := by rw [h1]; exact h
  have e : entX s = (0, magX s) := by unfold entX; exact IS.num_bad hb _ _
  have e1 : (entX s).2 = magX s := by rw [e]
  exact ent_bad (s := s) (c := c) (p := p) (by rw [e1, h1]) (by rw [e1, h2]) h

/-- The document's reading is bodyR's. -/
theorem body_agr (s : List UInt8) (hs : s.length < 9223372036854775808) : match bodyR s with
    | .ok (n, l, i) => (entX s).1 = n ∧ (stsX s).1 = l ∧ (iniX s).1 = i ∧ (endX s).c = 0 ∧ (endX s).p = 0
    | .error (c, p) => (endX s).c = c ∧ (endX s).p = p ∧ c ≠ 0 := by
  unfold bodyR
  rcases mag_agr s with ⟨h1, h2⟩ | ⟨c, p, h1, h2, h3, h4⟩
  · rw [h1]
    dsimp only
    have h3 := num_agr s 3 0 100000
    have e3 : entX s = (⟨3, 0, 0⟩ : IS).num s 0 100000 := by unfold entX; rw [h2]
    rw [← e3] at h3
    cases hn : numR s 3 0 100000 with
    | error e =>
      rw [hn] at h3
      obtain ⟨c, p⟩ := e
      obtain ⟨a1, a2, a3⟩ := h3
      exact ⟨(ent_bad a1 a2 a3).1, (ent_bad a1 a2 a3).2, a3⟩
    | ok r =>
      obtain ⟨n, a1⟩ := r
      rw [hn] at h3
      have h3' : entX s = (n, ⟨a1, 0, 0⟩) := h3
      dsimp only
      have h4 := num_agr s a1 1 top64
      change Agr (numR s a1 1 18446744073709551615) _ at h4
      have e4 : numX s = (⟨a1, 0, 0⟩ : IS).num s 1 top64 := by unfold numX; rw [h3']
      rw [← e4] at h4
      cases hm : numR s a1 1 18446744073709551615 with
      | error e =>
        rw [hm] at h4
        obtain ⟨c, p⟩ := e
        obtain ⟨b1, b2, b3⟩ := h4
        exact ⟨(num_badX b1 b2 b3).1, (num_badX b1 b2 b3).2, b3⟩
      | ok r =>
        obtain ⟨m, a2⟩ := r
        obtain ⟨_, _, _, _, _, g6⟩ := numR_ok hm
        rw [hm] at h4
        have h4' : numX s = (m, ⟨a2, 0, 0⟩) := h4
        dsimp only
        have h5 := sts_agr s m hs m (s.length + 2) 0 a2 [] (.inl (by omega)) (Nat.zero_le _) g6 (by omega)
        have e5 : stsX s = stsG s m 0 ⟨a2, 0, 0⟩ [] := by unfold stsX; rw [h4']
        rw [← e5] at h5
        cases hq : stsR s m (s.length + 2) 0 a2 [] with
        | error e =>
          rw [hq] at h5
          obtain ⟨c, p⟩ := e
          obtain ⟨b1, b2, b3⟩ := h5
          exact ⟨(ini_bad b1 b2 b3).1, (ini_bad b1 b2 b3).2, b3⟩
        | ok r =>
          obtain ⟨l, a3⟩ := r
          rw [hq] at h5
          have h5' : stsX s = (l, ⟨a3, 0, 0⟩) := h5
          dsimp only
          have h6 := num_agr s a3 0 top64
          change Agr (numR s a3 0 18446744073709551615) _ at h6
          have e6 : iniX s = (⟨a3, 0, 0⟩ : IS).num s 0 top64 := by unfold iniX; rw [h5']
          rw [← e6] at h6
          cases hi : numR s a3 0 18446744073709551615 with
          | error e =>
            rw [hi] at h6
            obtain ⟨c, p⟩ := e
            obtain ⟨b1, b2, b3⟩ := h6
            exact ⟨(end_bad b1 b2 b3).1, (end_bad b1 b2 b3).2, b3⟩
          | ok r =>
            obtain ⟨i, a4⟩ := r
            obtain ⟨_, _, _, _, _, q6⟩ := numR_ok hi
            rw [hi] at h6
            have h6' : iniX s = (i, ⟨a4, 0, 0⟩) := h6
            dsimp only
            by_cases he : a4 = s.length
            · rw [if_pos he]
              refine ⟨by rw [h3'], by rw [h5'], by rw [h6'], ?_, ?_⟩
              all_goals
                unfold endX
                rw [h6']
                dsimp only
                rw [if_neg (by omega)]
            · rw [if_neg he]
              refine ⟨?_, ?_, by decide⟩
              all_goals
                unfold endX
                rw [h6']
                dsimp only
                rw [if_pos (by omega)]
                rfl
  · rw [h1]
    exact ⟨(mag_bad h2 h3 h4).1, (mag_bad h2 h3 h4).2, h4⟩
end Go.Proofs.YtjiilmiikejnhaaDoor

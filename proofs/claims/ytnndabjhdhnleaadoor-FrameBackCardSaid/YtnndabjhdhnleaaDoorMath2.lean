/-
  Plain mathematics, more: rows of bytes as numbers; what is linear; bits that are turned within 32 neighbours; seals. Nothing of the program stands here.
-/
import Derived.Test.YtnndabjhdhnleaaDoorMath
namespace Go.Proofs.YtnndabjhdhnleaaDoor.Plain

theorem split (k m : Nat) : m = 2 ^ k * (m / 2 ^ k) ^^^ m % 2 ^ k := by
  apply Nat.eq_of_testBit_eq
  intro i
  rw [Nat.testBit_xor, Nat.testBit_two_pow_mul, Nat.testBit_mod_two_pow, Nat.testBit_div_two_pow]
  by_cases hi : i < k
  · have : ¬ k ≤ i := by omega
    simp [hi, this]
  · have h1 : k ≤ i := by omega
    have h2 : i - k + k = i := by omega
    simp [hi, h1, h2]
theorem join256 {a : Nat} (h : a < 256) (X : Nat) : a + 256 * X = a ^^^ 256 * X := by
  have := split 8 (a + 256 * X)
  rw [show (2 : Nat) ^ 8 = 256 by decide, show (a + 256 * X) / 256 = X by omega, show (a + 256 * X) % 256 = a by omega] at this
  rw [this, Nat.xor_comm]
theorem mul_xor (k a b : Nat) : 2 ^ k * (a ^^^ b) = 2 ^ k * a ^^^ 2 ^ k * b := by
  have h := Nat.shiftLeft_xor_distrib (i := k) (a := a) (b := b)
  rw [Nat.shiftLeft_eq, Nat.shiftLeft_eq, Nat.shiftLeft_eq] at h
  rw [Nat.mul_comm, h, Nat.mul_comm a, Nat.mul_comm b]

theorem feed_xor : ∀ (k n m c d : Nat), feed k (n ^^^ m) (c ^^^ d) = feed k n c ^^^ feed k m d
  | 0, _, _, _, _ => rfl
  | k + 1, n, m, c, d => by
    have e : (c ^^^ d) % 2 = c % 2 ^^^ d % 2 := by
      have h := xor_mod2 c d
      rcases Nat.mod_two_eq_zero_or_one c with x | x <;> rcases Nat.mod_two_eq_zero_or_one d with y | y <;> rw [h, x, y] <;> rfl
    rw [feed, feed, feed, e, xor_div2, xor_mid, one_xor, feed_xor k]
theorem feed_add : ∀ (j k n c : Nat), feed (j + k) n c = feed k (feed j n c) (c / 2 ^ j)
  | 0, k, n, c => by simp [feed]
  | j + 1, k, n, c => by
    rw [Nat.succ_add, feed, feed_add j, feed, Nat.div_div_eq_div_mul, Nat.pow_succ, Nat.mul_comm 2]
theorem feed_mod : ∀ (k n c : Nat), feed k n (c % 2 ^ k) = feed k n c
  | 0, _, _ => rfl
  | k + 1, n, c => by
    have e1 : c % 2 ^ (k + 1) % 2 = c % 2 := by
      rw [Nat.pow_succ, Nat.mul_comm, Nat.mod_mul_right_mod]
    have e2 : c % 2 ^ (k + 1) / 2 = c / 2 % 2 ^ k := by
      rw [Nat.pow_succ, Nat.mul_comm, Nat.mod_mul_right_div_self]
    rw [feed, feed, e1, e2, feed_mod k]
theorem feed_lt : ∀ (k : Nat) {n : Nat} (c : Nat), n < 4294967296 → feed k n c < 4294967296
  | 0, _, _, h => h
  | k + 1, _, c, h => feed_lt k _ (one_lt (xor_lt h (by omega)))
theorem feed_none : ∀ (k n : Nat), feed k n 0 = many k n
  | 0, _ => rfl
  | k + 1, n => by rw [feed, many, Nat.zero_mod, Nat.zero_div, Nat.xor_zero, feed_none k]
theorem feed_ahead : ∀ (j k w : Nat), feed (j + k) 0 (2 ^ j * w) = feed k 0 w
  | 0, k, w => by simp
  | j + 1, k, w => by
    have e1 : 2 ^ (j + 1) * w % 2 = 0 := by rw [Nat.pow_succ, Nat.mul_comm (2 ^ j), Nat.mul_assoc]; omega
    have e2 : 2 ^ (j + 1) * w / 2 = 2 ^ j * w := by rw [Nat.pow_succ, Nat.mul_comm (2 ^ j), Nat.mul_assoc]; omega
    rw [Nat.succ_add, feed, e1, e2, Nat.xor_zero, one_zero, feed_ahead j]
/-- A burst does not vanish. -/
theorem feed_burst (k w : Nat) (hw : w < 4294967296) (hk : w < 2 ^ k) (h : feed k 0 w = 0) : w = 0 := by
  rcases Nat.lt_or_ge 32 k with hk32 | hk32
  · have e : k = 32 + (k - 32) := by omega
    rw [e, feed_add, feed_many 32 0 w (by simpa using hw), Nat.zero_xor, Nat.div_eq_of_lt (by simpa using hw), feed_none] at h
    exact many_eq_zero 32 hw (many_eq_zero _ (many_lt 32 hw) h)
  · rw [feed_many k 0 w hk, Nat.zero_xor] at h
    exact many_eq_zero k hw h

/-- A row of bytes as a number, the lowest byte first. -/
def num : List UInt8 → Nat
  | [] => 0
  | c :: l => c.toNat + 256 * num l
theorem pow_step (k : Nat) : 2 ^ (8 * (k + 1)) = 256 * 2 ^ (8 * k) := by
  rw [Nat.mul_add, Nat.pow_add, Nat.mul_comm]
theorem num_lt : ∀ l : List UInt8, num l < 2 ^ (8 * l.length)
  | [] => by simp [num]
  | c :: l => by
    have := num_lt l
    have hc := c.toNat_lt
    rw [num, List.length_cons, pow_step]
    omega
theorem num_inj : ∀ {a b : List UInt8}, a.length = b.length → num a = num b → a = b
  | [], [], _, _ => rfl
  | [], _ :: _, h, _ => by simp at h
  | _ :: _, [], h, _ => by simp at h
  | c :: a, d :: b, h, e => by
    have hc := c.toNat_lt
    have hd := d.toNat_lt
    simp only [num] at e
    have e1 : c.toNat = d.toNat := by omega
    have e2 : num a = num b := by omega
    rw [UInt8.toNat_inj.1 e1, num_inj (by simpa using h) e2]
theorem run_feed : ∀ (l : List UInt8) (n : Nat), run n l = feed (8 * l.length) n (num l)
  | [], _ => rfl
  | c :: l, n => by
    have hc := c.toNat_lt
    rw [run_cons, run_feed l, num, List.length_cons, show 8 * (l.length + 1) = 8 + 8 * l.length by omega, feed_add, ← feed_mod 8]
    rw [show (2 : Nat) ^ 8 = 256 by decide, show (c.toNat + 256 * num l) % 256 = c.toNat by omega, show (c.toNat + 256 * num l) / 256 = num l by omega, feed_many 8 n _ (by simpa using hc)]
    rfl
/-- One to one in what it begins with. -/
theorem run_inj (l : List UInt8) {n m : Nat} (hn : n < 4294967296) (hm : m < 4294967296) (h : run n l = run m l) : n = m := by
  apply xor_zero_iff
  apply many_eq_zero (8 * l.length) (xor_lt hn hm)
  have e := feed_xor (8 * l.length) n m (num l) (num l)
  rw [← run_feed, ← run_feed, h, Nat.xor_self, Nat.xor_self, feed_none] at e
  exact e
theorem num_four_lt (l : List UInt8) (h : l.length = 4) : num l < 4294967296 := by
  have := num_lt l
  rw [h] at this
  simpa using this
theorem run_four (n : Nat) (l : List UInt8) (h : l.length = 4) : run n l = many 32 (n ^^^ num l) := by
  rw [run_feed, h, feed_many 32 _ _ (by simpa using num_four_lt l h)]
theorem u8_of {x : Nat} (h : x < 256) : (UInt8.ofNat x).toNat = x := by
  rw [UInt8.toNat_ofNat']
  exact Nat.mod_eq_of_lt (by simpa using h)
theorem num_four (n : Nat) (h : n < 4294967296) : num (four n) = n := by
  simp only [four, num]
  rw [u8_of (by omega), u8_of (by omega), u8_of (by omega), u8_of (by omega)]
  omega

/-- The sum that seals have. -/
theorem seal_run (a y : List UInt8) (hy : y.length = 4) : y = four (sum a) ↔ run 4294967295 (a ++ y) = many 32 4294967295 := by
  have hr : run 4294967295 a < 4294967296 := run_lt a ones_lt
  have hs : sum a = turned (run 4294967295 a) := by
    unfold sum more
    rw [turned_eq 0, Nat.xor_zero]
  rw [run_append, run_four _ y hy]
  generalize run 4294967295 a = r at hr hs
  constructor
  · intro h
    rw [h, num_four _ (sum_lt a), hs, turned_eq, xor_swap, Nat.xor_self, Nat.xor_zero]
  · intro h
    have h1 := many_inj 32 (xor_lt hr (num_four_lt y hy)) ones_lt h
    apply num_inj (by rw [hy, four_length])
    rw [num_four _ (sum_lt a), hs, turned_eq, Nat.xor_comm, ← h1, xor_back]

/-- One bit turned. -/
def flip (l : List UInt8) (b : Nat) : List UInt8 := l.set (b / 8) (UInt8.ofNat ((l.getD (b / 8) 0).toNat ^^^ 2 ^ (b % 8)))
theorem flip_length (l : List UInt8) (b : Nat) : (flip l b).length = l.length := by simp [flip]
theorem pow_lt8 (r : Nat) (h : r < 8) : 2 ^ r < 256 := by
  have : ∀ j : Fin 8, 2 ^ j.1 < 256 := by decide
  exact this ⟨r, h⟩
theorem xor_lt8 {a b : Nat} (ha : a < 256) (hb : b < 256) : a ^^^ b < 256 := Nat.xor_lt_two_pow (n := 8) ha hb
theorem num_flip : ∀ (l : List UInt8) (b : Nat), b < 8 * l.length → num (flip l b) = num l ^^^ 2 ^ b
  | [], b, h => by simp at h
  | c :: l, b, h => by
    have hc := c.toNat_lt
    rcases Nat.lt_or_ge b 8 with hb | hb
    · have h0 : b / 8 = 0 := by omega
      have h1 : b % 8 = b := by omega
      have hp := pow_lt8 b hb
      have hx := xor_lt8 hc hp
      unfold flip
      rw [h0, h1, List.set_cons_zero, List.getD_cons_zero, num, num, u8_of hx, join256 hx, join256 hc, Nat.xor_assoc, Nat.xor_assoc, Nat.xor_comm (2 ^ b)]
    · have h0 : b / 8 = (b - 8) / 8 + 1 := by omega
      have h1 : b % 8 = (b - 8) % 8 := by omega
      have ih := num_flip l (b - 8) (by simp at h; omega)
      have e : flip (c :: l) b = c :: flip l (b - 8) := by
        unfold flip
        rw [h0, h1, List.set_cons_succ, List.getD_cons_succ]
      rw [e, num, num, ih, join256 hc, join256 hc, show (256 : Nat) = 2 ^ 8 by decide, mul_xor, ← Nat.pow_add, show 8 + (b - 8) = b by omega, Nat.xor_assoc]

/-- Bits of a pattern turned, from one place on, as many as k of them. -/
def turnTo (l : List UInt8) (a p : Nat) : Nat → List UInt8
  | 0 => l
  | k + 1 => if p / 2 ^ k % 2 = 1 ∧ a + k < 8 * l.length then flip (turnTo l a p k) (a + k) else turnTo l a p k
/-- What they make, as a number. -/
def mask (n a p : Nat) : Nat → Nat
  | 0 => 0
  | k + 1 => if p / 2 ^ k % 2 = 1 ∧ a + k < 8 * n then mask n a p k ^^^ 2 ^ (a + k) else mask n a p k
theorem turnTo_length (l : List UInt8) (a p : Nat) : ∀ k, (turnTo l a p k).length = l.length
  | 0 => rfl
  | k + 1 => by
    unfold turnTo
    split
    · rw [flip_length, turnTo_length l a p k]
    · exact turnTo_length l a p k
theorem num_turnTo (l : List UInt8) (a p : Nat) : ∀ k, num (turnTo l a p k) = num l ^^^ mask l.length a p k
  | 0 => by simp [turnTo, mask]
  | k + 1 => by
    unfold turnTo mask
    split
    · rename_i h
      rw [num_flip _ _ (by rw [turnTo_length]; exact h.2), num_turnTo l a p k, Nat.xor_assoc]
    · exact num_turnTo l a p k
theorem mask_form (n a p : Nat) : ∀ k, ∃ w, mask n a p k = 2 ^ a * w ∧ w < 2 ^ k ∧ mask n a p k < 2 ^ (8 * n)
  | 0 => ⟨0, by simp [mask], by simp, by simp [mask]; exact Nat.two_pow_pos _⟩
  | k + 1 => by
    obtain ⟨w, h1, h2, h3⟩ := mask_form n a p k
    have hk : 2 ^ k < 2 ^ (k + 1) := by rw [Nat.pow_succ]; have := Nat.two_pow_pos k; omega
    unfold mask
    split
    · rename_i h
      refine ⟨w ^^^ 2 ^ k, ?_, Nat.xor_lt_two_pow (by omega) hk, Nat.xor_lt_two_pow h3 (Nat.pow_lt_pow_right (by omega) h.2)⟩
      rw [mul_xor, h1, Nat.pow_add]
    · exact ⟨w, h1, by omega, h3⟩

/-- Bits within 32 neighbours that change no register are none. -/
theorem burst (l : List UInt8) (a p n : Nat) (ha : a ≤ 8 * l.length) (h : run n (turnTo l a p 32) = run n l) : turnTo l a p 32 = l := by
  obtain ⟨w, h1, h2, h3⟩ := mask_form l.length a p 32
  have e := feed_xor (8 * l.length) n 0 (num l) (mask l.length a p 32)
  rw [Nat.xor_zero, ← num_turnTo, ← run_feed, ← turnTo_length l a p 32, ← run_feed, h, turnTo_length] at e
  have e0 : feed (8 * l.length) 0 (mask l.length a p 32) = 0 := by
    have := congrArg (run n l ^^^ ·) e
    simp only [Nat.xor_self, xor_back] at this
    exact this.symm
  rw [h1, show 8 * l.length = a + (8 * l.length - a) by omega, feed_ahead] at e0
  have hw : w < 2 ^ (8 * l.length - a) := by
    rw [h1] at h3
    have e2 : 2 ^ (8 * l.length) = 2 ^ a * 2 ^ (8 * l.length - a) := by rw [← Nat.pow_add]; congr 1; omega
    rw [e2] at h3
    exact Nat.lt_of_mul_lt_mul_left h3
  have w0 := feed_burst _ w (by simpa using h2) hw e0
  apply num_inj (turnTo_length l a p 32)
  rw [num_turnTo, h1, w0, Nat.mul_zero, Nat.xor_zero]

end Go.Proofs.YtnndabjhdhnleaaDoor.Plain

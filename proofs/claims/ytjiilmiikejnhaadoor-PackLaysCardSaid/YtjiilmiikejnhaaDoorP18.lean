/-
  Plain mathematics of the 32-bit sum: one bit, four bits, a byte, rows of bytes; linear, one to one; bursts. Nothing of the program stands here. Plain mathematics, more: rows of bytes as numbers; what is linear; bits that are turned within 32 neighbours; seals. Nothing of the program stands here. Plain mathematics of words: what two rows of bytes share, which one is less, rows that rise, places. Nothing of the program stands here. Plain mathematics of the document's Build: of words that rise, and share their first bytes, those with one byte next stand together.
-/
set_option linter.unusedVariables false
set_option linter.unusedSimpArgs false
namespace Go.Proofs.YtjiilmiikejnhaaDoor.Plain

theorem xor_lt {a b : Nat} (ha : a < 4294967296) (hb : b < 4294967296) : a ^^^ b < 4294967296 := Nat.xor_lt_two_pow (n := 32) ha hb
theorem xor_div2 (a b : Nat) : (a ^^^ b) / 2 = a / 2 ^^^ b / 2 := Nat.xor_div_two
theorem xor_mod2 (a b : Nat) : (a ^^^ b) % 2 = (a % 2 + b % 2) % 2 := by
  have := @Nat.xor_mod_two_pow a b 1
  simp at this
  rw [this]
  rcases Nat.mod_two_eq_zero_or_one a with h | h <;> rcases Nat.mod_two_eq_zero_or_one b with k | k <;> simp [h, k]
theorem xor_swap (a b c : Nat) : a ^^^ (b ^^^ c) = b ^^^ (a ^^^ c) := by rw [← Nat.xor_assoc, Nat.xor_comm a b, Nat.xor_assoc]
theorem xor_mid (a b c d : Nat) : (a ^^^ b) ^^^ (c ^^^ d) = (a ^^^ c) ^^^ (b ^^^ d) := by
  rw [Nat.xor_assoc, Nat.xor_assoc, xor_swap b c d]
theorem xor_back (a b : Nat) : a ^^^ (a ^^^ b) = b := by rw [← Nat.xor_assoc, Nat.xor_self, Nat.zero_xor]
theorem xor_zero_iff {a b : Nat} (h : a ^^^ b = 0) : a = b := by
  have := xor_back a b
  rw [h, Nat.xor_zero] at this
  exact this

/-- One bit that is 0. -/
def one (n : Nat) : Nat := if n % 2 = 1 then n / 2 ^^^ 3988292384 else n / 2

theorem one_even {n : Nat} (h : n % 2 = 0) : one n = n / 2 := by unfold one; rw [if_neg (by omega)]
theorem one_odd {n : Nat} (h : n % 2 = 1) : one n = n / 2 ^^^ 3988292384 := by unfold one; rw [if_pos h]
theorem one_lt {n : Nat} (h : n < 4294967296) : one n < 4294967296 := by
  rcases Nat.mod_two_eq_zero_or_one n with e | e
  · rw [one_even e]; omega
  · rw [one_odd e]; exact xor_lt (by omega) (by omega)
theorem one_xor (a b : Nat) : one (a ^^^ b) = one a ^^^ one b := by
  have hm := xor_mod2 a b
  rcases Nat.mod_two_eq_zero_or_one a with h | h <;> rcases Nat.mod_two_eq_zero_or_one b with k | k
  · rw [one_even h, one_even k, one_even (by omega), xor_div2]
  · rw [one_even h, one_odd k, one_odd (by omega), xor_div2, Nat.xor_assoc]
  · rw [one_odd h, one_even k, one_odd (by omega), xor_div2, Nat.xor_assoc, Nat.xor_assoc, Nat.xor_comm (b / 2)]
  · rw [one_odd h, one_odd k, one_even (by omega), xor_div2, xor_mid, Nat.xor_self, Nat.xor_zero]
theorem one_zero : one 0 = 0 := rfl
theorem one_eq_zero {n : Nat} (h : n < 4294967296) (e : one n = 0) : n = 0 := by
  rcases Nat.mod_two_eq_zero_or_one n with k | k
  · rw [one_even k] at e; omega
  · rw [one_odd k] at e
    have := xor_zero_iff e
    omega

/-- As many bits 0. -/
def many : Nat → Nat → Nat
  | 0, n => n
  | k + 1, n => many k (one n)

theorem many_lt : ∀ (k : Nat) {n : Nat}, n < 4294967296 → many k n < 4294967296
  | 0, _, h => h
  | k + 1, _, h => many_lt k (one_lt h)
theorem many_xor : ∀ (k a b : Nat), many k (a ^^^ b) = many k a ^^^ many k b
  | 0, _, _ => rfl
  | k + 1, a, b => by simp only [many, one_xor, many_xor k]
theorem many_zero : ∀ k : Nat, many k 0 = 0
  | 0 => rfl
  | k + 1 => by simp only [many, one_zero, many_zero k]
theorem many_eq_zero : ∀ (k : Nat) {n : Nat}, n < 4294967296 → many k n = 0 → n = 0
  | 0, _, _, e => e
  | k + 1, _, h, e => one_eq_zero h (many_eq_zero k (one_lt h) e)
theorem many_inj (k : Nat) {a b : Nat} (ha : a < 4294967296) (hb : b < 4294967296) (e : many k a = many k b) : a = b := by
  apply xor_zero_iff
  apply many_eq_zero k (xor_lt ha hb)
  rw [many_xor, e, Nat.xor_self]
theorem many_add : ∀ (j k n : Nat), many (j + k) n = many k (many j n)
  | 0, k, n => by rw [Nat.zero_add]; rfl
  | j + 1, k, n => by rw [Nat.succ_add]; exact many_add j k (one n)

theorem split2 (c : Nat) : c = c % 2 ^^^ 2 * (c / 2) := by
  apply Nat.eq_of_testBit_eq
  intro i
  rw [Nat.testBit_xor]
  cases i with
  | zero =>
    have h : (2 * (c / 2)) % 2 = 0 := by omega
    simp [Nat.testBit_zero, h]
  | succ i =>
    have h : c % 2 / 2 = 0 := by omega
    have h2 : 2 * (c / 2) / 2 = c / 2 := by omega
    simp [Nat.testBit_succ, h, h2]

/-- The number, a few bits of c further. -/
def feed : Nat → Nat → Nat → Nat
  | 0, n, _ => n
  | k + 1, n, c => feed k (one (n ^^^ c % 2)) (c / 2)

theorem feed_many : ∀ (k n c : Nat), c < 2 ^ k → feed k n c = many k (n ^^^ c)
  | 0, n, c, h => by
    have : c = 0 := by omega
    subst this
    simp [feed, many]
  | k + 1, n, c, h => by
    have hc : c / 2 < 2 ^ k := by rw [Nat.pow_succ] at h; omega
    rw [feed, feed_many k _ _ hc]
    show _ = many k (one (n ^^^ c))
    congr 1
    have e : one (2 * (c / 2)) = c / 2 := by rw [one_even (by omega)]; omega
    conv => rhs; rw [split2 c]
    rw [← Nat.xor_assoc, one_xor (n ^^^ c % 2), e]

/-- The reference's step, with its own test. -/
def refBit (n b : Nat) : Nat := if n % 2 = b then n / 2 else n / 2 ^^^ 3988292384
theorem refBit_one (n b : Nat) (hb : b ≤ 1) : refBit n b = one (n ^^^ b) := by
  unfold refBit one
  have hm := xor_mod2 n b
  have hd : (n ^^^ b) / 2 = n / 2 := by rw [xor_div2, show b / 2 = 0 by omega, Nat.xor_zero]
  rw [hd]
  by_cases h : n % 2 = b
  · rw [if_pos h, if_neg (by omega)]
  · rw [if_neg h, if_pos (by omega)]

/-- A byte. -/
def byte (n c : Nat) : Nat := many 8 (n ^^^ c)
theorem byte_lt {n c : Nat} (hn : n < 4294967296) (hc : c < 256) : byte n c < 4294967296 := many_lt 8 (xor_lt hn (by omega))

/-- The table of four bits. -/
def table : List Nat := [0, 498536548, 997073096, 651767980, 1994146192, 1802195444, 1303535960, 1342533948, 3988292384, 4027552580, 3604390888, 3412177804, 2607071920, 2262029012, 2685067896, 3183342108]
theorem table_lt (i : Nat) (h : i < 16) : table.getD i 0 < 4294967296 := by
  have : ∀ j : Fin 16, table.getD j.1 0 < 4294967296 := by decide
  exact this ⟨i, h⟩
theorem table_many (i : Nat) (h : i < 16) : many 4 i = table.getD i 0 := by
  have : ∀ j : Fin 16, many 4 j.1 = table.getD j.1 0 := by decide
  exact this ⟨i, h⟩
theorem split16 (m : Nat) : m = 16 * (m / 16) ^^^ m % 16 := by
  have h := Nat.two_pow_add_eq_or_of_lt (i := 4) (b := m % 16) (by omega) (m / 16)
  have h2 : 2 ^ 4 * (m / 16) + m % 16 = m := by omega
  apply Nat.eq_of_testBit_eq
  intro i
  rw [Nat.testBit_xor]
  by_cases hi : i < 4
  · have e : (16 * (m / 16)).testBit i = false := by
      have := Nat.testBit_two_pow_mul (i := 4) (a := m / 16) (j := i)
      rw [show 16 * (m / 16) = 2 ^ 4 * (m / 16) by omega, this]
      simp; omega
    have e2 : (m % 16).testBit i = m.testBit i := by
      rw [show (16 : Nat) = 2 ^ 4 by decide, Nat.testBit_mod_two_pow]
      simp [hi]
    rw [e, e2]; simp
  · have e2 : (m % 16).testBit i = false := by
      rw [show (16 : Nat) = 2 ^ 4 by decide, Nat.testBit_mod_two_pow]
      simp [hi]
    have e : (16 * (m / 16)).testBit i = m.testBit i := by
      rw [show 16 * (m / 16) = 2 ^ 4 * (m / 16) by omega, Nat.testBit_two_pow_mul]
      have : m / 16 = m / 2 ^ 4 := by simp
      rw [this, Nat.testBit_div_two_pow]
      have h4 : i - 4 + 4 = i := by omega
      simp [h4]; omega
    rw [e, e2]; simp
theorem many4_mul (q : Nat) : many 4 (16 * q) = q := by
  have h1 : one (16 * q) = 8 * q := by rw [one_even (by omega)]; omega
  have h2 : one (8 * q) = 4 * q := by rw [one_even (by omega)]; omega
  have h3 : one (4 * q) = 2 * q := by rw [one_even (by omega)]; omega
  have h4 : one (2 * q) = q := by rw [one_even (by omega)]; omega
  simp only [many, h1, h2, h3, h4]
theorem many4 (m : Nat) : many 4 m = m / 16 ^^^ table.getD (m % 16) 0 := by
  conv => lhs; rw [split16 m]
  rw [many_xor, many4_mul, table_many _ (by omega)]
theorem xor_div16 (a b : Nat) : (a ^^^ b) / 16 = a / 16 ^^^ b / 16 := Nat.xor_div_two_pow (n := 4)
/-- The program's byte, by its table. -/
theorem byte_table (n c : Nat) : byte n c = (n ^^^ c) / 256 ^^^ table.getD ((n ^^^ c) % 16) 0 / 16 ^^^ table.getD (((n ^^^ c) / 16 ^^^ table.getD ((n ^^^ c) % 16) 0) % 16) 0 := by
  unfold byte
  rw [show (8 : Nat) = 4 + 4 by rfl, many_add, many4 (n ^^^ c), many4, xor_div16, Nat.div_div_eq_div_mul]

/-- A row of bytes. -/
def run (n : Nat) (l : List UInt8) : Nat := l.foldl (fun n c => byte n c.toNat) n
theorem run_nil (n : Nat) : run n [] = n := rfl
theorem run_cons (n : Nat) (c : UInt8) (l : List UInt8) : run n (c :: l) = run (byte n c.toNat) l := rfl
theorem run_append (n : Nat) (a b : List UInt8) : run n (a ++ b) = run (run n a) b := List.foldl_append
theorem run_snoc (n : Nat) (a : List UInt8) (c : UInt8) : run n (a ++ [c]) = byte (run n a) c.toNat := by rw [run_append]; rfl
theorem run_lt : ∀ (l : List UInt8) {n : Nat}, n < 4294967296 → run n l < 4294967296
  | [], _, h => h
  | c :: l, _, h => run_lt l (byte_lt h c.toNat_lt)

/-- All bits the other way. -/
def turned (n : Nat) : Nat := 4294967295 ^^^ n
theorem turned_eq (n : Nat) : turned n = 4294967295 ^^^ n := rfl
theorem ones_lt : 4294967295 < 4294967296 := by omega
theorem turned_lt {n : Nat} (h : n < 4294967296) : turned n < 4294967296 := by
  rw [turned_eq]
  exact Nat.xor_lt_two_pow (n := 32) ones_lt h
theorem turned_turned (n : Nat) : turned (turned n) = n := by
  rw [turned_eq (turned n), turned_eq n, xor_back]
theorem turned_comm (n : Nat) : n ^^^ 4294967295 = turned n := by rw [turned_eq, Nat.xor_comm]
theorem turned_sub {n : Nat} (h : n < 4294967296) : 4294967295 - n = turned n := by
  apply Nat.eq_of_testBit_eq
  intro i
  rw [turned_eq, Nat.testBit_xor]
  have e : 4294967295 - n = 2 ^ 32 - (n + 1) := by omega
  rw [e, Nat.testBit_two_pow_sub_succ (by simpa using h)]
  rw [show (4294967295 : Nat) = 2 ^ 32 - 1 by decide, Nat.testBit_two_pow_sub_one]
  by_cases hi : i < 32
  · simp [hi]
  · have : n.testBit i = false := Nat.testBit_lt_two_pow (Nat.lt_of_lt_of_le h (Nat.pow_le_pow_right (n := 2) (by omega) (show 32 ≤ i by omega)))
    simp [hi, this]

/-- What More answers; the sum. -/
def more (sum : Nat) (l : List UInt8) : Nat := turned (run (turned sum) l)
def sum (l : List UInt8) : Nat := more 0 l
theorem more_lt {s : Nat} (h : s < 4294967296) (l : List UInt8) : more s l < 4294967296 := turned_lt (run_lt l (turned_lt h))
theorem sum_lt (l : List UInt8) : sum l < 4294967296 := more_lt (by omega) l
theorem more_sum (a b : List UInt8) : more (sum a) b = sum (a ++ b) := by
  unfold sum more
  rw [turned_turned, run_append]

/-- A number's bytes, the lowest first. -/
def four (n : Nat) : List UInt8 := [UInt8.ofNat (n % 256), UInt8.ofNat (n / 256 % 256), UInt8.ofNat (n / 65536 % 256), UInt8.ofNat (n / 16777216 % 256)]
theorem four_length (n : Nat) : (four n).length = 4 := rfl

end Go.Proofs.YtjiilmiikejnhaaDoor.Plain
namespace Go.Proofs.YtjiilmiikejnhaaDoor.Plain

theorem split (k m : Nat) : m = 2 ^ k * (m / 2 ^ k) ^^^ m % 2 ^ k := by
  apply Nat.eq_of_testBit_eq
  intro i
  rw [Nat.testBit_xor, Nat.testBit_two_pow_mul, Nat.testBit_mod_two_pow, Nat.testBit_div_two_pow]
  by_cases hi : i < k
  · have : ¬ k ≤ i := by omega
    simp [hi, this]
  · have h1 : k ≤ i := by omega
    have h2 : i - k + k = i := by omega
    simp [hi, h1, h2]
theorem join256 {a : Nat} (h : a < 256) (X : Nat) : a + 256 * X = a ^^^ 256 * X := by
  have := split 8 (a + 256 * X)
  rw [show (2 : Nat) ^ 8 = 256 by decide, show (a + 256 * X) / 256 = X by omega, show (a + 256 * X) % 256 = a by omega] at this
  rw [this, Nat.xor_comm]
theorem mul_xor (k a b : Nat) : 2 ^ k * (a ^^^ b) = 2 ^ k * a ^^^ 2 ^ k * b := by
  have h := Nat.shiftLeft_xor_distrib (i := k) (a := a) (b := b)
  rw [Nat.shiftLeft_eq, Nat.shiftLeft_eq, Nat.shiftLeft_eq] at h
  rw [Nat.mul_comm, h, Nat.mul_comm a, Nat.mul_comm b]

theorem feed_xor : ∀ (k n m c d : Nat), feed k (n ^^^ m) (c ^^^ d) = feed k n c ^^^ feed k m d
  | 0, _, _, _, _ => rfl
  | k + 1, n, m, c, d => by
    have e : (c ^^^ d) % 2 = c % 2 ^^^ d % 2 := by
      have h := xor_mod2 c d
      rcases Nat.mod_two_eq_zero_or_one c with x | x <;> rcases Nat.mod_two_eq_zero_or_one d with y | y <;> rw [h, x, y] <;> rfl
    rw [feed, feed, feed, e, xor_div2, xor_mid, one_xor, feed_xor k]
theorem feed_add : ∀ (j k n c : Nat), feed (j + k) n c = feed k (feed j n c) (c / 2 ^ j)
  | 0, k, n, c => by simp [feed]
  | j + 1, k, n, c => by
    rw [Nat.succ_add, feed, feed_add j, feed, Nat.div_div_eq_div_mul, Nat.pow_succ, Nat.mul_comm 2]
theorem feed_mod : ∀ (k n c : Nat), feed k n (c % 2 ^ k) = feed k n c
  | 0, _, _ => rfl
  | k + 1, n, c => by
    have e1 : c % 2 ^ (k + 1) % 2 = c % 2 := by
      rw [Nat.pow_succ, Nat.mul_comm, Nat.mod_mul_right_mod]
    have e2 : c % 2 ^ (k + 1) / 2 = c / 2 % 2 ^ k := by
      rw [Nat.pow_succ, Nat.mul_comm, Nat.mod_mul_right_div_self]
    rw [feed, feed, e1, e2, feed_mod k]
theorem feed_lt : ∀ (k : Nat) {n : Nat} (c : Nat), n < 4294967296 → feed k n c < 4294967296
  | 0, _, _, h => h
  | k + 1, _, c, h => feed_lt k _ (one_lt (xor_lt h (by omega)))
theorem feed_none : ∀ (k n : Nat), feed k n 0 = many k n
  | 0, _ => rfl
  | k + 1, n => by rw [feed, many, Nat.zero_mod, Nat.zero_div, Nat.xor_zero, feed_none k]
theorem feed_ahead : ∀ (j k w : Nat), feed (j + k) 0 (2 ^ j * w) = feed k 0 w
  | 0, k, w => by simp
  | j + 1, k, w => by
    have e1 : 2 ^ (j + 1) * w % 2 = 0 := by rw [Nat.pow_succ, Nat.mul_comm (2 ^ j), Nat.mul_assoc]; omega
    have e2 : 2 ^ (j + 1) * w / 2 = 2 ^ j * w := by rw [Nat.pow_succ, Nat.mul_comm (2 ^ j), Nat.mul_assoc]; omega
    rw [Nat.succ_add, feed, e1, e2, Nat.xor_zero, one_zero, feed_ahead j]
/-- A burst does not vanish. -/
theorem feed_burst (k w : Nat) (hw : w < 4294967296) (hk : w < 2 ^ k) (h : feed k 0 w = 0) : w = 0 := by
  rcases Nat.lt_or_ge 32 k with hk32 | hk32
  · have e : k = 32 + (k - 32) := by omega
    rw [e, feed_add, feed_many 32 0 w (by simpa using hw), Nat.zero_xor, Nat.div_eq_of_lt (by simpa using hw), feed_none] at h
    exact many_eq_zero 32 hw (many_eq_zero _ (many_lt 32 hw) h)
  · rw [feed_many k 0 w hk, Nat.zero_xor] at h
    exact many_eq_zero k hw h

/-- A row of bytes as a number, the lowest byte first. -/
def num : List UInt8 → Nat
  | [] => 0
  | c :: l => c.toNat + 256 * num l
theorem pow_step (k : Nat) : 2 ^ (8 * (k + 1)) = 256 * 2 ^ (8 * k) := by
  rw [Nat.mul_add, Nat.pow_add, Nat.mul_comm]
theorem num_lt : ∀ l : List UInt8, num l < 2 ^ (8 * l.length)
  | [] => by simp [num]
  | c :: l => by
    have := num_lt l
    have hc := c.toNat_lt
    rw [num, List.length_cons, pow_step]
    omega
theorem num_inj : ∀ {a b : List UInt8}, a.length = b.length → num a = num b → a = b
  | [], [], _, _ => rfl
  | [], _ :: _, h, _ => by simp at h
  | _ :: _, [], h, _ => by simp at h
  | c :: a, d :: b, h, e => by
    have hc := c.toNat_lt
    have hd := d.toNat_lt
    simp only [num] at e
    have e1 : c.toNat = d.toNat := by omega
    have e2 : num a = num b := by omega
    rw [UInt8.toNat_inj.1 e1, num_inj (by simpa using h) e2]
theorem run_feed : ∀ (l : List UInt8) (n : Nat), run n l = feed (8 * l.length) n (num l)
  | [], _ => rfl
  | c :: l, n => by
    have hc := c.toNat_lt
    rw [run_cons, run_feed l, num, List.length_cons, show 8 * (l.length + 1) = 8 + 8 * l.length by omega, feed_add, ← feed_mod 8]
    rw [show (2 : Nat) ^ 8 = 256 by decide, show (c.toNat + 256 * num l) % 256 = c.toNat by omega, show (c.toNat + 256 * num l) / 256 = num l by omega, feed_many 8 n _ (by simpa using hc)]
    rfl
/-- One to one in what it begins with. -/
theorem run_inj (l : List UInt8) {n m : Nat} (hn : n < 4294967296) (hm : m < 4294967296) (h : run n l = run m l) : n = m := by
  apply xor_zero_iff
  apply many_eq_zero (8 * l.length) (xor_lt hn hm)
  have e := feed_xor (8 * l.length) n m (num l) (num l)
  rw [← run_feed, ← run_feed, h, Nat.xor_self, Nat.xor_self, feed_none] at e
  exact e
theorem num_four_lt (l : List UInt8) (h : l.length = 4) : num l < 4294967296 := by
  have := num_lt l
  rw [h] at this
  simpa using this
theorem run_four (n : Nat) (l : List UInt8) (h : l.length = 4) : run n l = many 32 (n ^^^ num l) := by
  rw [run_feed, h, feed_many 32 _ _ (by simpa using num_four_lt l h)]
theorem u8_of {x : Nat} (h : x < 256) : (UInt8.ofNat x).toNat = x := by
  rw [UInt8.toNat_ofNat']
  exact Nat.mod_eq_of_lt (by simpa using h)
theorem num_four (n : Nat) (h : n < 4294967296) : num (four n) = n := by
  simp only [four, num]
  rw [u8_of (by omega), u8_of (by omega), u8_of (by omega), u8_of (by omega)]
  omega

/-- The sum that seals have. -/
theorem seal_run (a y : List UInt8) (hy : y.length = 4) : y = four (sum a) ↔ run 4294967295 (a ++ y) = many 32 4294967295 := by
  have hr : run 4294967295 a < 4294967296 := run_lt a ones_lt
  have hs : sum a = turned (run 4294967295 a) := by
    unfold sum more
    rw [turned_eq 0, Nat.xor_zero]
  rw [run_append, run_four _ y hy]
  generalize run 4294967295 a = r at hr hs
  constructor
  · intro h
    rw [h, num_four _ (sum_lt a), hs, turned_eq, xor_swap, Nat.xor_self, Nat.xor_zero]
  · intro h
    have h1 := many_inj 32 (xor_lt hr (num_four_lt y hy)) ones_lt h
    apply num_inj (by rw [hy, four_length])
    rw [num_four _ (sum_lt a), hs, turned_eq, Nat.xor_comm, ← h1, xor_back]

/-- One bit turned. -/
def flip (l : List UInt8) (b : Nat) : List UInt8 := l.set (b / 8) (UInt8.ofNat ((l.getD (b / 8) 0).toNat ^^^ 2 ^ (b % 8)))
theorem flip_length (l : List UInt8) (b : Nat) : (flip l b).length = l.length := by simp [flip]
theorem pow_lt8 (r : Nat) (h : r < 8) : 2 ^ r < 256 := by
  have : ∀ j : Fin 8, 2 ^ j.1 < 256 := by decide
  exact this ⟨r, h⟩
theorem xor_lt8 {a b : Nat} (ha : a < 256) (hb : b < 256) : a ^^^ b < 256 := Nat.xor_lt_two_pow (n := 8) ha hb
theorem num_flip : ∀ (l : List UInt8) (b : Nat), b < 8 * l.length → num (flip l b) = num l ^^^ 2 ^ b
  | [], b, h => by simp at h
  | c :: l, b, h => by
    have hc := c.toNat_lt
    rcases Nat.lt_or_ge b 8 with hb | hb
    · have h0 : b / 8 = 0 := by omega
      have h1 : b % 8 = b := by omega
      have hp := pow_lt8 b hb
      have hx := xor_lt8 hc hp
      unfold flip
      rw [h0, h1, List.set_cons_zero, List.getD_cons_zero, num, num, u8_of hx, join256 hx, join256 hc, Nat.xor_assoc, Nat.xor_assoc, Nat.xor_comm (2 ^ b)]
    · have h0 : b / 8 = (b - 8) / 8 + 1 := by omega
      have h1 : b % 8 = (b - 8) % 8 := by omega
      have ih := num_flip l (b - 8) (by simp at h; omega)
      have e : flip (c :: l) b = c :: flip l (b - 8) := by
        unfold flip
        rw [h0, h1, List.set_cons_succ, List.getD_cons_succ]
      rw [e, num, num, ih, join256 hc, join256 hc, show (256 : Nat) = 2 ^ 8 by decide, mul_xor, ← Nat.pow_add, show 8 + (b - 8) = b by omega, Nat.xor_assoc]

/-- Bits of a pattern turned, from one place on, as many as k of them. -/
def turnTo (l : List UInt8) (a p : Nat) : Nat → List UInt8
  | 0 => l
  | k + 1 => if p / 2 ^ k % 2 = 1 ∧ a + k < 8 * l.length then flip (turnTo l a p k) (a + k) else turnTo l a p k
/-- What they make, as a number. -/
def mask (n a p : Nat) : Nat → Nat
  | 0 => 0
  | k + 1 => if p / 2 ^ k % 2 = 1 ∧ a + k < 8 * n then mask n a p k ^^^ 2 ^ (a + k) else mask n a p k
theorem turnTo_length (l : List UInt8) (a p : Nat) : ∀ k, (turnTo l a p k).length = l.length
  | 0 => rfl
  | k + 1 => by
    unfold turnTo
    split
    · rw [flip_length, turnTo_length l a p k]
    · exact turnTo_length l a p k
theorem num_turnTo (l : List UInt8) (a p : Nat) : ∀ k, num (turnTo l a p k) = num l ^^^ mask l.length a p k
  | 0 => by simp [turnTo, mask]
  | k + 1 => by
    unfold turnTo mask
    split
    · rename_i h
      rw [num_flip _ _ (by rw [turnTo_length]; exact h.2), num_turnTo l a p k, Nat.xor_assoc]
    · exact num_turnTo l a p k
theorem mask_form (n a p : Nat) : ∀ k, ∃ w, mask n a p k = 2 ^ a * w ∧ w < 2 ^ k ∧ mask n a p k < 2 ^ (8 * n)
  | 0 => ⟨0, by simp [mask], by simp, by simp [mask]; exact Nat.two_pow_pos _⟩
  | k + 1 => by
    obtain ⟨w, h1, h2, h3⟩ := mask_form n a p k
    have hk : 2 ^ k < 2 ^ (k + 1) := by rw [Nat.pow_succ]; have := Nat.two_pow_pos k; omega
    unfold mask
    split
    · rename_i h
      refine ⟨w ^^^ 2 ^ k, ?_, Nat.xor_lt_two_pow (by omega) hk, Nat.xor_lt_two_pow h3 (Nat.pow_lt_pow_right (by omega) h.2)⟩
      rw [mul_xor, h1, Nat.pow_add]
    · exact ⟨w, h1, by omega, h3⟩

/-- Bits within 32 neighbours that change no register are none. -/
theorem burst (l : List UInt8) (a p n : Nat) (ha : a ≤ 8 * l.length) (h : run n (turnTo l a p 32) = run n l) : turnTo l a p 32 = l := by
  obtain ⟨w, h1, h2, h3⟩ := mask_form l.length a p 32
  have e := feed_xor (8 * l.length) n 0 (num l) (mask l.length a p 32)
  rw [Nat.xor_zero, ← num_turnTo, ← run_feed, ← turnTo_length l a p 32, ← run_feed, h, turnTo_length] at e
  have e0 : feed (8 * l.length) 0 (mask l.length a p 32) = 0 := by
    have := congrArg (run n l ^^^ ·) e
    simp only [Nat.xor_self, xor_back] at this
    exact this.symm
  rw [h1, show 8 * l.length = a + (8 * l.length - a) by omega, feed_ahead] at e0
  have hw : w < 2 ^ (8 * l.length - a) := by
    rw [h1] at h3
    have e2 : 2 ^ (8 * l.length) = 2 ^ a * 2 ^ (8 * l.length - a) := by rw [← Nat.pow_add]; congr 1; omega
    rw [e2] at h3
    exact Nat.lt_of_mul_lt_mul_left h3
  have w0 := feed_burst _ w (by simpa using h2) hw e0
  apply num_inj (turnTo_length l a p 32)
  rw [num_turnTo, h1, w0, Nat.mul_zero, Nat.xor_zero]

end Go.Proofs.YtjiilmiikejnhaaDoor.Plain
namespace Go.Proofs.YtjiilmiikejnhaaDoor.Plain

/-- How many bytes two rows share. -/
def shared : List UInt8 → List UInt8 → Nat
  | a :: x, b :: y => if a = b then shared x y + 1 else 0
  | _, _ => 0

/-- Is the first one less? -/
def less : List UInt8 → List UInt8 → Bool
  | [], [] => false
  | [], _ :: _ => true
  | _ :: _, [] => false
  | a :: x, b :: y => if a = b then less x y else decide (a.toNat < b.toNat)

theorem shared_nil_right (x : List UInt8) : shared x [] = 0 := by cases x <;> rfl

theorem shared_comm : ∀ x y : List UInt8, shared x y = shared y x
  | [], [] => rfl
  | [], _ :: _ => rfl
  | _ :: _, [] => rfl
  | a :: x, b :: y => by
    unfold shared
    by_cases h : a = b
    · rw [if_pos h, if_pos h.symm, shared_comm x y]
    · rw [if_neg h, if_neg (fun e => h e.symm)]

theorem shared_le_left : ∀ x y : List UInt8, shared x y ≤ x.length
  | [], _ => by simp [shared]
  | _ :: _, [] => by simp [shared]
  | a :: x, b :: y => by
    unfold shared
    split
    · have := shared_le_left x y
      simp; omega
    · exact Nat.zero_le _

theorem shared_le_right (x y : List UInt8) : shared x y ≤ y.length := by rw [shared_comm]; exact shared_le_left y x

theorem shared_self : ∀ x : List UInt8, shared x x = x.length
  | [] => rfl
  | a :: x => by unfold shared; rw [if_pos rfl, shared_self x]; rfl

/-- Up to there they are alike. -/
theorem shared_take : ∀ (x y : List UInt8), x.take (shared x y) = y.take (shared x y)
  | [], _ => by simp [shared]
  | _ :: _, [] => by simp [shared]
  | a :: x, b :: y => by
    unfold shared
    split
    · rename_i h
      rw [List.take_succ_cons, List.take_succ_cons, h, shared_take x y]
    · simp

/-- There they are unlike. -/
theorem shared_stop : ∀ (x y : List UInt8), shared x y < x.length → shared x y < y.length → x.getD (shared x y) 0 ≠ y.getD (shared x y) 0
  | [], _, h, _ => by simp at h
  | _ :: _, [], _, h => by simp at h
  | a :: x, b :: y, h1, h2 => by
    unfold shared at h1 h2 ⊢
    by_cases h : a = b
    · rw [if_pos h] at h1 h2 ⊢
      have := shared_stop x y (by simpa using h1) (by simpa using h2)
      simpa using this
    · rw [if_neg h]
      simpa using h

/-- As many bytes are shared as are alike from the first one on. -/
theorem shared_step : ∀ (x y : List UInt8) (n : Nat), n < x.length → n < y.length → n ≤ shared x y → x.getD n 0 = y.getD n 0 → n + 1 ≤ shared x y
  | [], _, _, h, _, _, _ => by simp at h
  | _ :: _, [], _, _, h, _, _ => by simp at h
  | a :: x, b :: y, n, h1, h2, h3, h4 => by
    unfold shared at h3 ⊢
    by_cases h : a = b
    · rw [if_pos h] at h3 ⊢
      cases n with
      | zero => omega
      | succ n =>
        have := shared_step x y n (by simpa using h1) (by simpa using h2) (by omega) (by simpa using h4)
        omega
    · rw [if_neg h] at h3 ⊢
      obtain rfl : n = 0 := by omega
      exact absurd (by simpa using h4) h

/-- What is less, by the first place at which they are unlike. -/
theorem less_eq : ∀ x y : List UInt8, less x y = if shared x y = x.length then decide (shared x y < y.length) else decide (shared x y < y.length) && decide ((x.getD (shared x y) 0).toNat < (y.getD (shared x y) 0).toNat)
  | [], [] => by simp [less, shared]
  | [], _ :: _ => by simp [less, shared]
  | _ :: _, [] => by simp [less, shared]
  | a :: x, b :: y => by
    have ih := less_eq x y
    unfold less shared
    by_cases h : a = b
    · rw [if_pos h, if_pos h, ih]
      by_cases hs : shared x y = x.length
      · simp [hs]
      · have hl : ¬ shared x y + 1 = (a :: x).length := by simpa using hs
        rw [if_neg hs, if_neg hl]
        have e1 : (a :: x).getD (shared x y + 1) 0 = x.getD (shared x y) 0 := by simp [List.getD]
        have e2 : (b :: y).getD (shared x y + 1) 0 = y.getD (shared x y) 0 := by simp [List.getD]
        have e3 : decide (shared x y + 1 < (b :: y).length) = decide (shared x y < y.length) := by simp
        rw [e1, e2, e3]
    · rw [if_neg h, if_neg h]
      simp [List.getD]

theorem less_irrefl : ∀ x : List UInt8, less x x = false
  | [] => rfl
  | a :: x => by unfold less; rw [if_pos rfl]; exact less_irrefl x

theorem less_asymm : ∀ x y : List UInt8, less x y = true → less y x = false
  | [], [], h => by simp [less] at h
  | [], _ :: _, _ => rfl
  | _ :: _, [], h => by simp [less] at h
  | a :: x, b :: y, h => by
    unfold less at h ⊢
    by_cases hab : a = b
    · rw [if_pos hab] at h
      rw [if_pos hab.symm]
      exact less_asymm x y h
    · rw [if_neg hab] at h
      rw [if_neg (fun e => hab e.symm)]
      have := of_decide_eq_true h
      exact decide_eq_false (by omega)

theorem less_total : ∀ x y : List UInt8, x ≠ y → less x y = true ∨ less y x = true
  | [], [], h => absurd rfl h
  | [], _ :: _, _ => .inl rfl
  | _ :: _, [], _ => .inr rfl
  | a :: x, b :: y, h => by
    unfold less
    by_cases hab : a = b
    · subst hab
      rw [if_pos rfl, if_pos rfl]
      exact less_total x y (fun e => h (by rw [e]))
    · rw [if_neg hab, if_neg (fun e => hab e.symm)]
      have : a.toNat ≠ b.toNat := fun e => hab (UInt8.toNat_inj.1 e)
      rcases Nat.lt_or_gt_of_ne this with h' | h'
      · exact .inl (decide_eq_true h')
      · exact .inr (decide_eq_true h')

theorem less_ne {x y : List UInt8} (h : less x y = true) : x ≠ y := by
  rintro rfl
  rw [less_irrefl] at h
  cases h

/-- Just one of two that are unlike is less. -/
theorem less_or (x y : List UInt8) : (less x y || less y x) = decide (x ≠ y) := by
  by_cases h : x = y
  · subst h; simp [less_irrefl]
  · rcases less_total x y h with h' | h' <;> simp [h, h']

theorem less_trans : ∀ x y z : List UInt8, less x y = true → less y z = true → less x z = true
  | [], [], _, h, _ => by simp [less] at h
  | [], _ :: _, [], _, h => by simp [less] at h
  | [], _ :: _, _ :: _, _, _ => rfl
  | _ :: _, [], _, h, _ => by simp [less] at h
  | _ :: _, _ :: _, [], _, h => by simp [less] at h
  | a :: x, b :: y, c :: z, h1, h2 => by
    unfold less at h1 h2 ⊢
    by_cases hab : a = b
    · subst hab
      rw [if_pos rfl] at h1
      by_cases hac : a = c
      · rw [if_pos hac] at h2 ⊢
        exact less_trans x y z h1 h2
      · rw [if_neg hac] at h2 ⊢
        exact h2
    · rw [if_neg hab] at h1
      have l1 := of_decide_eq_true h1
      by_cases hbc : b = c
      · subst hbc
        rw [if_neg hab]
        exact h1
      · rw [if_neg hbc] at h2
        have l2 := of_decide_eq_true h2
        have hac : a ≠ c := fun e => by subst e; omega
        rw [if_neg hac]
        exact decide_eq_true (by omega)

/-- What lies between shares no less. -/
theorem shared_between : ∀ x y z : List UInt8, less x y = true → less y z = true → shared x z ≤ shared x y ∧ shared x z ≤ shared y z
  | [], _, _, _, _ => by simp [shared]
  | _ :: _, [], _, h, _ => by simp [less] at h
  | _ :: _, _ :: _, [], _, h => by simp [less] at h
  | a :: x, b :: y, c :: z, h1, h2 => by
    unfold less at h1 h2
    unfold shared
    by_cases hac : a = c
    · subst hac
      rw [if_pos rfl]
      by_cases hab : a = b
      · subst hab
        rw [if_pos rfl] at h1 h2 ⊢
        rw [if_pos rfl]
        have := shared_between x y z h1 h2
        omega
      · rw [if_neg hab] at h1
        rw [if_neg (fun e => hab e.symm)] at h2
        have l1 := of_decide_eq_true h1
        have l2 := of_decide_eq_true h2
        omega
    · rw [if_neg hac]
      exact ⟨Nat.zero_le _, Nat.zero_le _⟩

/-- What three share. -/
theorem shared_three : ∀ x y z : List UInt8, min (shared x y) (shared y z) ≤ shared x z
  | [], _, _ => by simp [shared]
  | _ :: _, [], _ => by simp [shared]
  | _ :: _, _ :: _, [] => by simp [shared]
  | a :: x, b :: y, c :: z => by
    unfold shared
    by_cases hab : a = b
    · subst hab
      rw [if_pos rfl]
      by_cases hac : a = c
      · rw [if_pos hac, if_pos hac]
        have := shared_three x y z
        omega
      · rw [if_neg hac, if_neg hac]; omega
    · rw [if_neg hab]; omega

/-! ### Rows that rise -/

/-- Each is less than the next one. -/
def rising : List (List UInt8) → Bool
  | x :: y :: r => less x y && rising (y :: r)
  | _ => true

theorem rising_tail {x : List UInt8} {l : List (List UInt8)} (h : rising (x :: l) = true) : rising l = true := by
  cases l with
  | nil => rfl
  | cons y r => unfold rising at h; rw [Bool.and_eq_true] at h; exact h.2

/-- The first one is less than all others. -/
theorem rising_head : ∀ {x : List UInt8} {l : List (List UInt8)}, rising (x :: l) = true → ∀ y ∈ l, less x y = true
  | x, [], _, y, hy => by simp at hy
  | x, z :: r, h, y, hy => by
    have h' := h
    unfold rising at h
    rw [Bool.and_eq_true] at h
    rcases List.mem_cons.1 hy with rfl | hy'
    · exact h.1
    · exact less_trans x z y h.1 (rising_head h.2 y hy')

theorem rising_cons {x : List UInt8} {l : List (List UInt8)} (h1 : ∀ y ∈ l, less x y = true) (h2 : rising l = true) : rising (x :: l) = true := by
  cases l with
  | nil => rfl
  | cons y r => unfold rising; rw [Bool.and_eq_true]; exact ⟨h1 y (by simp), h2⟩

theorem rising_append : ∀ {a b : List (List UInt8)}, rising (a ++ b) = true ↔ rising a = true ∧ rising b = true ∧ ∀ x ∈ a, ∀ y ∈ b, less x y = true
  | [], b => by simp [rising]
  | x :: a, b => by
    rw [List.cons_append]
    constructor
    · intro h
      obtain ⟨h1, h2, h3⟩ := rising_append.1 (rising_tail h)
      have hh := rising_head h
      refine ⟨rising_cons (fun y hy => hh y (by simp [hy])) h1, h2, fun z hz y hy => ?_⟩
      rcases List.mem_cons.1 hz with rfl | hz'
      · exact hh y (by simp [hy])
      · exact h3 z hz' y hy
    · rintro ⟨h1, h2, h3⟩
      refine rising_cons (fun y hy => ?_) (rising_append.2 ⟨rising_tail h1, h2, fun z hz y hy => h3 z (by simp [hz]) y hy⟩)
      rcases List.mem_append.1 hy with h | h
      · exact rising_head h1 y h
      · exact h3 x (by simp) y h

/-- Two rows that rise, with the same members, are one. -/
theorem rising_ext : ∀ {a b : List (List UInt8)}, rising a = true → rising b = true → (∀ x, x ∈ a ↔ x ∈ b) → a = b
  | [], [], _, _, _ => rfl
  | [], y :: b, _, _, h => by have := (h y).2 (by simp); simp at this
  | x :: a, [], _, _, h => by have := (h x).1 (by simp); simp at this
  | x :: a, y :: b, ha, hb, h => by
    have hxy : x = y := by
      rcases List.mem_cons.1 ((h x).1 (by simp)) with e | hx
      · exact e
      · rcases List.mem_cons.1 ((h y).2 (by simp)) with e | hy
        · exact e.symm
        · have h1 := rising_head hb x hx
          have h2 := rising_head ha y hy
          rw [less_asymm _ _ h1] at h2
          cases h2
    subst hxy
    congr 1
    refine rising_ext (rising_tail ha) (rising_tail hb) fun z => ?_
    constructor
    · intro hz
      rcases List.mem_cons.1 ((h z).1 (by simp [hz])) with e | hz'
      · subst e
        have := less_ne (rising_head ha z hz)
        exact absurd rfl this
      · exact hz'
    · intro hz
      rcases List.mem_cons.1 ((h z).2 (by simp [hz])) with e | hz'
      · subst e
        have := less_ne (rising_head hb z hz)
        exact absurd rfl this
      · exact hz'

/-! ### Places -/

/-- How many are less, and is it there? -/
def place (l : List (List UInt8)) (w : List UInt8) : Nat := (l.filter fun x => less x w).length

theorem place_le (l : List (List UInt8)) (w : List UInt8) : place l w ≤ l.length := List.length_filter_le ..

theorem place_cons (x : List UInt8) (l : List (List UInt8)) (w : List UInt8) : place (x :: l) w = (if less x w = true then 1 else 0) + place l w := by
  unfold place
  rw [List.filter_cons]
  split <;> simp
  omega

/-- In a row that rises the lesser ones are just those ahead of the place. -/
theorem place_split : ∀ {l : List (List UInt8)} {w : List UInt8}, rising l = true → (∀ x ∈ l.take (place l w), less x w = true) ∧ (∀ x ∈ l.drop (place l w), less x w = false)
  | [], w, _ => by simp
  | x :: l, w, h => by
    obtain ⟨h1, h2⟩ := place_split (w := w) (rising_tail h)
    rw [place_cons]
    by_cases hx : less x w = true
    · rw [if_pos hx, show 1 + place l w = place l w + 1 by omega, List.take_succ_cons, List.drop_succ_cons]
      refine ⟨fun y hy => ?_, h2⟩
      rcases List.mem_cons.1 hy with rfl | hy'
      · exact hx
      · exact h1 y hy'
    · have hall : ∀ y ∈ l, less y w = false := fun y hy => by
        cases hz : less y w with
        | false => rfl
        | true => exact absurd (less_trans x y w (rising_head h y hy) hz) hx
      have hp : place l w = 0 := by
        unfold place
        rw [List.filter_eq_nil_iff.2 (fun y hy => by rw [hall y hy]; simp)]
        rfl
      rw [if_neg hx, hp]
      refine ⟨by simp, fun y hy => ?_⟩
      rcases List.mem_cons.1 (by simpa using hy) with rfl | hy'
      · simpa using hx
      · exact hall y hy'

/-- Where a word of a row that rises stands is its place. -/
theorem place_at {l : List (List UInt8)} (h : rising l = true) {i : Nat} (hi : i < l.length) : place l l[i] = i := by
  have e : l = l.take i ++ l[i] :: l.drop (i + 1) := by rw [← List.drop_eq_getElem_cons hi, List.take_append_drop]
  have h' := h
  rw [e] at h'
  obtain ⟨_, h2, h3⟩ := rising_append.1 h'
  have h4 := rising_head h2
  have e2 : place l l[i] = place (l.take i ++ l[i] :: l.drop (i + 1)) l[i] := by rw [← e]
  rw [e2]
  unfold place
  rw [List.filter_append, List.filter_cons, less_irrefl, if_neg (by simp)]
  rw [List.filter_eq_self.2 (fun x hx => h3 x hx _ List.mem_cons_self), List.filter_eq_nil_iff.2 (fun x hx => by rw [less_asymm _ _ (h4 x hx)]; simp)]
  simp
  omega

/-- A row with one more, at its place, rises. -/
theorem rising_insert {l : List (List UInt8)} {w : List UInt8} (h : rising l = true) (hw : w ∉ l) : rising (l.take (place l w) ++ w :: l.drop (place l w)) = true := by
  obtain ⟨h1, h2⟩ := place_split (w := w) h
  have h' := h
  rw [← List.take_append_drop (place l w) l] at h'
  obtain ⟨r1, r2, r3⟩ := rising_append.1 h'
  refine rising_append.2 ⟨r1, rising_cons (fun y hy => ?_) r2, fun x hx y hy => ?_⟩
  · rcases less_total w y (fun e => hw (by rw [e]; exact List.mem_of_mem_drop hy)) with h | h
    · exact h
    · rw [h2 y hy] at h; cases h
  · rcases List.mem_cons.1 hy with rfl | hy'
    · exact h1 x hx
    · exact r3 x hx y hy'

theorem mem_insert {l : List (List UInt8)} {w x : List UInt8} (k : Nat) : x ∈ l.take k ++ w :: l.drop k ↔ x = w ∨ x ∈ l := by
  constructor
  · intro h
    rcases List.mem_append.1 h with h | h
    · exact .inr (List.mem_of_mem_take h)
    · rcases List.mem_cons.1 h with h | h
      · exact .inl h
      · exact .inr (List.mem_of_mem_drop h)
  · rintro (rfl | h)
    · simp
    · rw [← List.take_append_drop k l] at h
      rcases List.mem_append.1 h with h | h <;> simp [h]

/-! ### What all share -/

def allShared : List (List UInt8) → Nat
  | [] => 0
  | x :: r => r.foldl (fun n y => min n (shared x y)) x.length

theorem foldl_min_le {α : Type} (f : α → Nat) : ∀ (l : List α) (n : Nat), l.foldl (fun n y => min n (f y)) n ≤ n ∧ ∀ y ∈ l, l.foldl (fun n y => min n (f y)) n ≤ f y
  | [], n => ⟨Nat.le_refl _, by simp⟩
  | x :: l, n => by
    obtain ⟨h1, h2⟩ := foldl_min_le f l (min n (f x))
    refine ⟨by rw [List.foldl_cons]; omega, fun y hy => ?_⟩
    rw [List.foldl_cons]
    rcases List.mem_cons.1 hy with rfl | hy'
    · omega
    · exact h2 y hy'

theorem le_foldl_min {α : Type} (f : α → Nat) : ∀ (l : List α) (n m : Nat), m ≤ n → (∀ y ∈ l, m ≤ f y) → m ≤ l.foldl (fun n y => min n (f y)) n
  | [], n, m, h, _ => h
  | x :: l, n, m, h, hl => by
    rw [List.foldl_cons]
    exact le_foldl_min f l _ m (by have := hl x (by simp); omega) (fun y hy => hl y (by simp [hy]))

/-- Of words that rise the first and the last one share just what all share. -/
theorem allShared_ends : ∀ {x : List UInt8} {l : List (List UInt8)} {z : List UInt8}, rising (x :: (l ++ [z])) = true → allShared (x :: (l ++ [z])) = shared x z := by
  intro x l z h
  have hh := rising_head h
  have hz := (rising_append (a := l) (b := [z])).1 (rising_tail h)
  apply Nat.le_antisymm
  · exact (foldl_min_le (shared x) (l ++ [z]) x.length).2 z (by simp)
  · refine le_foldl_min (shared x) (l ++ [z]) x.length _ (shared_le_left x z) fun y hy => ?_
    rcases List.mem_append.1 hy with h' | h'
    · exact (shared_between x y z (hh y (by simp [h'])) (hz.2.2 y h' z (by simp))).1
    · rw [List.mem_singleton.1 h']; exact Nat.le_refl _

theorem allShared_one (x : List UInt8) : allShared [x] = x.length := rfl

/-- What all share, all of any part share, too. -/
theorem allShared_le : ∀ (l : List (List UInt8)) (y : List UInt8), y ∈ l → allShared l ≤ y.length
  | [], _, h => by simp at h
  | x :: r, y, h => by
    obtain ⟨h1, h2⟩ := foldl_min_le (shared x) r x.length
    rcases List.mem_cons.1 h with rfl | h'
    · exact h1
    · exact Nat.le_trans (h2 y h') (shared_le_right x y)

theorem allShared_two (l : List (List UInt8)) {y z : List UInt8} (hy : y ∈ l) (hz : z ∈ l) : allShared l ≤ shared y z := by
  cases l with
  | nil => simp at hy
  | cons x r =>
    obtain ⟨h1, h2⟩ := foldl_min_le (shared x) r x.length
    have hx : ∀ w ∈ x :: r, allShared (x :: r) ≤ shared x w := fun w hw => by
      rcases List.mem_cons.1 hw with rfl | hw'
      · rw [shared_self]; exact h1
      · exact h2 w hw'
    have a := hx y hy
    have b := hx z hz
    have := shared_three y x z
    rw [shared_comm y x] at this
    omega

theorem allShared_part (l m : List (List UInt8)) (hne : m ≠ []) (h : ∀ y ∈ m, y ∈ l) : allShared l ≤ allShared m := by
  cases m with
  | nil => exact absurd rfl hne
  | cons x r => exact le_foldl_min (shared x) r x.length _ (allShared_le l x (h x (by simp))) (fun y hy => allShared_two l (h x (by simp)) (h y (by simp [hy])))

/-! ### Near and Sorted, as the document's answer goes -/

def nearFrom : Nat → Nat → List (List UInt8) → List UInt8 → Nat × Bool
  | _, n, [], _ => (n, false)
  | i, n, x :: r, w => if x = w then (i, true) else nearFrom (i + 1) (if less x w = true then n + 1 else n) r w
def near (l : List (List UInt8)) (w : List UInt8) : Nat × Bool := nearFrom 0 0 l w

theorem nearFrom_not : ∀ (i n : Nat) (l : List (List UInt8)) (w : List UInt8), w ∉ l → nearFrom i n l w = (n + place l w, false)
  | _, n, [], w, _ => by simp [nearFrom, place]
  | i, n, x :: r, w, h => by
    have hx : x ≠ w := fun e => h (by simp [e])
    rw [nearFrom, if_neg hx, nearFrom_not _ _ r w (fun hr => h (by simp [hr])), place_cons]
    split <;> simp <;> omega

theorem nearFrom_is : ∀ (i n : Nat) (l : List (List UInt8)) (w : List UInt8), w ∈ l → ∃ j, ∃ h : j < l.length, l[j] = w ∧ nearFrom i n l w = (i + j, true)
  | _, _, [], w, h => by simp at h
  | i, n, x :: r, w, h => by
    by_cases hx : x = w
    · exact ⟨0, by simp, hx, by rw [nearFrom, if_pos hx]; simp⟩
    · rcases List.mem_cons.1 h with e | hr
      · exact absurd e.symm hx
      · obtain ⟨j, hj, h1, h2⟩ := nearFrom_is (i + 1) (if less x w = true then n + 1 else n) r w hr
        exact ⟨j + 1, by simp; omega, by simpa using h1, by rw [nearFrom, if_neg hx, h2]; simp; omega⟩

/-- In a row that rises a word is near its place. -/
theorem near_rising {l : List (List UInt8)} (h : rising l = true) (w : List UInt8) : near l w = (place l w, decide (w ∈ l)) := by
  unfold near
  by_cases hw : w ∈ l
  · obtain ⟨j, hj, h1, h2⟩ := nearFrom_is 0 0 l w hw
    have := place_at h hj
    rw [h1] at this
    rw [h2, this, decide_eq_true hw]
    simp
  · rw [nearFrom_not 0 0 l w hw, decide_eq_false hw]
    simp

def isWord (x : List UInt8) : Bool := decide (1 ≤ x.length ∧ x.length ≤ 255)

/-- A row with one more, at its place, if it is not there. -/
def insertW (l : List (List UInt8)) (w : List UInt8) : List (List UInt8) := if (near l w).2 = true then l else l.take (near l w).1 ++ w :: l.drop (near l w).1

theorem insertW_rising {l : List (List UInt8)} (h : rising l = true) (w : List UInt8) : rising (insertW l w) = true := by
  unfold insertW
  rw [near_rising h]
  by_cases hw : w ∈ l
  · simp only [hw, decide_true, if_true]; exact h
  · simp only [hw, decide_false, Bool.false_eq_true, if_false]; exact rising_insert h hw

theorem mem_insertW {l : List (List UInt8)} (h : rising l = true) (w x : List UInt8) : x ∈ insertW l w ↔ x = w ∨ x ∈ l := by
  unfold insertW
  rw [near_rising h]
  by_cases hw : w ∈ l
  · simp only [hw, decide_true, if_true]
    constructor
    · exact fun hx => .inr hx
    · rintro (rfl | hx)
      · exact hw
      · exact hx
  · simp only [hw, decide_false, Bool.false_eq_true, if_false]
    exact mem_insert _

/-- The words of some rows, rising, each once. -/
def sorted (l : List (List UInt8)) : List (List UInt8) := l.foldl (fun acc w => if isWord w = true then insertW acc w else acc) []

theorem sorted_aux : ∀ (l acc : List (List UInt8)), rising acc = true → (∀ x ∈ acc, isWord x = true) →
    rising (l.foldl (fun acc w => if isWord w = true then insertW acc w else acc) acc) = true ∧ ∀ x, x ∈ l.foldl (fun acc w => if isWord w = true then insertW acc w else acc) acc ↔ x ∈ acc ∨ (x ∈ l ∧ isWord x = true)
  | [], acc, h, hw => ⟨h, fun x => by simp⟩
  | y :: l, acc, h, hw => by
    rw [List.foldl_cons]
    by_cases hy : isWord y = true
    · rw [if_pos hy]
      obtain ⟨h1, h2⟩ := sorted_aux l (insertW acc y) (insertW_rising h y) (fun x hx => by
        rcases (mem_insertW h y x).1 hx with rfl | hx'
        · exact hy
        · exact hw x hx')
      refine ⟨h1, fun x => ?_⟩
      rw [h2 x, mem_insertW h y x, List.mem_cons]
      constructor
      · rintro ((rfl | h') | ⟨h', h''⟩)
        · exact .inr ⟨.inl rfl, hy⟩
        · exact .inl h'
        · exact .inr ⟨.inr h', h''⟩
      · rintro (h' | ⟨(rfl | h'), h''⟩)
        · exact .inl (.inr h')
        · exact .inl (.inl rfl)
        · exact .inr ⟨h', h''⟩
    · rw [if_neg hy]
      obtain ⟨h1, h2⟩ := sorted_aux l acc h hw
      refine ⟨h1, fun x => ?_⟩
      rw [h2 x, List.mem_cons]
      constructor
      · rintro (h' | ⟨h', h''⟩)
        · exact .inl h'
        · exact .inr ⟨.inr h', h''⟩
      · rintro (h' | ⟨(rfl | h'), h''⟩)
        · exact .inl h'
        · exact absurd h'' hy
        · exact .inr ⟨h', h''⟩

theorem sorted_rising (l : List (List UInt8)) : rising (sorted l) = true := (sorted_aux l [] rfl (by simp)).1
theorem mem_sorted (l : List (List UInt8)) (x : List UInt8) : x ∈ sorted l ↔ x ∈ l ∧ isWord x = true := by
  have := (sorted_aux l [] rfl (by simp)).2 x
  unfold sorted
  simpa using this

/-- Rows put in at their places, words or not: rising, each once. -/
def placed (l : List (List UInt8)) : List (List UInt8) := l.foldl insertW []

theorem placed_aux : ∀ (l acc : List (List UInt8)), rising acc = true → rising (l.foldl insertW acc) = true ∧ ∀ x, x ∈ l.foldl insertW acc ↔ x ∈ acc ∨ x ∈ l
  | [], acc, h => ⟨h, fun x => by simp⟩
  | y :: l, acc, h => by
    obtain ⟨h1, h2⟩ := placed_aux l (insertW acc y) (insertW_rising h y)
    refine ⟨h1, fun x => ?_⟩
    rw [List.foldl_cons, h2 x, mem_insertW h y x, List.mem_cons]
    constructor
    · rintro ((h' | h') | h')
      · exact .inr (.inl h')
      · exact .inl h'
      · exact .inr (.inr h')
    · rintro (h' | (h' | h'))
      · exact .inl (.inr h')
      · exact .inl (.inl h')
      · exact .inr h'

theorem placed_rising (l : List (List UInt8)) : rising (placed l) = true := (placed_aux l [] rfl).1
theorem mem_placed (l : List (List UInt8)) (x : List UInt8) : x ∈ placed l ↔ x ∈ l := by
  have := (placed_aux l [] rfl).2 x
  unfold placed
  simpa using this

/-- In whatever order they come. -/
theorem placed_eq {l m : List (List UInt8)} (h : ∀ x, x ∈ l ↔ x ∈ m) : placed l = placed m :=
  rising_ext (placed_rising l) (placed_rising m) fun x => by rw [mem_placed, mem_placed, h]
end Go.Proofs.YtjiilmiikejnhaaDoor.Plain
namespace Go.Proofs.YtjiilmiikejnhaaDoor.Plain

theorem together : ∀ {d : Nat} {x y z : List UInt8} {b : UInt8}, less x y = true → less y z = true → x.take d = y.take d → y.take d = z.take d → d ≤ y.length → x[d]? = some b → z[d]? = some b → y[d]? = some b
  | 0, x, y, z, b, h1, h2, _, _, _, hx, hz => by
    cases x with
    | nil => simp at hx
    | cons a x =>
      cases z with
      | nil => simp at hz
      | cons c z =>
        simp only [List.getElem?_cons_zero, Option.some.injEq] at hx hz
        subst hx hz
        cases y with
        | nil => simp [less] at h1
        | cons e y =>
          simp only [List.getElem?_cons_zero, Option.some.injEq]
          unfold less at h1 h2
          by_cases h : c = e
          · exact h.symm
          · rw [if_neg h] at h1
            rw [if_neg (fun e' => h e'.symm)] at h2
            simp only [decide_eq_true_eq] at h1 h2
            omega
  | d + 1, x, y, z, b, h1, h2, t1, t2, hy, hx, hz => by
    cases x with
    | nil => simp at hx
    | cons a x =>
      cases z with
      | nil => simp at hz
      | cons c z =>
        cases y with
        | nil => simp at hy
        | cons e y =>
          simp only [List.take_succ_cons, List.cons.injEq] at t1 t2
          obtain ⟨rfl, t1⟩ := t1
          obtain ⟨rfl, t2⟩ := t2
          unfold less at h1 h2
          rw [if_pos rfl] at h1 h2
          simp only [List.getElem?_cons_succ] at hx hz ⊢
          exact together h1 h2 t1 t2 (by simpa using hy) hx hz

/-- The bytes behind the depth of the words whose next byte is one of these. -/
def behind (d : Nat) (B : List UInt8) : List (List UInt8) → Nat
  | [] => 0
  | x :: l => (if ∃ b ∈ B, x[d]? = some b then x.length - d else 0) + behind d B l
theorem behind_le (d : Nat) (B : List UInt8) : ∀ l : List (List UInt8), behind d B l ≤ (l.map fun x => x.length - d).sum
  | [] => Nat.le_refl _
  | x :: l => by
    unfold behind
    rw [List.map_cons, List.sum_cons]
    have := behind_le d B l
    split <;> omega
/-- A byte more: its own words come to it. -/
theorem behind_more {d : Nat} {B : List UInt8} {b : UInt8} (hb : b ∉ B) : ∀ l : List (List UInt8), behind d (B ++ [b]) l = behind d B l + behind d [b] l
  | [] => rfl
  | x :: l => by
    have ih := behind_more (d := d) hb l
    unfold behind
    rw [ih]
    by_cases h1 : ∃ c ∈ B, x[d]? = some c
    · have h2 : ¬ ∃ c ∈ [b], x[d]? = some c := fun ⟨c, hc, e⟩ => by
        obtain ⟨c', hc', e'⟩ := h1
        rw [List.mem_singleton.1 hc, e', Option.some.injEq] at e
        exact hb (e ▸ hc')
      rw [if_pos h1, if_neg h2, if_pos (by obtain ⟨c, hc, e⟩ := h1; exact ⟨c, List.mem_append_left _ hc, e⟩)]
      omega
    · by_cases h2 : ∃ c ∈ [b], x[d]? = some c
      · rw [if_neg h1, if_pos h2, if_pos (by obtain ⟨c, hc, e⟩ := h2; exact ⟨c, List.mem_append_right _ hc, e⟩)]
        omega
      · rw [if_neg h1, if_neg h2, if_neg (fun ⟨c, hc, e⟩ => by
          rcases List.mem_append.1 hc with h | h
          · exact h1 ⟨c, h, e⟩
          · exact h2 ⟨c, h, e⟩)]
        omega
end Go.Proofs.YtjiilmiikejnhaaDoor.Plain

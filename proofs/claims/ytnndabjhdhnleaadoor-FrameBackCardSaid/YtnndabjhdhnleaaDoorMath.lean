/-
  Plain mathematics of the 32-bit sum: one bit, four bits, a byte, rows of bytes; linear, one to one; bursts. Nothing of the program stands here.
-/
namespace Go.Proofs.YtnndabjhdhnleaaDoor.Plain

theorem xor_lt {a b : Nat} (ha : a < 4294967296) (hb : b < 4294967296) : a ^^^ b < 4294967296 := Nat.xor_lt_two_pow (n := 32) ha hb
theorem xor_div2 (a b : Nat) : (a ^^^ b) / 2 = a / 2 ^^^ b / 2 := Nat.xor_div_two
theorem xor_mod2 (a b : Nat) : (a ^^^ b) % 2 = (a % 2 + b % 2) % 2 := by
  have := @Nat.xor_mod_two_pow a b 1
  simp at this
  rw [this]
  rcases Nat.mod_two_eq_zero_or_one a with h | h <;> rcases Nat.mod_two_eq_zero_or_one b with k | k <;> simp [h, k]
theorem xor_swap (a b c : Nat) : a ^^^ (b ^^^ c) = b ^^^ (a ^^^ c) := by rw [← Nat.xor_assoc, Nat.xor_comm a b, Nat.xor_assoc]
theorem xor_mid (a b c d : Nat) : (a ^^^ b) ^^^ (c ^^^ d) = (a ^^^ c) ^^^ (b ^^^ d) := by
  rw [Nat.xor_assoc, Nat.xor_assoc, xor_swap b c d]
theorem xor_back (a b : Nat) : a ^^^ (a ^^^ b) = b := by rw [← Nat.xor_assoc, Nat.xor_self, Nat.zero_xor]
theorem xor_zero_iff {a b : Nat} (h : a ^^^ b = 0) : a = b := by
  have := xor_back a b
  rw [h, Nat.xor_zero] at this
  exact this

/-- One bit that is 0. -/
def one (n : Nat) : Nat := if n % 2 = 1 then n / 2 ^^^ 3988292384 else n / 2

theorem one_even {n : Nat} (h : n % 2 = 0) : one n = n / 2 := by unfold one; rw [if_neg (by omega)]
theorem one_odd {n : Nat} (h : n % 2 = 1) : one n = n / 2 ^^^ 3988292384 := by unfold one; rw [if_pos h]
theorem one_lt {n : Nat} (h : n < 4294967296) : one n < 4294967296 := by
  rcases Nat.mod_two_eq_zero_or_one n with e | e
  · rw [one_even e]; omega
  · rw [one_odd e]; exact xor_lt (by omega) (by omega)
theorem one_xor (a b : Nat) : one (a ^^^ b) = one a ^^^ one b := by
  have hm := xor_mod2 a b
  rcases Nat.mod_two_eq_zero_or_one a with h | h <;> rcases Nat.mod_two_eq_zero_or_one b with k | k
  · rw [one_even h, one_even k, one_even (by omega), xor_div2]
  · rw [one_even h, one_odd k, one_odd (by omega), xor_div2, Nat.xor_assoc]
  · rw [one_odd h, one_even k, one_odd (by omega), xor_div2, Nat.xor_assoc, Nat.xor_assoc, Nat.xor_comm (b / 2)]
  · rw [one_odd h, one_odd k, one_even (by omega), xor_div2, xor_mid, Nat.xor_self, Nat.xor_zero]
theorem one_zero : one 0 = 0 := rfl
theorem one_eq_zero {n : Nat} (h : n < 4294967296) (e : one n = 0) : n = 0 := by
  rcases Nat.mod_two_eq_zero_or_one n with k | k
  · rw [one_even k] at e; omega
  · rw [one_odd k] at e
    have := xor_zero_iff e
    omega

/-- As many bits 0. -/
def many : Nat → Nat → Nat
  | 0, n => n
  | k + 1, n => many k (one n)

theorem many_lt : ∀ (k : Nat) {n : Nat}, n < 4294967296 → many k n < 4294967296
  | 0, _, h => h
  | k + 1, _, h => many_lt k (one_lt h)
theorem many_xor : ∀ (k a b : Nat), many k (a ^^^ b) = many k a ^^^ many k b
  | 0, _, _ => rfl
  | k + 1, a, b => by simp only [many, one_xor, many_xor k]
theorem many_zero : ∀ k : Nat, many k 0 = 0
  | 0 => rfl
  | k + 1 => by simp only [many, one_zero, many_zero k]
theorem many_eq_zero : ∀ (k : Nat) {n : Nat}, n < 4294967296 → many k n = 0 → n = 0
  | 0, _, _, e => e
  | k + 1, _, h, e => one_eq_zero h (many_eq_zero k (one_lt h) e)
theorem many_inj (k : Nat) {a b : Nat} (ha : a < 4294967296) (hb : b < 4294967296) (e : many k a = many k b) : a = b := by
  apply xor_zero_iff
  apply many_eq_zero k (xor_lt ha hb)
  rw [many_xor, e, Nat.xor_self]
theorem many_add : ∀ (j k n : Nat), many (j + k) n = many k (many j n)
  | 0, k, n => by rw [Nat.zero_add]; rfl
  | j + 1, k, n => by rw [Nat.succ_add]; exact many_add j k (one n)

theorem split2 (c : Nat) : c = c % 2 ^^^ 2 * (c / 2) := by
  apply Nat.eq_of_testBit_eq
  intro i
  rw [Nat.testBit_xor]
  cases i with
  | zero =>
    have h : (2 * (c / 2)) % 2 = 0 := by omega
    simp [Nat.testBit_zero, h]
  | succ i =>
    have h : c % 2 / 2 = 0 := by omega
    have h2 : 2 * (c / 2) / 2 = c / 2 := by omega
    simp [Nat.testBit_succ, h, h2]

/-- The number, a few bits of c further. -/
def feed : Nat → Nat → Nat → Nat
  | 0, n, _ => n
  | k + 1, n, c => feed k (one (n ^^^ c % 2)) (c / 2)

theorem feed_many : ∀ (k n c : Nat), c < 2 ^ k → feed k n c = many k (n ^^^ c)
  | 0, n, c, h => by
    have : c = 0 := by omega
    subst this
    simp [feed, many]
  | k + 1, n, c, h => by
    have hc : c / 2 < 2 ^ k := by rw [Nat.pow_succ] at h; omega
    rw [feed, feed_many k _ _ hc]
    show _ = many k (one (n ^^^ c))
    congr 1
    have e : one (2 * (c / 2)) = c / 2 := by rw [one_even (by omega)]; omega
    conv => rhs; rw [split2 c]
    rw [← Nat.xor_assoc, one_xor (n ^^^ c % 2), e]

/-- The reference's step, with its own test. -/
def refBit (n b : Nat) : Nat := if n % 2 = b then n / 2 else n / 2 ^^^ 3988292384
theorem refBit_one (n b : Nat) (hb : b ≤ 1) : refBit n b = one (n ^^^ b) := by
  unfold refBit one
  have hm := xor_mod2 n b
  have hd : (n ^^^ b) / 2 = n / 2 := by rw [xor_div2, show b / 2 = 0 by omega, Nat.xor_zero]
  rw [hd]
  by_cases h : n % 2 = b
  · rw [if_pos h, if_neg (by omega)]
  · rw [if_neg h, if_pos (by omega)]

/-- A byte. -/
def byte (n c : Nat) : Nat := many 8 (n ^^^ c)
theorem byte_lt {n c : Nat} (hn : n < 4294967296) (hc : c < 256) : byte n c < 4294967296 := many_lt 8 (xor_lt hn (by omega))

/-- The table of four bits. -/
def table : List Nat := [0, 498536548, 997073096, 651767980, 1994146192, 1802195444, 1303535960, 1342533948, 3988292384, 4027552580, 3604390888, 3412177804, 2607071920, 2262029012, 2685067896, 3183342108]
theorem table_lt (i : Nat) (h : i < 16) : table.getD i 0 < 4294967296 := by
  have : ∀ j : Fin 16, table.getD j.1 0 < 4294967296 := by decide
  exact this ⟨i, h⟩
theorem table_many (i : Nat) (h : i < 16) : many 4 i = table.getD i 0 := by
  have : ∀ j : Fin 16, many 4 j.1 = table.getD j.1 0 := by decide
  exact this ⟨i, h⟩
theorem split16 (m : Nat) : m = 16 * (m / 16) ^^^ m % 16 := by
  have h := Nat.two_pow_add_eq_or_of_lt (i := 4) (b := m % 16) (by omega) (m / 16)
  have h2 : 2 ^ 4 * (m / 16) + m % 16 = m := by omega
  apply Nat.eq_of_testBit_eq
  intro i
  rw [Nat.testBit_xor]
  by_cases hi : i < 4
  · have e : (16 * (m / 16)).testBit i = false := by
      have := Nat.testBit_two_pow_mul (i := 4) (a := m / 16) (j := i)
      rw [show 16 * (m / 16) = 2 ^ 4 * (m / 16) by omega, this]
      simp; omega
    have e2 : (m % 16).testBit i = m.testBit i := by
      rw [show (16 : Nat) = 2 ^ 4 by decide, Nat.testBit_mod_two_pow]
      simp [hi]
    rw [e, e2]; simp
  · have e2 : (m % 16).testBit i = false := by
      rw [show (16 : Nat) = 2 ^ 4 by decide, Nat.testBit_mod_two_pow]
      simp [hi]
    have e : (16 * (m / 16)).testBit i = m.testBit i := by
      rw [show 16 * (m / 16) = 2 ^ 4 * (m / 16) by omega, Nat.testBit_two_pow_mul]
      have : m / 16 = m / 2 ^ 4 := by simp
      rw [this, Nat.testBit_div_two_pow]
      have h4 : i - 4 + 4 = i := by omega
      simp [h4]; omega
    rw [e, e2]; simp
theorem many4_mul (q : Nat) : many 4 (16 * q) = q := by
  have h1 : one (16 * q) = 8 * q := by rw [one_even (by omega)]; omega
  have h2 : one (8 * q) = 4 * q := by rw [one_even (by omega)]; omega
  have h3 : one (4 * q) = 2 * q := by rw [one_even (by omega)]; omega
  have h4 : one (2 * q) = q := by rw [one_even (by omega)]; omega
  simp only [many, h1, h2, h3, h4]
theorem many4 (m : Nat) : many 4 m = m / 16 ^^^ table.getD (m % 16) 0 := by
  conv => lhs; rw [split16 m]
  rw [many_xor, many4_mul, table_many _ (by omega)]
theorem xor_div16 (a b : Nat) : (a ^^^ b) / 16 = a / 16 ^^^ b / 16 := Nat.xor_div_two_pow (n := 4)
/-- The program's byte, by its table. -/
theorem byte_table (n c : Nat) : byte n c = (n ^^^ c) / 256 ^^^ table.getD ((n ^^^ c) % 16) 0 / 16 ^^^ table.getD (((n ^^^ c) / 16 ^^^ table.getD ((n ^^^ c) % 16) 0) % 16) 0 := by
  unfold byte
  rw [show (8 : Nat) = 4 + 4 by rfl, many_add, many4 (n ^^^ c), many4, xor_div16, Nat.div_div_eq_div_mul]

/-- A row of bytes. -/
def run (n : Nat) (l : List UInt8) : Nat := l.foldl (fun n c => byte n c.toNat) n
theorem run_nil (n : Nat) : run n [] = n := rfl
theorem run_cons (n : Nat) (c : UInt8) (l : List UInt8) : run n (c :: l) = run (byte n c.toNat) l := rfl
theorem run_append (n : Nat) (a b : List UInt8) : run n (a ++ b) = run (run n a) b := List.foldl_append
theorem run_snoc (n : Nat) (a : List UInt8) (c : UInt8) : run n (a ++ [c]) = byte (run n a) c.toNat := by rw [run_append]; rfl
theorem run_lt : ∀ (l : List UInt8) {n : Nat}, n < 4294967296 → run n l < 4294967296
  | [], _, h => h
  | c :: l, _, h => run_lt l (byte_lt h c.toNat_lt)

/-- All bits the other way. -/
def turned (n : Nat) : Nat := 4294967295 ^^^ n
theorem turned_eq (n : Nat) : turned n = 4294967295 ^^^ n := rfl
theorem ones_lt : 4294967295 < 4294967296 := by omega
theorem turned_lt {n : Nat} (h : n < 4294967296) : turned n < 4294967296 := by
  rw [turned_eq]
  exact Nat.xor_lt_two_pow (n := 32) ones_lt h
theorem turned_turned (n : Nat) : turned (turned n) = n := by
  rw [turned_eq (turned n), turned_eq n, xor_back]
theorem turned_comm (n : Nat) : n ^^^ 4294967295 = turned n := by rw [turned_eq, Nat.xor_comm]
theorem turned_sub {n : Nat} (h : n < 4294967296) : 4294967295 - n = turned n := by
  apply Nat.eq_of_testBit_eq
  intro i
  rw [turned_eq, Nat.testBit_xor]
  have e : 4294967295 - n = 2 ^ 32 - (n + 1) := by omega
  rw [e, Nat.testBit_two_pow_sub_succ (by simpa using h)]
  rw [show (4294967295 : Nat) = 2 ^ 32 - 1 by decide, Nat.testBit_two_pow_sub_one]
  by_cases hi : i < 32
  · simp [hi]
  · have : n.testBit i = false := Nat.testBit_lt_two_pow (Nat.lt_of_lt_of_le h (Nat.pow_le_pow_right (n := 2) (by omega) (show 32 ≤ i by omega)))
    simp [hi, this]

/-- What More answers; the sum. -/
def more (sum : Nat) (l : List UInt8) : Nat := turned (run (turned sum) l)
def sum (l : List UInt8) : Nat := more 0 l
theorem more_lt {s : Nat} (h : s < 4294967296) (l : List UInt8) : more s l < 4294967296 := turned_lt (run_lt l (turned_lt h))
theorem sum_lt (l : List UInt8) : sum l < 4294967296 := more_lt (by omega) l
theorem more_sum (a b : List UInt8) : more (sum a) b = sum (a ++ b) := by
  unfold sum more
  rw [turned_turned, run_append]

/-- A number's bytes, the lowest first. -/
def four (n : Nat) : List UInt8 := [UInt8.ofNat (n % 256), UInt8.ofNat (n / 256 % 256), UInt8.ofNat (n / 65536 % 256), UInt8.ofNat (n / 16777216 % 256)]
theorem four_length (n : Nat) : (four n).length = 4 := rfl

end Go.Proofs.YtnndabjhdhnleaaDoor.Plain

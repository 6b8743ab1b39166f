/-
  Names of files as plain mathematics: digits, names by their kinds, what a text is as a name, rows of numbers.
-/
import Derived.Lib.ItoaMem
import Derived.Lib.AtoiAll
import Derived.Lib.Strings
namespace Go.Proofs.YtioilknfjccfeaaDoor.Plain
open Go

def man : ByteArray := ⟨#[109, 97, 110, 105, 102, 101, 115, 116]⟩
def tmp : ByteArray := ⟨#[109, 97, 110, 105, 102, 101, 115, 116, 46, 116, 109, 112]⟩
def wal : ByteArray := ⟨#[119, 97, 108, 45]⟩
def seg : ByteArray := ⟨#[115, 101, 103, 45]⟩
def nil : ByteArray := ⟨#[]⟩

/-- What stands ahead of the number, or the whole name, by kinds. -/
def headT : Nat → ByteArray
  | 1 => man
  | 2 => tmp
  | 3 => wal
  | 4 => seg
  | _ => nil

def decs (n : Nat) : ByteArray := ⟨(Lib.decDigits n).toArray⟩

def fitN (n : Int) : Bool := decide (1 ≤ n) && decide (n ≤ 1000000000)

def makeT (k n : Int) : ByteArray :=
  if k = 1 then man else if k = 2 then tmp else if k = 3 then (if fitN n then wal ++ decs n.toNat else nil)
  else if k = 4 then (if fitN n then seg ++ decs n.toNat else nil) else nil

def num1 (n : Nat) (b : UInt8) : Nat := 10 * n + (b.toNat - 48)
def numT (l : List UInt8) : Nat := l.foldl num1 0

/-- The number behind four bytes. -/
def tailN (s : ByteArray) : Nat := numT (s.data.toList.drop 4)

/-- Is s the name of kind j, and of which number? -/
def hitT (s : ByteArray) (j : Nat) : Option Nat :=
  if j = 1 then (if s = man then some 0 else none) else if j = 2 then (if s = tmp then some 0 else none)
  else if j = 3 then (if fitN (tailN s) && decide (s = wal ++ decs (tailN s)) then some (tailN s) else none)
  else if j = 4 then (if fitN (tailN s) && decide (s = seg ++ decs (tailN s)) then some (tailN s) else none) else none

def parseT (s : ByteArray) : Nat × Nat :=
  match hitT s 1 with
  | some m => (1, m)
  | none => match hitT s 2 with
    | some m => (2, m)
    | none => match hitT s 3 with
      | some m => (3, m)
      | none => match hitT s 4 with
        | some m => (4, m)
        | none => (0, 0)

theorem ext_list {a b : ByteArray} (h : a.data.toList = b.data.toList) : a = b := ByteArray.ext (Array.toList_inj.1 h)

theorem app_data (a b : ByteArray) : (a ++ b).data.toList = a.data.toList ++ b.data.toList := by simp

theorem decs_data (n : Nat) : (decs n).data.toList = Lib.decDigits n := by simp [decs]

theorem dec_byte : ∀ (n : Nat), n < 10 → (UInt8.ofNat (48 + n)).toNat = 48 + n := by
  intro n h
  have : ∀ i : Fin 10, (UInt8.ofNat (48 + i.1)).toNat = 48 + i.1 := by decide
  exact this ⟨n, h⟩

theorem numT_dec (n : Nat) : numT (Lib.decDigits n) = n := by
  induction n using Nat.strongRecOn with
  | _ n ih =>
    rw [Lib.decDigits]
    split
    · next h => simp only [numT, List.foldl, num1]; rw [dec_byte n h]; omega
    · next h =>
      have e := ih (n / 10) (by omega)
      unfold numT at e ⊢
      rw [List.foldl_append, e]
      simp only [List.foldl, num1]
      rw [dec_byte (n % 10) (by omega)]
      omega

theorem dec_all (n : Nat) : ∀ b ∈ Lib.decDigits n, 48 ≤ b.toNat ∧ b.toNat ≤ 57 := by
  induction n using Nat.strongRecOn with
  | _ n ih =>
    rw [Lib.decDigits]
    split
    · next h => intro b hb; simp only [List.mem_singleton] at hb; subst hb; rw [dec_byte n h]; omega
    · next h =>
      intro b hb
      rcases List.mem_append.1 hb with hb | hb
      · exact ih (n / 10) (by omega) b hb
      · simp only [List.mem_singleton] at hb; subst hb; rw [dec_byte (n % 10) (by omega)]; omega

theorem dec_ne (n : Nat) : Lib.decDigits n ≠ [] := by
  rw [Lib.decDigits]
  split <;> simp

theorem dec_length : ∀ (k n : Nat), n < 10 ^ (k + 1) → (Lib.decDigits n).length ≤ k + 1
  | 0, n, h => by rw [Lib.decDigits, dif_pos (by simpa using h)]; simp
  | k + 1, n, h => by
    rw [Lib.decDigits]
    split
    · simp
    · have := dec_length k (n / 10) (by rw [Nat.pow_succ] at h; omega)
      simp
      exact this

theorem dec_longer {n m : Nat} (h : n ≤ m) : (Lib.decDigits n).length ≤ (Lib.decDigits m).length := by
  induction m using Nat.strongRecOn generalizing n with
  | _ m ih =>
    by_cases hn : n < 10
    · rw [show (Lib.decDigits n).length = 1 by rw [Lib.decDigits, dif_pos hn]; rfl]
      exact Nat.pos_of_ne_zero fun e => dec_ne m (List.length_eq_zero_iff.1 e)
    · have e1 : Lib.decDigits n = Lib.decDigits (n / 10) ++ [UInt8.ofNat (48 + n % 10)] := by rw [Lib.decDigits, dif_neg hn]
      have e2 : Lib.decDigits m = Lib.decDigits (m / 10) ++ [UInt8.ofNat (48 + m % 10)] := by rw [Lib.decDigits, dif_neg (by omega)]
      have := ih (m / 10) (by omega) (n := n / 10) (by omega)
      rw [e1, e2]
      simp
      exact this

theorem head_data (j : Nat) (h : j = 3 ∨ j = 4) : (headT j).data.toList.length = 4 := by
  rcases h with rfl | rfl <;> rfl

theorem make_head {j : Nat} (h : j = 3 ∨ j = 4) (n : Int) : makeT (j : Int) n = if fitN n then headT j ++ decs n.toNat else nil := by
  rcases h with rfl | rfl <;> rfl

theorem hit_head {j : Nat} (h : j = 3 ∨ j = 4) (s : ByteArray) : hitT s j = if fitN (tailN s) && decide (s = headT j ++ decs (tailN s)) then some (tailN s) else none := by
  rcases h with rfl | rfl <;> rfl

theorem tailN_head {j : Nat} (h : j = 3 ∨ j = 4) (t : ByteArray) : tailN (headT j ++ t) = numT t.data.toList := by
  unfold tailN
  rw [app_data, ← head_data j h, List.drop_left]

theorem hit_made {j n : Nat} (h : j = 3 ∨ j = 4) (hn : fitN n = true) : hitT (headT j ++ decs n) j = some n := by
  rw [hit_head h, tailN_head h, decs_data, numT_dec]
  simp [hn]

theorem fitN_iff (n : Int) : fitN n = true ↔ 1 ≤ n ∧ n ≤ 1000000000 := by simp [fitN]

theorem hit_some {j m : Nat} {s : ByteArray} (h : hitT s j = some m) : makeT j m = s ∧ (j = 1 ∨ j = 2 ∨ j = 3 ∨ j = 4) ∧ ((j = 1 ∨ j = 2) → m = 0) ∧ ((j = 3 ∨ j = 4) → 1 ≤ m ∧ m ≤ 1000000000) := by
  unfold hitT at h
  split at h
  · next e => subst e; split at h <;> simp_all [makeT]
  · split at h
    · next e => subst e; split at h <;> simp_all [makeT]
    · split at h
      · next e =>
        subst e
        split at h
        · next hc =>
          rw [Bool.and_eq_true, decide_eq_true_eq] at hc
          cases h
          have := (fitN_iff _).1 hc.1
          refine ⟨?_, by simp, by simp, fun _ => by omega⟩
          show (if fitN (tailN s : Int) then wal ++ decs (Int.toNat (tailN s : Int)) else nil) = s
          rw [hc.1, if_pos rfl, Int.toNat_natCast, ← hc.2]
        · cases h
      · split at h
        · next e =>
          subst e
          split at h
          · next hc =>
            rw [Bool.and_eq_true, decide_eq_true_eq] at hc
            cases h
            have := (fitN_iff _).1 hc.1
            refine ⟨?_, by simp, by simp, fun _ => by omega⟩
            show (if fitN (tailN s : Int) then seg ++ decs (Int.toNat (tailN s : Int)) else nil) = s
            rw [hc.1, if_pos rfl, Int.toNat_natCast, ← hc.2]
          · cases h
        · cases h

/-- What a number is read as behind the beginning of a name. -/
def readN (l : List UInt8) : Int :=
  match Lib.atoiAll l with
  | .ok v => v
  | Lib.NumEnd.syntax => 0
  | .range => Lib.atoiSat l

theorem parse10 : ∀ (l : List UInt8) (acc : Nat), (∀ b ∈ l, 48 ≤ b.toNat ∧ b.toNat ≤ 57) → l.foldl num1 acc < 1844674407370955162 → Lib.parseUint10 acc l = .ok (l.foldl num1 acc)
  | [], acc, _, _ => rfl
  | c :: r, acc, hl, hb => by
    have hc := hl c (by simp)
    have up : ∀ (r : List UInt8) (a : Nat), a ≤ r.foldl num1 a := by
      intro r
      induction r with
      | nil => intro a; exact Nat.le_refl a
      | cons x r ih => intro a; exact Nat.le_trans (by unfold num1; omega) (ih (num1 a x))
    have h1 : 10 * acc ≤ (c :: r).foldl num1 acc := Nat.le_trans (by unfold num1; omega) (up r (num1 acc c))
    have h2 : num1 acc c ≤ (c :: r).foldl num1 acc := up r (num1 acc c)
    unfold num1 at h2
    simp only [Lib.parseUint10]
    rw [if_pos hc, if_neg (by omega), if_neg (by omega), show acc * 10 + (c.toNat - 48) = num1 acc c by unfold num1; omega]
    exact parse10 r (num1 acc c) (fun b hb => hl b (by simp [hb])) hb

theorem read_dec {n : Nat} (h : n ≤ 1000000000) : readN (Lib.decDigits n) = n := by
  have hp : Lib.parseMag (Lib.decDigits n) = .ok n := by
    unfold Lib.parseMag
    rw [if_neg (dec_ne n)]
    have := parse10 (Lib.decDigits n) 0 (dec_all n) (by rw [show (Lib.decDigits n).foldl num1 0 = n from numT_dec n]; omega)
    rw [this]
    exact congrArg _ (numT_dec n)
  have ha : Lib.atoiAll (Lib.decDigits n) = .ok n := by
    cases hd : Lib.decDigits n with
    | nil => exact absurd hd (dec_ne n)
    | cons c r =>
      have hc := dec_all n c (by rw [hd]; simp)
      rw [hd] at hp
      unfold Lib.atoiAll
      simp only
      rw [if_neg (by omega), hp]
      simp only
      rw [if_neg (by omega), if_neg (by omega), if_neg (by omega)]
  unfold readN
  rw [ha]

theorem made_ne {j n : Nat} (h : j = 3 ∨ j = 4) : headT j ++ decs n ≠ nil := by
  intro e
  have := congrArg (fun x : ByteArray => x.data.toList.length) e
  simp only [app_data, List.length_append, head_data j h] at this
  simp [nil] at this

/-- What Parse's round does at a kind with numbers. -/
theorem hit_read {j : Nat} (h : j = 3 ∨ j = 4) (s t : ByteArray) (hs : s = headT j ++ t) :
    (makeT j (readN t.data.toList) = s → ∃ n : Nat, hitT s j = some n ∧ readN t.data.toList = n) ∧ (makeT j (readN t.data.toList) ≠ s → hitT s j = none) := by
  constructor
  · intro e
    rw [make_head h] at e
    split at e
    · next hf =>
      have hb := (fitN_iff _).1 hf
      refine ⟨(readN t.data.toList).toNat, ?_, by omega⟩
      rw [← e]
      exact hit_made h (by rw [show (((readN t.data.toList).toNat : Nat) : Int) = readN t.data.toList by omega]; exact hf)
    · rw [hs] at e
      have := congrArg (fun x : ByteArray => x.data.toList.length) e
      simp only [app_data, List.length_append, head_data j h] at this
      simp [nil] at this
      omega
  · intro e
    rw [hit_head h]
    split
    · next hc =>
      exfalso
      rw [Bool.and_eq_true, decide_eq_true_eq] at hc
      have hb := (fitN_iff _).1 hc.1
      have ht : t.data.toList = Lib.decDigits (tailN s) := by
        have e1 := hc.2
        rw [hs] at e1
        have e2 := congrArg (fun x : ByteArray => x.data.toList) e1
        simp only [app_data, decs_data] at e2
        have := List.append_cancel_left e2
        rw [this, ← hs]
      apply e
      rw [ht, read_dec (by omega), make_head h, hc.1, if_pos rfl, Int.toNat_natCast]
      exact hc.2.symm
    · rfl

theorem hit_none_head {j : Nat} (h : j = 3 ∨ j = 4) (s : ByteArray) (hs : ∀ t, s ≠ headT j ++ t) : hitT s j = none := by
  rw [hit_head h, if_neg]
  intro hc
  rw [Bool.and_eq_true, decide_eq_true_eq] at hc
  exact hs _ hc.2

theorem parse_hit {s : ByteArray} {j m : Nat} (hb : ∀ i, 1 ≤ i → i < j → hitT s i = none) (h : hitT s j = some m) : parseT s = (j, m) := by
  rcases (hit_some h).2.1 with rfl | rfl | rfl | rfl
  · unfold parseT; rw [h]
  · unfold parseT; rw [hb 1 (by omega) (by omega), h]
  · unfold parseT; rw [hb 1 (by omega) (by omega), hb 2 (by omega) (by omega), h]
  · unfold parseT; rw [hb 1 (by omega) (by omega), hb 2 (by omega) (by omega), hb 3 (by omega) (by omega), h]

theorem parse_none {s : ByteArray} (hb : ∀ i, 1 ≤ i → i < 5 → hitT s i = none) : parseT s = (0, 0) := by
  unfold parseT
  rw [hb 1 (by omega) (by omega), hb 2 (by omega) (by omega), hb 3 (by omega) (by omega), hb 4 (by omega) (by omega)]

theorem parse_cases (s : ByteArray) : (parseT s = (0, 0) ∧ ∀ i, 1 ≤ i → i < 5 → hitT s i = none) ∨ ∃ j m, parseT s = (j, m) ∧ hitT s j = some m := by
  unfold parseT
  cases h1 : hitT s 1 with
  | some m => exact .inr ⟨1, m, rfl, h1⟩
  | none =>
    cases h2 : hitT s 2 with
    | some m => exact .inr ⟨2, m, rfl, h2⟩
    | none =>
      cases h3 : hitT s 3 with
      | some m => exact .inr ⟨3, m, rfl, h3⟩
      | none =>
        cases h4 : hitT s 4 with
        | some m => exact .inr ⟨4, m, rfl, h4⟩
        | none =>
          refine .inl ⟨rfl, fun i h0 h5 => ?_⟩
          rcases (show i = 1 ∨ i = 2 ∨ i = 3 ∨ i = 4 by omega) with rfl | rfl | rfl | rfl <;> assumption

theorem hit_nil (i : Nat) : hitT nil i = none := by
  by_cases h3 : i = 3 ∨ i = 4
  · exact hit_none_head h3 _ fun t e => by
      have := congrArg (fun x : ByteArray => x.data.toList.length) e
      simp only [app_data, List.length_append, head_data i h3] at this
      simp [nil] at this
      omega
  · unfold hitT
    split
    · rw [if_neg (by decide)]
    · split
      · rw [if_neg (by decide)]
      · rw [if_neg (by omega), if_neg (by omega)]

theorem parse_nil : parseT nil = (0, 0) := parse_none fun i _ _ => hit_nil i

/-- Names of one kind are none of another. -/
theorem hit_alone {s : ByteArray} {i j a b : Nat} (h : hitT s i = some a) (k : hitT s j = some b) : i = j := by
  obtain ⟨h1, h2, -, h4⟩ := hit_some h
  obtain ⟨k1, k2, -, k4⟩ := hit_some k
  have key : ∀ {i a : Nat}, (i = 1 ∨ i = 2 ∨ i = 3 ∨ i = 4) → ((i = 3 ∨ i = 4) → 1 ≤ a ∧ a ≤ 1000000000) → ∃ r, (makeT i a).data.toList = (headT i).data.toList ++ r ∧ ((i = 1 ∨ i = 2) → r = []) := by
    intro i a hi hb
    rcases hi with rfl | rfl | hi
    · exact ⟨[], by simp [makeT, headT], fun _ => rfl⟩
    · exact ⟨[], by simp [makeT, headT], fun _ => rfl⟩
    · refine ⟨(decs a).data.toList, ?_, fun h => by omega⟩
      rw [make_head hi, (fitN_iff _).2 (by have := hb hi; omega), if_pos rfl, app_data, Int.toNat_natCast]
  obtain ⟨r, hr, hr0⟩ := key h2 h4
  obtain ⟨q, hq, hq0⟩ := key k2 k4
  rw [h1] at hr
  rw [k1, hr] at hq
  clear hr h1 k1 h k
  rcases h2 with rfl | rfl | rfl | rfl <;> rcases k2 with rfl | rfl | rfl | rfl <;> simp_all [headT, man, tmp, wal, seg]

theorem parse_of_hit {s : ByteArray} {j m : Nat} (h : hitT s j = some m) : parseT s = (j, m) :=
  parse_hit (fun i h0 h1 => by
    cases e : hitT s i with
    | none => rfl
    | some a => have := hit_alone e h; omega) h

theorem parse_made {j n : Nat} (h : j = 3 ∨ j = 4) (hn : 1 ≤ n) (hn' : n ≤ 1000000000) : parseT (makeT j n) = (j, n) := by
  have hf : fitN n = true := (fitN_iff _).2 ⟨by omega, by omega⟩
  rw [make_head h, hf, if_pos rfl, Int.toNat_natCast]
  exact parse_of_hit (hit_made h hf)

theorem parse_zero {s : ByteArray} (h : (parseT s).1 = 0) : (parseT s).2 = 0 := by
  rcases parse_cases s with ⟨e, -⟩ | ⟨j, m, e, hh⟩
  · rw [e]
  · rw [e] at h ⊢
    have := (hit_some hh).2.1
    simp only at h
    omega

theorem made_of_parse {s : ByteArray} (h : (parseT s).1 ≠ 0) : makeT (parseT s).1 (parseT s).2 = s := by
  rcases parse_cases s with ⟨e, -⟩ | ⟨j, m, e, hh⟩
  · rw [e] at h; exact absurd rfl h
  · rw [e]; exact (hit_some hh).1

theorem parse_bounds (s : ByteArray) : (parseT s).1 ≤ 4 ∧ (parseT s).2 ≤ 1000000000 ∧ (((parseT s).1 = 3 ∨ (parseT s).1 = 4) → 1 ≤ (parseT s).2) ∧ (¬ ((parseT s).1 = 3 ∨ (parseT s).1 = 4) → (parseT s).2 = 0) := by
  rcases parse_cases s with ⟨e, -⟩ | ⟨j, m, e, hh⟩
  · rw [e]; simp
  · rw [e]
    obtain ⟨-, h2, h3, h4⟩ := hit_some hh
    refine ⟨by simp only; omega, ?_, fun h => (h4 h).1, fun h => h3 (by simp only at h; omega)⟩
    simp only
    by_cases h : j = 3 ∨ j = 4
    · exact (h4 h).2
    · have := h3 (by omega); omega

theorem make_inj {j n m : Nat} (h : j = 3 ∨ j = 4) (hn : 1 ≤ n ∧ n ≤ 1000000000) (hm : 1 ≤ m ∧ m ≤ 1000000000) (e : makeT j n = makeT j m) : n = m := by
  have h1 := parse_made h hn.1 hn.2
  rw [e, parse_made h hm.1 hm.2] at h1
  exact (congrArg Prod.snd h1).symm

theorem make_size {j n : Nat} (h : j = 3 ∨ j = 4) (hn : 1 ≤ n ∧ n ≤ 1000000000) : (makeT j n).size = 4 + (Lib.decDigits n).length := by
  rw [make_head h, (fitN_iff _).2 (by omega), if_pos rfl, Int.toNat_natCast, Lib.size_eq, app_data, List.length_append, head_data j h, decs_data]

theorem make_size_le {j n : Nat} (h : j = 3 ∨ j = 4) (hn : 1 ≤ n ∧ n ≤ 1000000000) : (makeT j n).size ≤ 14 := by
  have := dec_length 9 n (by omega)
  rw [make_size h hn]
  omega

theorem make_size_any (k n : Int) : (makeT k n).size ≤ 14 := by
  unfold makeT
  split
  · decide
  · split
    · decide
    · split
      · split
        · next hf =>
          have hb := (fitN_iff _).1 hf
          have := dec_length 9 n.toNat (by omega)
          rw [Lib.size_eq, app_data, List.length_append, decs_data, show wal.data.toList.length = 4 from rfl]
          omega
        · decide
      · split
        · split
          · next hf =>
            have hb := (fitN_iff _).1 hf
            have := dec_length 9 n.toNat (by omega)
            rw [Lib.size_eq, app_data, List.length_append, decs_data, show seg.data.toList.length = 4 from rfl]
            omega
          · decide
        · decide

/-- What the document's Parse reads: the digits' number. -/
theorem hit_digits {j : Nat} (h : j = 3 ∨ j = 4) {s : ByteArray} {m : Nat} (hh : hitT s j = some m) : 5 ≤ s.size ∧ s.size ≤ 14 ∧ ∀ b ∈ s.data.toList.drop 4, 48 ≤ b.toNat ∧ b.toNat ≤ 57 := by
  obtain ⟨h1, -, -, h4⟩ := hit_some hh
  have hb := h4 h
  have hs := make_size h hb
  have hl : 1 ≤ (Lib.decDigits m).length := Nat.pos_of_ne_zero fun e => dec_ne m (List.length_eq_zero_iff.1 e)
  have hx := make_size_le h hb
  rw [h1] at hs hx
  refine ⟨by omega, hx, ?_⟩
  rw [← h1, make_head h, (fitN_iff _).2 (by omega), if_pos rfl, Int.toNat_natCast, app_data, ← head_data j h, List.drop_left, decs_data]
  exact dec_all m

theorem make_tail {j : Nat} (h : j = 3 ∨ j = 4) (s : ByteArray) (hs : s ≠ nil) : (makeT j (tailN s) = s → hitT s j = some (tailN s)) ∧ (makeT j (tailN s) ≠ s → hitT s j = none) := by
  rw [make_head h, hit_head h, Int.toNat_natCast]
  constructor
  · intro e
    split at e
    · next hf => rw [hf, if_pos (by rw [Bool.true_and, decide_eq_true_eq]; exact e.symm)]
    · exact absurd e.symm hs
  · intro e
    rw [if_neg]
    intro hc
    rw [Bool.and_eq_true, decide_eq_true_eq] at hc
    rw [hc.1, if_pos rfl] at e
    exact e hc.2.symm
end Go.Proofs.YtioilknfjccfeaaDoor.Plain

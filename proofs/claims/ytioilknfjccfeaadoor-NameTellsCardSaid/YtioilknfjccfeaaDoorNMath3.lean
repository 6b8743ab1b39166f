/-
  Names of literals, by reckoning.
-/
import Derived.Test.YtioilknfjccfeaaDoorNMath2
namespace Go.Proofs.YtioilknfjccfeaaDoor.Plain
open Go

/-- Digits, with a bound on how many. -/
def digs : Nat → Nat → List UInt8
  | 0, _ => []
  | f + 1, n => if n < 10 then [UInt8.ofNat (48 + n)] else digs f (n / 10) ++ [UInt8.ofNat (48 + n % 10)]

theorem digs_eq : ∀ (f n : Nat), n < 10 ^ (f + 1) → digs (f + 1) n = Lib.decDigits n
  | 0, n, h => by
    have : n < 10 := by simpa using h
    unfold digs
    rw [if_pos this, Lib.decDigits, dif_pos this]
  | f + 1, n, h => by
    unfold digs
    rw [Lib.decDigits]
    split
    · rfl
    · rw [digs_eq f (n / 10) (by rw [Nat.pow_succ] at h; omega)]

def decC (n : Nat) : ByteArray := ⟨(digs 10 n).toArray⟩
theorem decC_eq {n : Nat} (h : n ≤ 1000000000) : decC n = decs n := by
  unfold decC decs
  rw [digs_eq 9 n (by omega)]

def makeC (k n : Int) : ByteArray :=
  if k = 1 then man else if k = 2 then tmp else if k = 3 then (if fitN n then wal ++ decC n.toNat else nil)
  else if k = 4 then (if fitN n then seg ++ decC n.toNat else nil) else nil
theorem makeC_eq (k n : Int) : makeT k n = makeC k n := by
  unfold makeT makeC
  by_cases hf : fitN n = true
  · have hb := (fitN_iff n).1 hf
    rw [decC_eq (by omega)]
  · rw [if_neg hf, if_neg hf, if_neg hf, if_neg hf]

def hitC (s : ByteArray) (j : Nat) : Option Nat :=
  if j = 1 then (if s = man then some 0 else none) else if j = 2 then (if s = tmp then some 0 else none)
  else if j = 3 then (if fitN (tailN s) && decide (s = wal ++ decC (tailN s)) then some (tailN s) else none)
  else if j = 4 then (if fitN (tailN s) && decide (s = seg ++ decC (tailN s)) then some (tailN s) else none) else none
theorem hitC_eq (s : ByteArray) (j : Nat) : hitT s j = hitC s j := by
  unfold hitT hitC
  cases hf : fitN (tailN s : Int) with
  | true =>
    have hb := (fitN_iff _).1 hf
    rw [decC_eq (by omega)]
  | false => rfl

def parseC (s : ByteArray) : Nat × Nat :=
  match hitC s 1 with
  | some m => (1, m)
  | none => match hitC s 2 with
    | some m => (2, m)
    | none => match hitC s 3 with
      | some m => (3, m)
      | none => match hitC s 4 with
        | some m => (4, m)
        | none => (0, 0)
theorem parseC_eq (s : ByteArray) : parseT s = parseC s := by
  unfold parseT parseC
  rw [hitC_eq, hitC_eq, hitC_eq, hitC_eq]
  rfl

def numsC (k : Int) (L : List ByteArray) : List Nat := if k = 3 ∨ k = 4 then insAll ((L.filter fun s => decide (((parseC s).1 : Int) = k)).map fun s => (parseC s).2) else []
theorem numsC_eq (k : Int) (L : List ByteArray) : numsT k L = numsC k L := by
  unfold numsT numsC ofKind
  simp only [parseC_eq]

example : makeT 3 17 = ⟨#[119, 97, 108, 45, 49, 55]⟩ := by rw [makeC_eq]; kernel_rfl
example : parseT ⟨#[115, 101, 103, 45, 49, 48, 48, 48, 48, 48, 48, 48, 48, 48]⟩ = (4, 1000000000) := by rw [parseC_eq]; kernel_rfl
example : parseT ⟨#[115, 101, 103, 45, 49, 48, 48, 48, 48, 48, 48, 48, 48, 49]⟩ = (0, 0) := by rw [parseC_eq]; kernel_rfl
example : numsT 3 [⟨#[119, 97, 108, 45, 51]⟩, ⟨#[115, 101, 103, 45, 49]⟩, ⟨#[119, 97, 108, 45, 50]⟩, ⟨#[119, 97, 108, 45, 51]⟩] = [2, 3] := by rw [numsC_eq]; kernel_rfl
end Go.Proofs.YtioilknfjccfeaaDoor.Plain

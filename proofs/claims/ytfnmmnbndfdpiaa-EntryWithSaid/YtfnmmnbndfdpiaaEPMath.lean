/-
  What is laid of an entry, what is read of bytes, what is told of values: by definition.
-/
import Derived.Test.YtfnmmnbndfdpiaaECheck
import Derived.Test.YtfnmmnbndfdpiaaVMath
import Derived.Test.YtfnmmnbndfdpiaaVGet
namespace Go.Proofs.Ytfnmmnbndfdpiaa
open Go.RowKit Go.Sort

/-- The string of these bytes. -/
def strO (l : List UInt8) : ByteArray := ⟨l.toArray⟩
theorem strO_key (l : List UInt8) : (strO l).data.toList = l := rfl
theorem strO_of (a : ByteArray) : strO a.data.toList = a := by unfold strO; cases a; simp

/-- No entry. -/
def noE : Ent := ⟨⟨#[]⟩, 0, false⟩

/-- An entry's bytes. -/
def putT (e : Ent) : List UInt8 × Nat := if wordT e.word = false then ([], 7) else if e.gone = true then (2 :: key e, 0) else (1 :: (Plain.enc e.weight ++ key e), 0)
/-- An entry's value. -/
def valueT (e : Ent) : Nat := if e.gone = true then 0 else e.weight + 1
/-- The entry of that value. -/
def ofT (x : ByteArray) (n : Nat) : Ent × Bool := if n = 0 then (⟨x, 0, true⟩, true) else if n ≤ 4294967296 then (⟨x, n - 1, false⟩, true) else (noE, false)
/-- The entry of a text that was read. -/
def chkT (x : List UInt8) (n : Nat) (g : Bool) : Ent × Nat := if wordT (strO x) = true then (⟨strO x, n, g⟩, 0) else (noE, 7)
/-- What stands in bytes. -/
def getT (s : List UInt8) : Ent × Nat :=
  match s with
  | [] => (noE, 3)
  | b :: r => if b = 1 then (if (Plain.get s 1).2.2 ≠ 0 then (noE, (Plain.get s 1).2.2) else if 4294967295 < (Plain.get s 1).1 then (noE, 17) else chkT (s.drop (Plain.get s 1).2.1.toNat) (Plain.get s 1).1 false)
    else if b = 2 then chkT r 0 true else (noE, 6)

/-- The answers, as the program's values. -/
def gotE (r : Ent × Nat) : Value := .tuple #[.agg (enc r.1).toArray, .int .i64 (r.2 : Int)]
def putE' (r : List UInt8 × Nat) : Value := .tuple #[.string (strO r.1), .int .i64 (r.2 : Int)]
def ofE (r : Ent × Bool) : Value := .tuple #[.agg (enc r.1).toArray, .bool r.2]
end Go.Proofs.Ytfnmmnbndfdpiaa

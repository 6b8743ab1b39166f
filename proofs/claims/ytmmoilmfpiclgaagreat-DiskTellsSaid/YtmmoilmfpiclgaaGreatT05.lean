/-
  A file in plain words: durable bytes, and acts behind them.
-/
set_option linter.unusedVariables false
set_option linter.unusedSimpArgs false
namespace Go.Proofs.YtmmoilmfpiclgaaGreat

/-- What is done: bytes that are appended, or a cut. -/
inductive Do
  | app (b : List UInt8)
  | cut (n : Nat)
deriving Inhabited

/-- What is read behind it. -/
def Do.on : Do → List UInt8 → List UInt8
  | .app b, R => R ++ b
  | .cut n, R => R.take n

/-- What is read behind some, one behind the other. -/
def reads (R : List UInt8) (l : List Do) : List UInt8 := l.foldl (fun R a => a.on R) R

theorem reads_nil (R : List UInt8) : reads R [] = R := rfl
theorem reads_cons (R : List UInt8) (a : Do) (l : List Do) : reads R (a :: l) = reads (a.on R) l := rfl
theorem reads_append (R : List UInt8) (l m : List Do) : reads R (l ++ m) = reads (reads R l) m := by unfold reads; rw [List.foldl_append]
theorem reads_snoc (R : List UInt8) (l : List Do) (a : Do) : reads R (l ++ [a]) = a.on (reads R l) := by rw [reads_append]; rfl

/-- Each of them is one that a file has: bytes that are some, a cut to fewer. -/
def Fits : List UInt8 → List Do → Prop
  | _, [] => True
  | R, .app b :: l => b ≠ [] ∧ Fits (R ++ b) l
  | R, .cut n :: l => n < R.length ∧ Fits (R.take n) l

theorem fits_append : ∀ (R : List UInt8) (l m : List Do), Fits R (l ++ m) ↔ Fits R l ∧ Fits (reads R l) m
  | R, [], m => by simp [Fits, reads]
  | R, .app b :: l, m => by
    rw [List.cons_append, reads_cons]
    show (b ≠ [] ∧ Fits (R ++ b) (l ++ m)) ↔ (b ≠ [] ∧ Fits (R ++ b) l) ∧ Fits (reads (R ++ b) l) m
    rw [fits_append (R ++ b) l m, and_assoc]
  | R, .cut n :: l, m => by
    rw [List.cons_append, reads_cons]
    show (n < R.length ∧ Fits (R.take n) (l ++ m)) ↔ (n < R.length ∧ Fits (R.take n) l) ∧ Fits (reads (R.take n) l) m
    rw [fits_append (R.take n) l m, and_assoc]

theorem fits_take {R : List UInt8} {l : List Do} (h : Fits R l) (k : Nat) : Fits R (l.take k) := by
  rw [← List.take_append_drop k l, fits_append] at h
  exact h.1
theorem fits_at {R : List UInt8} {l : List Do} (h : Fits R l) (k : Nat) (hk : k < l.length) : Fits (reads R (l.take k)) [l[k]] := by
  rw [← List.take_append_drop k l, fits_append] at h
  have h2 := h.2
  rw [List.drop_eq_getElem_cons hk, show l[k] :: l.drop (k + 1) = [l[k]] ++ l.drop (k + 1) from rfl, fits_append] at h2
  exact h2.1

/-- How many bytes there are in all. -/
def bulk (R : List UInt8) (l : List Do) : Nat := R.length + (l.map fun a => match a with | .app b => b.length | .cut _ => 0).sum

theorem bulk_nil (R : List UInt8) : bulk R [] = R.length := rfl
theorem bulk_app (R : List UInt8) (l : List Do) (b : List UInt8) : bulk R (l ++ [.app b]) = bulk R l + b.length := by unfold bulk; simp; omega
theorem bulk_cut (R : List UInt8) (l : List Do) (n : Nat) : bulk R (l ++ [.cut n]) = bulk R l := by unfold bulk; simp

theorem reads_length (R : List UInt8) (l : List Do) : (reads R l).length ≤ bulk R l := by
  unfold bulk
  induction l generalizing R with
  | nil => simp [reads]
  | cons a l ih =>
    rw [reads_cons, List.map_cons, List.sum_cons]
    have h := ih (a.on R)
    cases a with
    | app b =>
      have : ((Do.app b).on R).length = R.length + b.length := List.length_append
      simp only at h ⊢
      omega
    | cut n =>
      have : ((Do.cut n).on R).length ≤ R.length := by
        show (R.take n).length ≤ _
        rw [List.length_take]; omega
      simp only at h ⊢
      omega

theorem bulk_take (R : List UInt8) (l : List Do) (k : Nat) : bulk R (l.take k) ≤ bulk R l := by
  conv => rhs; rw [← List.take_append_drop k l]
  unfold bulk
  rw [List.map_append, List.sum_append]
  omega

/-- A number, held against what there is. -/
def upTo (n : Int) (k : Nat) : Nat := (min (max n 0) k).toNat

/-- What stays of a choice. -/
def stays (R : List UInt8) (l : List Do) (done part : Int) : List UInt8 :=
  reads R (l.take (upTo done l.length)) ++ (match (l.drop (upTo done l.length)).head? with
  | some (.app b) => b.take (upTo part b.length)
  | _ => [])
end Go.Proofs.YtmmoilmfpiclgaaGreat

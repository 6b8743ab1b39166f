/-
  Two texts written out, and handed to word.Shared, as two steps of a region.
-/
import Derived.Test.YtmciflpabnfeiaaSlices
import Derived.Test.YtmciflpabnfeiaaWOMath
namespace Go.Proofs.Ytmciflpabnfeiaa
open Go.RowKit

theorem run_pair (b : Act) (o : Oper) (x y : Operand) (hop : o.op = .buildSlice 22 2 #[(0, x), (1, y)]) (A B : ByteArray) (hx : b.eval x = .string A) (hy : b.eval y = .string B) (w : World) :
    (execOp b.eval o).run Try.prog w = .ok (.value (.slice (some ⟨w.heap.size, 0, none⟩) 2 2)) (w.alloc (.cells #[.string A, .string B] 9)) := by
  obtain ⟨dst, op, type, pos, after, guard⟩ := o
  simp only at hop
  subst hop
  generalize b.eval = ρ at hx hy ⊢
  simp [go_sem, hx, hy]

theorem run_call14 (b : Act) (o : Oper) (d : Tmp) (hop : o.op = .call { callee := .value (.func 14), args := #[.tmp d], argTypes := #[22] }) (X : Value) (hx : b.eval (.tmp d) = X) (w : World) :
    (execOp b.eval o).run Try.prog w = .ok (.enter 14 #[X]) w := by
  obtain ⟨dst, op, type, pos, after, guard⟩ := o
  simp only at hop
  subst hop
  have hf : b.eval (.func 14) = .func (.func 14) #[] #[] := rfl
  generalize b.eval = ρ at hx hf ⊢
  simp [go_sem, hx, hf]

/-- The row that holds these two. -/
def PairAt (A B : ByteArray) (X : Value) (w : World) : Prop := Strs w X [A, B]

theorem pair_stable (A B : ByteArray) : ∀ X w1 w2, Below w1.heap.size w1 w2 → PairAt A B X w1 → PairAt A B X w2 := fun _ _ _ hb h => Strs.below h hb

theorem pair_made (A B : ByteArray) (w : World) : ∃ X w2, (X = .slice (some ⟨w.heap.size, 0, none⟩) 2 2 ∧ w2 = w.alloc (.cells #[.string A, .string B] 9)) ∧ Below w.heap.size w w2 ∧ PairAt A B X w2 :=
  ⟨_, _, ⟨rfl, rfl⟩, below_alloc' (Below.refl _ _), strs_lit [A, B] w⟩

theorem pair_call (A B : ByteArray) (S : Nat) (hS : sharedT A B = S) (hA : A.size ≤ 9223372036854775807) (hB : B.size ≤ 9223372036854775807) (X : Value) (w : World) (h : PairAt A B X w) :
    Calls Try.prog 14 #[X] w fun e w2 => e = .returned (.int .i64 (S : Int)) ∧ Below w.heap.size w w2 := by
  refine (shared_any [A, B] X w h ?_ (by simp)).mono ?_
  · intro s hs
    simp at hs
    rcases hs with rfl | rfl
    · exact hA
    · exact hB
  · rintro e w' ⟨rfl, hb⟩
    exact ⟨by rw [allShared_pair, hS], hb⟩
end Go.Proofs.Ytmciflpabnfeiaa

/-
  NameNumbers: facts on rows of names and their numbers; append of texts in a plain region.
-/
import Derived.Test.YtioilknfjccfeaaDoorNAppend
namespace Go.Proofs.YtioilknfjccfeaaDoor
open Go.RowKit

namespace Plain
theorem nums_same {k : Int} {A B : List ByteArray} (h1 : ∀ s ∈ A, s ∈ B) (h2 : ∀ s ∈ B, s ∈ A) : numsT k A = numsT k B := by
  by_cases hk : k = 3 ∨ k = 4
  · apply rises_eq (numsT_rises _ _) (numsT_rises _ _)
    intro x
    rw [numsT_mem hk, numsT_mem hk]
    constructor
    · rintro ⟨s, hs, h⟩; exact ⟨s, h1 s hs, h⟩
    · rintro ⟨s, hs, h⟩; exact ⟨s, h2 s hs, h⟩
  · unfold numsT; rw [if_neg hk, if_neg hk]
theorem nums_join {k : Int} (hk : k = 3 ∨ k = 4) (A B : List ByteArray) : numsT k (B ++ A) = insAll (numsT k A ++ numsT k B) := by
  apply rises_eq (numsT_rises _ _) (insAll_rises _)
  intro x
  rw [insAll_mem, List.mem_append, numsT_mem hk, numsT_mem hk, numsT_mem hk]
  constructor
  · rintro ⟨s, hs, h⟩
    rcases List.mem_append.1 hs with hs | hs
    · exact .inr ⟨s, hs, h⟩
    · exact .inl ⟨s, hs, h⟩
  · rintro (⟨s, hs, h⟩ | ⟨s, hs, h⟩)
    · exact ⟨s, List.mem_append.2 (.inr hs), h⟩
    · exact ⟨s, List.mem_append.2 (.inl hs), h⟩
end Plain

section
variable (w : World) {ops : Array Oper} {rest : List Oper} {o : Oper} {a : Act} {Q : Exit → Act → World → Prop}
theorem wpList_append_strs (hg : o.guard = none) (s x : Operand) (hop : o.op = Op.call { callee := Callee.builtin Builtin.append, args := #[s, x], argTypes := #[23, 23] }) (ht : o.type = 23)
    (base : Nat) (v sl : Value) (A B : List ByteArray) (hs : a.eval s = v) (hx : a.eval x = sl) (hown : w.ownsRow base 9 1 v A.length (strs A)) (hsrc : Strs w sl B) (hlen : A.length + B.length ≤ 1000000) (hb : base ≤ w.heap.size)
    (hK : ∀ v' w', w'.ownsRow base 9 1 v' (A ++ B).length (strs (A ++ B)) → w.grownBy w' v.ownBlock → wpList Tryd.prog ops Q rest (a.put o.dst v') w') : wpList Tryd.prog ops Q (o :: rest) a w := by
  refine wpList_plain hg fun K' hK' => ?_
  obtain ⟨v', w1, h1, h2, h3⟩ := run_append_strs w base v sl A B hown hsrc hlen hb
  unfold Oper.wp execOp
  simp only [hop, ht, resolve, invoke, builtin, Sem.run_bind, Sem.run_pure, Result.andThen_ok, List.map_toArray, List.map_cons, List.map_nil, hs, hx, h1]
  exact hK' _ _ (hK v' w1 h2 h3)
end
end Go.Proofs.YtioilknfjccfeaaDoor

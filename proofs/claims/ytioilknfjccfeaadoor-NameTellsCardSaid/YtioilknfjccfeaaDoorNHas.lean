/-
  NameNumbers: the map of numbers that were seen.
-/
import Derived.Test.YtioilknfjccfeaaDoorNBackM
import Derived.Maps.OwnOps
import Derived.Maps.OwnSet
import Derived.Laws.Cover1
import Derived.Sort.Walk0
namespace Go.Proofs.YtioilknfjccfeaaDoor
open Go.RowKit Go.Shelf

namespace Plain
theorem insN_of_mem {n : Nat} {l : List Nat} (h : l.Pairwise (· < ·)) (hn : n ∈ l) : insN n l = l :=
  rises_eq (insN_rises h) h fun x => by rw [insN_mem]; constructor
                                        · rintro (rfl | h)
                                          · exact hn
                                          · exact h
                                        · exact .inr
theorem insN_length_new {n : Nat} {l : List Nat} (hn : n ∉ l) : (insN n l).length = l.length + 1 := by
  have : ∀ l : List Nat, n ∉ l → (l.filter (· < n)).length + (l.filter (n < ·)).length = l.length := by
    intro l
    induction l with
    | nil => simp
    | cons x l ih =>
      intro h
      simp only [List.mem_cons, not_or] at h
      have := ih h.2
      simp only [List.filter_cons, List.length_cons]
      rcases Nat.lt_trichotomy x n with e | e | e
      · have e2 : ¬ n < x := by omega
        simp [e, e2]; omega
      · omega
      · have e2 : ¬ x < n := by omega
        simp [e, e2]; omega
  have := this l hn
  unfold insN
  simp only [List.length_append, List.length_cons]
  omega
end Plain

theorem keyI : Maps.Keyed Tryd.prog 3 := Maps.int_keyed Tryd.underlying3
theorem zero3 (w : World) : (zeroValue 3).run Tryd.prog w = .ok (.int .i64 0) w := by kernel_rfl

/-- Block m is a map in which just these numbers stand, each with 1. -/
def HasMap (w : World) (m : Nat) (A : List Nat) : Prop :=
  ∃ D : DataW Unit, w.ownsMap Tryd.prog 3 (plainElem Tryd.prog 3) m A.length D ∧ Maps.size D = (Plain.insAll A).length ∧
    (∀ x : Nat, Maps.has D (.int .i64 (x : Int)) = decide (x ∈ A)) ∧ ∀ x ∈ A, D.atKey (.int .i64 (x : Int)) (.lit (.int .i64 0)) = .lit (.int .i64 1)

theorem has_made (w : World) : HasMap (w.alloc (.map #[] 0)) w.heap.size [] := ⟨_, World.ownsMap_made _ _ _ _, rfl, fun _ => rfl, fun x h => by simp at h⟩
theorem HasMap.same {w w' : World} {m : Nat} {A : List Nat} (h : HasMap w m A) (he : w'.heap[m]? = w.heap[m]?) : HasMap w' m A := by
  obtain ⟨D, ⟨es, clock, hb, F, hs, hD⟩, h2⟩ := h
  exact ⟨D, ⟨es, clock, he.trans hb, F, hs, hD⟩, h2⟩
theorem HasMap.lt {w : World} {m : Nat} {A : List Nat} (h : HasMap w m A) : m < w.heap.size := by
  obtain ⟨D, h1, _⟩ := h
  exact h1.lt
theorem HasMap.below {w w' : World} {m : Nat} {A : List Nat} (h : HasMap w m A) (hb : Below w.heap.size w w') : HasMap w' m A := h.same (hb.block m h.lt)
theorem HasMap.look {w : World} {m : Nat} {A : List Nat} (h : HasMap w m A) (x : Nat) (hx : x ≤ 1000000000) (hn : x ∈ A) :
    (Instr.lookup 43 (.map (some m)) (.int .i64 (x : Int)) false).run Tryd.prog w = .ok (.int .i64 1) w := by
  obtain ⟨D, h1, -, -, h2⟩ := h
  obtain ⟨c, hrun, hat, _⟩ := h1.lookup_int keyI Tryd.underlying43 Tryd.underlying3 (zero3 w) (Maps.keyOf_int_mk Tryd.underlying3 (a := (x : Int)) (WalkArith.wf_i64 (by omega)))
  rw [h2 x hn] at hat
  cases hat
  exact hrun
theorem HasMap.len {w : World} {m : Nat} {A : List Nat} (h : HasMap w m A) (ty : TypeId) : (Builtin.len_ #[43] ty #[.map (some m)]).run Tryd.prog w = .ok (.int .i64 ((Plain.insAll A).length : Nat)) w := by
  obtain ⟨D, h1, h2, -, -⟩ := h
  rw [← h2]
  exact h1.len Tryd.underlying43 ty
theorem HasMap.put {w : World} {m : Nat} {A : List Nat} (h : HasMap w m A) (hA : A.length ≤ 1000000) (x : Nat) (hx : x ≤ 1000000000) :
    ∃ w', (Instr.mapUpdate 43 (.map (some m)) (.int .i64 (x : Int)) (.int .i64 1)).run Tryd.prog w = .ok () w' ∧ HasMap w' m (A ++ [x]) ∧ w.grownBy w' (some m) := by
  obtain ⟨D, h1, h2, h3, h4⟩ := h
  obtain ⟨w', k1, k2, k3⟩ := h1.update keyI Tryd.underlying43 (by unfold maxLen; omega) (Maps.keyOf_int_mk Tryd.underlying3 (a := (x : Int)) (WalkArith.wf_i64 (by omega))) (plainElem_int Tryd.underlying3 (a := (1 : Int)) (by decide))
  have hkl : WideAt.IsKeyLit (Lit.int .i64 (x : Int)) := trivial
  refine ⟨w', k1, ⟨_, by simpa using k2, ?_, ?_, ?_⟩, k3⟩
  · rw [Maps.size_put (h1.tidy keyI), h3, Plain.insAll_snoc, h2]
    by_cases hm : x ∈ A
    · rw [if_pos (by simpa using hm), Plain.insN_of_mem (Plain.insAll_rises A) (Plain.insAll_mem.2 hm)]
    · rw [if_neg (by simpa using hm), Plain.insN_length_new (fun e => hm (Plain.insAll_mem.1 e))]
  · intro y
    by_cases hy : y = x
    · subst hy
      rw [Maps.has_put_same h1.isMap hkl]
      simp
    · rw [Maps.has_put_other (by intro e; injection e with _ e; exact hy (by omega)), h3]
      simp [hy]
  · intro y hy
    by_cases hyx : y = x
    · subst hyx
      exact Maps.atKey_put_same h1.isMap hkl _ _
    · rw [Maps.atKey_put_other (by intro e; injection e with _ e; exact hyx (by omega))]
      refine h4 y ?_
      rcases List.mem_append.1 hy with h | h
      · exact h
      · exact absurd (List.mem_singleton.1 h) hyx

section
variable (w : World) {ops : Array Oper} {rest : List Oper} {o : Oper} {a : Act} {Q : Exit → Act → World → Prop}
theorem wpList_put_has (hg : o.guard = none) (mm x v : Operand) (hop : o.op = Op.mapUpdate 43 mm x v) (m : Nat) (A : List Nat) (n : Nat)
    (hm : a.eval mm = .map (some m)) (hx : a.eval x = .int .i64 (n : Int)) (hv : a.eval v = .int .i64 1) (h : HasMap w m A) (hA : A.length ≤ 1000000) (hn : n ≤ 1000000000)
    (hK : ∀ w', HasMap w' m (A ++ [n]) → w.grownBy w' (some m) → wpList Tryd.prog ops Q rest (a.put o.dst undef) w') : wpList Tryd.prog ops Q (o :: rest) a w := by
  refine wpList_plain hg fun K' hK' => ?_
  obtain ⟨w', hrun, r1, r2⟩ := h.put hA n hn
  unfold Oper.wp
  simp [execOp, hop, hm, hx, hv, hrun, Result.andThen]
  exact hK' _ _ (hK w' r1 r2)
end
end Go.Proofs.YtioilknfjccfeaaDoor

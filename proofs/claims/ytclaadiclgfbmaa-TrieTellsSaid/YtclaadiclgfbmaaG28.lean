/-
  append of texts to a row of texts of the function's own.
-/
import Derived.Test.YtclaadiclgfbmaaG27
import Derived.Deep.RegionHeldLaw
set_option linter.unusedVariables false
set_option linter.unusedSimpArgs false
namespace Go.Proofs.Ytclaadiclgfbmaa
open Go.RowKit Go.Shelf

theorem strs_length (l : List ByteArray) : (strs l).length = l.length := by simp [strs]
theorem strs_append (A B : List ByteArray) : strs (A ++ B) = strs A ++ strs B := by simp [strs]

theorem run_append_none (W : World) (base : Nat) (v : Value) (n c : Nat) (xs : List Value) (hown : W.ownsRow base 9 1 v n xs) :
    (Builtin.append_ #[37, 37] 37 #[v, .slice none 0 c]).run Try.prog W = .ok v W := by
  obtain ⟨i0, hi, _, _, _⟩ := info_parts i9
  rcases hown.2 with ⟨rfl, rfl⟩ | ⟨g, cap, cur, rfl, _, _, hnc, _⟩
  · simp [Builtin.append_, run_underlying Try.underlying37, sizeOf, typeInfo, hi, Builtin.lenOf, Builtin.firstCells]
  · simp [Builtin.append_, run_underlying Try.underlying37, sizeOf, typeInfo, hi, Builtin.lenOf, Builtin.firstCells, hnc, storeCells]

theorem run_append_strs (W : World) (base : Nat) (v sl : Value) (A B : List ByteArray) (hown : W.ownsRow base 9 1 v A.length (strs A)) (hB : Strs W sl B) (hlen : A.length + B.length ≤ 1000000) (hb : base ≤ W.heap.size) :
    ∃ v' W', (Builtin.append_ #[37, 37] 37 #[v, sl]).run Try.prog W = .ok v' W' ∧ W'.ownsRow base 9 1 v' (A ++ B).length (strs (A ++ B)) ∧ W.grownBy W' v.ownBlock := by
  obtain ⟨i0, hi, hz0, hz1, hz2⟩ := info_parts i9
  obtain ⟨ad, c, rfl, hx⟩ := hB
  cases ad with
  | none =>
    have h0 : B = [] := by
      cases B with
      | nil => rfl
      | cons y B =>
        obtain ⟨b, o, h, _⟩ := hx 0 (by simp)
        cases h
    subst h0
    exact ⟨v, W, run_append_none W base v A.length c (strs A) hown, by simpa using hown, ⟨rfl, rfl, rfl, Nat.le_refl _, fun _ _ _ => rfl⟩⟩
  | some a =>
    obtain ⟨v', W', h1, h2, h3, _⟩ := run_append_own (P := Try.prog) W base 37 37 9 i0 (.string ⟨#[]⟩) 1 16 Try.underlying37 hi hz0 hz1 hz2 rfl (by decide) v A.length (strs A) hown a B.length c (strs B) (by rw [strs_length, Nat.mul_one]) (by
        intro j u hj
        have hjl : j < B.length := by
          have := (List.getElem?_eq_some_iff.1 hj).1
          rw [strs_length] at this; exact this
        obtain ⟨b, o, ha, hcell⟩ := hx j hjl
        cases ha
        have hu : u = .string (B.getD j ⟨#[]⟩) := by
          simp [strs, hjl] at hj
          simp [List.getD, hjl, hj]
        rw [hu, ← hcell]
        unfold Addr.add
        split
        · rename_i h; simp_all
        · rfl) (by
        intro u hu
        simp [strs] at hu
        obtain ⟨y, _, rfl⟩ := hu
        rfl) (by unfold maxLen; omega) (by omega) hb
    exact ⟨v', W', h1, by rw [List.length_append, strs_append]; exact h2, h3⟩

theorem step_append_is {ops : Array Oper} {o : Oper} {a : Act} {w : World} {K : Act → World → Prop} {Q : Exit → Act → World → Prop} {E : Prop}
    (hg : o.guard = none) (s x : Operand) (hop : o.op = Op.call { callee := Callee.builtin Builtin.append, args := #[s, x], argTypes := #[37, 37] }) (ht : o.type = 37) (v sl v' : Value) (w1 : World)
    (hs : a.eval s = v) (hx : a.eval x = sl) (hrun : (Builtin.append_ #[37, 37] 37 #[v, sl]).run Try.prog w = .ok v' w1) (hK : K (a.put o.dst v') w1) :
    if Region.wanted o (yielded ops a.tmps) = true then Oper.wp Try.prog o a w K Q else E := by
  have hw : Region.wanted o (yielded ops a.tmps) = true := by simp [Region.wanted, hg]
  rw [if_pos hw]
  unfold Oper.wp execOp
  simp only [hop, ht, resolve, invoke, builtin, Sem.run_bind, Sem.run_pure, Result.andThen_ok, List.map_toArray, List.map_cons, List.map_nil, hs, hx, hrun]
  exact hK
theorem step_append_strs {ops : Array Oper} {o : Oper} {a : Act} {w0 w : World} {K : Act → World → Prop} {Q : Exit → Act → World → Prop} {E : Prop}
    (hg : o.guard = none) (s x : Operand) (hop : o.op = Op.call { callee := Callee.builtin Builtin.append, args := #[s, x], argTypes := #[37, 37] }) (ht : o.type = 37) (v sl : Value) (A B : List ByteArray)
    (hs : a.eval s = v) (hx : a.eval x = sl) (hbel : Below w0.heap.size w0 w) (hown : w.ownsRow w0.heap.size 9 1 v A.length (strs A)) (hsrc : Strs w sl B) (hlen : A.length + B.length ≤ 1000000)
    (hK : ∀ v' w1, w1.ownsRow w0.heap.size 9 1 v' (A ++ B).length (strs (A ++ B)) → w.grownBy w1 v.ownBlock → Below w0.heap.size w0 w1 → K (a.put o.dst v') w1) :
    if Region.wanted o (yielded ops a.tmps) = true then Oper.wp Try.prog o a w K Q else E := by
  obtain ⟨v', w1, h1, h2, h3⟩ := run_append_strs w w0.heap.size v sl A B hown hsrc hlen hbel.size
  exact step_append_is hg s x hop ht v sl v' w1 hs hx h1 (hK v' w1 h2 h3 (hbel.grown h3 hbel.size (fun k hk => (hown.lt k hk).1)))


/-- A row of two, just written out. -/
theorem strs_two {w : World} {x y : ByteArray} {g : Nat} (hg : g = w.heap.size) : Strs (w.alloc (.cells #[.string x, .string y] 9)) (.slice (some ⟨g, 0, none⟩) 2 2) [x, y] := by
  subst hg
  refine ⟨_, _, rfl, fun i hi => ?_⟩
  rcases (show i = 0 ∨ i = 1 by have : i < 2 := hi; omega) with rfl | rfl
  · exact ⟨_, _, rfl, by simp [go_sem]⟩
  · exact ⟨_, _, rfl, by simp [go_sem]⟩
theorem owns_two {w : World} {base : Nat} {x y : ByteArray} {g : Nat} (hb : base ≤ w.heap.size) (hg : g = w.heap.size) : (w.alloc (.cells #[.string x, .string y] 9)).ownsRow base 9 1 (.slice (some ⟨g, 0, none⟩) 2 2) ([x, y] : List ByteArray).length (strs [x, y]) := by
  subst hg
  exact ⟨rfl, .inr ⟨w.heap.size, 2, _, rfl, hb, heap_alloc_new w _, Nat.le_refl _, by unfold maxLen; omega, rfl, rfl⟩⟩
end Go.Proofs.Ytclaadiclgfbmaa

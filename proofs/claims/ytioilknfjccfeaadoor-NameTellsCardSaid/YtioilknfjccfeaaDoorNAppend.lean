/-
  append of texts, as one step of a region that draws its order: rows of texts of the function's own.
-/
import Derived.Test.YtioilknfjccfeaaDoorNMade
import Derived.Deep.RegionLaw
import Derived.Laws.OwnMore
namespace Go.Proofs.YtioilknfjccfeaaDoor
open Go.RowKit

theorem run_append_none (W : World) (base : Nat) (v : Value) (n c : Nat) (xs : List Value) (hown : W.ownsRow base 9 1 v n xs) :
    (Builtin.append_ #[23, 23] 23 #[v, .slice none 0 c]).run Tryd.prog W = .ok v W := by
  obtain ⟨i0, hi, _, _, _⟩ := info_parts i9
  rcases hown.2 with ⟨rfl, rfl⟩ | ⟨g, cap, cur, rfl, _, _, hnc, _⟩
  · simp [Builtin.append_, run_underlying Tryd.underlying23, sizeOf, typeInfo, hi, Builtin.lenOf, Builtin.firstCells]
  · simp [Builtin.append_, run_underlying Tryd.underlying23, sizeOf, typeInfo, hi, Builtin.lenOf, Builtin.firstCells, hnc, storeCells]

theorem run_append_strs (W : World) (base : Nat) (v sl : Value) (A B : List ByteArray) (hown : W.ownsRow base 9 1 v A.length (strs A)) (hB : Strs W sl B) (hlen : A.length + B.length ≤ 1000000) (hb : base ≤ W.heap.size) :
    ∃ v' W', (Builtin.append_ #[23, 23] 23 #[v, sl]).run Tryd.prog W = .ok v' W' ∧ W'.ownsRow base 9 1 v' (A ++ B).length (strs (A ++ B)) ∧ W.grownBy W' v.ownBlock := by
  obtain ⟨i0, hi, hz0, hz1, hz2⟩ := info_parts i9
  obtain ⟨ad, c, rfl, hx⟩ := hB
  cases ad with
  | none =>
    have h0 : B = [] := by
      cases B with
      | nil => rfl
      | cons y B =>
        obtain ⟨b, o, h, _⟩ := hx 0 (by simp)
        cases h
    subst h0
    exact ⟨v, W, run_append_none W base v A.length c (strs A) hown, by simpa using hown, ⟨rfl, rfl, rfl, Nat.le_refl _, fun _ _ _ => rfl⟩⟩
  | some a =>
    obtain ⟨v', W', h1, h2, h3, _⟩ := run_append_own (P := Tryd.prog) W base 23 23 9 i0 (.string ⟨#[]⟩) 1 16 Tryd.underlying23 hi hz0 hz1 hz2 rfl (by decide) v A.length (strs A) hown a B.length c (strs B) (by rw [strs_length, Nat.mul_one]) (by
        intro j u hj
        have hjl : j < B.length := by
          have := (List.getElem?_eq_some_iff.1 hj).1
          rw [strs_length] at this; exact this
        obtain ⟨b, o, ha, hcell⟩ := hx j hjl
        cases ha
        have hu : u = .string (B.getD j ⟨#[]⟩) := by
          simp [strs, hjl] at hj
          simp [List.getD, hjl, hj]
        rw [hu, ← hcell]
        unfold Addr.add
        split
        · rename_i h; simp_all
        · rfl) (by
        intro u hu
        simp [strs] at hu
        obtain ⟨y, _, rfl⟩ := hu
        rfl) (by unfold maxLen; omega) (by omega) hb
    exact ⟨v', W', h1, by rw [List.length_append, strs_append]; exact h2, h3⟩

theorem step_append_is {ops : Array Oper} {o : Oper} {a : Act} {w : World} {K : Act → World → Prop} {Q : Exit → Act → World → Prop} {E : Prop}
    (hg : o.guard = none) (s x : Operand) (hop : o.op = Op.call { callee := Callee.builtin Builtin.append, args := #[s, x], argTypes := #[23, 23] }) (ht : o.type = 23) (v sl v' : Value) (w1 : World)
    (hs : a.eval s = v) (hx : a.eval x = sl) (hrun : (Builtin.append_ #[23, 23] 23 #[v, sl]).run Tryd.prog w = .ok v' w1) (hK : K (a.put o.dst v') w1) :
    if Region.wanted o (yielded ops a.tmps) = true then Oper.wp Tryd.prog o a w K Q else E := by
  have hw : Region.wanted o (yielded ops a.tmps) = true := by simp [Region.wanted, hg]
  rw [if_pos hw]
  unfold Oper.wp execOp
  simp only [hop, ht, resolve, invoke, builtin, Sem.run_bind, Sem.run_pure, Result.andThen_ok, List.map_toArray, List.map_cons, List.map_nil, hs, hx, hrun]
  exact hK
theorem step_append_strs {ops : Array Oper} {o : Oper} {a : Act} {w0 w : World} {K : Act → World → Prop} {Q : Exit → Act → World → Prop} {E : Prop}
    (hg : o.guard = none) (s x : Operand) (hop : o.op = Op.call { callee := Callee.builtin Builtin.append, args := #[s, x], argTypes := #[23, 23] }) (ht : o.type = 23) (v sl : Value) (A B : List ByteArray)
    (hs : a.eval s = v) (hx : a.eval x = sl) (hbel : Below w0.heap.size w0 w) (hown : w.ownsRow w0.heap.size 9 1 v A.length (strs A)) (hsrc : Strs w sl B) (hlen : A.length + B.length ≤ 1000000)
    (hK : ∀ v' w1, w1.ownsRow w0.heap.size 9 1 v' (A ++ B).length (strs (A ++ B)) → w.grownBy w1 v.ownBlock → Below w0.heap.size w0 w1 → K (a.put o.dst v') w1) :
    if Region.wanted o (yielded ops a.tmps) = true then Oper.wp Tryd.prog o a w K Q else E := by
  obtain ⟨v', w1, h1, h2, h3⟩ := run_append_strs w w0.heap.size v sl A B hown hsrc hlen hbel.size
  exact step_append_is hg s x hop ht v sl v' w1 hs hx h1 (hK v' w1 h2 h3 (hbel.grown h3 hbel.size (fun k hk => (hown.lt k hk).1)))

theorem below_drew' {w0 w : World} (h : Below w0.heap.size w0 w) : Below w0.heap.size w0 w.drew := h.drew
theorem owns_drew' {w : World} {base n : Nat} {v : Value} {xs : List Value} (h : w.ownsRow base 9 1 v n xs) : w.drew.ownsRow base 9 1 v n xs := h
theorem strs_drew' {w : World} {v : Value} {B : List ByteArray} (h : Strs w v B) : Strs w.drew v B := h
theorem strs_alloc' {w : World} {v : Value} {B : List ByteArray} {o : Obj} (h : Strs w v B) : Strs (w.alloc o) v B := h.below ((Below.refl _ w).alloc (Nat.le_refl _) _)

/-- A row of none. -/
theorem owns_empty {w0 w : World} {g : Nat} (h : Below w0.heap.size w0 w) (hg : g = w.heap.size) : (w.alloc (.cells #[] 9)).ownsRow w0.heap.size 9 1 (.slice (some ⟨g, 0, none⟩) 0 0) ([] : List ByteArray).length (strs []) := by
  subst hg
  exact World.ownsRow_made w #[] 0 h.size (Nat.zero_le _) rfl

/-- A row of one. -/
theorem strs_one {w : World} {x : ByteArray} {g : Nat} (hg : g = w.heap.size) : Strs (w.alloc (.cells #[.string x] 9)) (.slice (some ⟨g, 0, none⟩) 1 1) [x] := by
  subst hg
  refine ⟨_, _, rfl, fun i hi => ?_⟩
  have : i = 0 := by simpa using hi
  subst this
  exact ⟨_, _, rfl, by simp [go_sem]⟩

/-- What lies in another block than the one that is turned. -/
theorem Strs.grown {w w' : World} {g n c : Nat} {l : List ByteArray} {row : Option Nat} (h : Strs w (.slice (some ⟨g, 0, none⟩) n c) l) (hg : w.grownBy w' row) (hne : some g ≠ row) : Strs w' (.slice (some ⟨g, 0, none⟩) n c) l := by
  obtain ⟨ad, c', hv, hx⟩ := h
  cases hv
  refine ⟨_, _, rfl, fun i hi => ?_⟩
  obtain ⟨b, o, ha, hcell⟩ := hx i hi
  cases ha
  refine ⟨_, _, rfl, ?_⟩
  rw [World.cell?_of_block (a := ⟨g, 0 + i, none⟩) (hg.block g (block_lt_of_cell hcell) hne)]
  exact hcell

theorem strs_two {w : World} {x y : ByteArray} {g : Nat} (hg : g = w.heap.size) : Strs (w.alloc (.cells #[.string x, .string y] 9)) (.slice (some ⟨g, 0, none⟩) 2 2) [x, y] := by
  subst hg
  exact strs_new w [x, y] 2 2 9 rfl
end Go.Proofs.YtioilknfjccfeaaDoor

/-
  What is kept of a world: of no program's own.
-/
import Derived.Test.YtmmoilmfpiclgaaGreatT04
import Derived.Test.YtmmoilmfpiclgaaGreatT12
import Derived.ArgAppend
import Derived.Laws.IdiomCopy
import Derived.Maps.AppendAt
set_option linter.unusedVariables false
set_option linter.unusedSimpArgs false
namespace Go.Proofs.YtmmoilmfpiclgaaGreat.Fld
open Go.RowKit Go.Shelf

/-- Only blocks of M have turned. -/
structure Kept (M : Nat → Prop) (w w' : World) : Prop where
  os : w'.os = w.os
  tape : w'.tape = w.tape
  output : w'.output = w.output
  size : w.heap.size ≤ w'.heap.size
  block : ∀ k, k < w.heap.size → ¬ M k → w'.heap[k]? = w.heap[k]?

theorem Kept.refl (M : Nat → Prop) (w : World) : Kept M w w := ⟨rfl, rfl, rfl, Nat.le_refl _, fun _ _ _ => rfl⟩
theorem Kept.trans {M N : Nat → Prop} {w a b : World} (h : Kept M w a) (k : Kept N a b) (hn : ∀ g, N g → M g ∨ w.heap.size ≤ g) : Kept M w b :=
  ⟨k.os.trans h.os, k.tape.trans h.tape, k.output.trans h.output, Nat.le_trans h.size k.size, fun g hg hm => (k.block g (Nat.lt_of_lt_of_le hg h.size) (fun e => by
    rcases hn g e with h' | h'
    · exact hm h'
    · omega)).trans (h.block g hg hm)⟩
theorem Kept.below {M : Nat → Prop} {w w' : World} (h : Below w.heap.size w w') : Kept M w w' := ⟨h.os, h.tape, h.output, h.size, fun k hk _ => h.block k hk⟩
theorem Kept.grown {M : Nat → Prop} {w w' : World} {row : Option Nat} (h : w.grownBy w' row) (hm : ∀ g, row = some g → M g) : Kept M w w' := ⟨h.os, h.tape, h.output, h.size, fun k hk hn => h.block k hk (fun e => hn (hm k e.symm))⟩
theorem Kept.mono {M N : Nat → Prop} {w w' : World} (h : Kept M w w') (hm : ∀ g, M g → N g ∨ w.heap.size ≤ g) : Kept N w w' := ⟨h.os, h.tape, h.output, h.size, fun k hk hn => h.block k hk (fun e => by
  rcases hm k e with h' | h'
  · exact hn h'
  · omega)⟩
theorem Kept.to {M : Nat → Prop} {base : Nat} {w w' : World} (h : Kept M w w') (hb : base ≤ w.heap.size) (hm : ∀ g, M g → base ≤ g) : Below base w w' := ⟨h.os, h.tape, h.output, h.size, fun k hk => h.block k (by omega) (fun e => by have := hm k e; omega)⟩

theorem grownBy_trans {w a b : World} {row : Option Nat} (h : w.grownBy a row) (k : a.grownBy b row) : w.grownBy b row :=
  ⟨k.os.trans h.os, k.tape.trans h.tape, k.output.trans h.output, Nat.le_trans h.size k.size, fun g hg hn => (k.block g (Nat.lt_of_lt_of_le hg h.size) hn).trans (h.block g hg hn)⟩
theorem grownBy_none {w w' : World} {row : Option Nat} (h : w.grownBy w' none) : w.grownBy w' row := ⟨h.os, h.tape, h.output, h.size, fun k hk _ => h.block k hk (by simp)⟩
theorem heap_setCell_ne {w : World} {p o g : Nat} {v : Value} (h : g ≠ p) : (w.setCell ⟨p, o, none⟩ v).heap[g]? = w.heap[g]? := Below.heap_setCell w ⟨p, o, none⟩ v g h
theorem below_alloc' {w0 w : World} {o : Obj} (h : Below w0.heap.size w0 w) : Below w0.heap.size w0 (w.alloc o) := h.alloc h.size _

theorem owns_same {w w' : World} {base size n : Nat} {e : TypeId} {v : Value} {xs : List Value} (h : w.ownsRow base e size v n xs) (he : ∀ g, v.ownBlock = some g → w'.heap[g]? = w.heap[g]?) : w'.ownsRow base e size v n xs := by
  refine ⟨h.1, ?_⟩
  rcases h.2 with h' | ⟨g, cap, cur, rfl, h2, h3, h4⟩
  · exact .inl h'
  · exact .inr ⟨g, cap, cur, rfl, h2, (he g rfl).trans h3, h4⟩
theorem owns_mem {w : World} {base size n : Nat} {e : TypeId} {v : Value} {xs : List Value} (h : w.ownsRow base e size v n xs) {g : Nat} (hg : v.ownBlock = some g) : ∃ cs, w.heap[g]? = some (.cells cs e (0, 0)) := by
  rcases h.2 with ⟨rfl, _⟩ | ⟨g', cap, cur, rfl, _, hh, _⟩
  · cases hg
  · cases hg; exact ⟨cur, hh⟩

/-- Blocks of two types are two. -/
theorem two_types {w : World} {g k : Nat} {cs ds : Array Value} {S T : TypeId} {fz gz : Nat × Nat} (h : w.heap[g]? = some (.cells cs S fz)) (k' : w.heap[k]? = some (.cells ds T gz)) (hne : S ≠ T) : g ≠ k := fun e => by
  subst e
  rw [h] at k'
  cases k'
  exact hne rfl

theorem grown_setCells (b : Nat) : ∀ (vs : List Value) (o : Nat) (w : World), w.grownBy (w.setCells b o vs) (some b)
  | [], _, _ => ⟨rfl, rfl, rfl, Nat.le_refl _, fun _ _ _ => rfl⟩
  | v :: r, o, w => by
    have h1 := grown_setCell w b o v
    have h2 := grown_setCells b r (o + 1) (w.setCell ⟨b, o, none⟩ v)
    exact ⟨h2.os.trans h1.os, h2.tape.trans h1.tape, h2.output.trans h1.output, Nat.le_trans h1.size h2.size, fun k hk hn => (h2.block k (Nat.lt_of_lt_of_le hk h1.size) hn).trans (h1.block k hk hn)⟩

theorem setCell_heap {w : World} {b : Nat} {cs : Array Value} {T : TypeId} {fz : Nat × Nat} (h : w.heap[b]? = some (.cells cs T fz)) (i : Nat) (v : Value) : (w.setCell ⟨b, i, none⟩ v).heap[b]? = some (.cells (cs.setIfInBounds i v) T fz) := by
  obtain ⟨hlt, hk⟩ := Array.getElem?_eq_some_iff.1 h
  show (w.heap.modify b _)[b]? = _
  rw [Array.getElem?_eq_getElem (by rw [Array.size_modify]; exact hlt), Array.getElem_modify_self, hk]
  rfl

theorem setCells_heap {T : TypeId} {fz : Nat × Nat} (b : Nat) : ∀ (vs : List Value) (o : Nat) (w : World) (cs : Array Value), w.heap[b]? = some (.cells cs T fz) → o + vs.length ≤ cs.size →
    ∃ cs', (w.setCells b o vs).heap[b]? = some (.cells cs' T fz) ∧ cs'.size = cs.size ∧ cs'.toList.take (o + vs.length) = cs.toList.take o ++ vs
  | [], o, w, cs, h, _ => ⟨cs, h, rfl, by simp⟩
  | v :: r, o, w, cs, h, hl => by
    simp only [List.length_cons] at hl
    obtain ⟨cs', h1, h2, h3⟩ := setCells_heap b r (o + 1) (w.setCell ⟨b, o, none⟩ v) (cs.setIfInBounds o v) (setCell_heap h o v) (by simp; omega)
    refine ⟨cs', h1, by rw [h2]; simp, ?_⟩
    rw [List.length_cons, show o + (r.length + 1) = o + 1 + r.length by omega, h3]
    rw [Array.toList_setIfInBounds, List.take_succ_eq_append_getElem (by simp; omega), List.getElem_set_self]
    rw [List.take_set_of_le (by omega)]
    simp

/-- Bytes as a string. -/
abbrev strO (l : List UInt8) : ByteArray := ⟨l.toArray⟩
theorem strO_of (X : ByteArray) : strO X.data.toList = X := by cases X; simp
theorem strO_size (l : List UInt8) : (strO l).size = l.length := by simp [ByteArray.size]
theorem strO_data (l : List UInt8) : (strO l).data.toList = l := by simp
theorem strO_inj {a b : List UInt8} (h : strO a = strO b) : a = b := by
  have := congrArg (fun x : ByteArray => x.data.toList) h
  simpa [strO] using this

/-! ### A row of acts, whose room may be cut -/

theorem i90 : (Tryz.prog.info? 163).map (fun i => (i.zero, i.size, i.bytes)) = some (some (.agg #[.nilFunc]), 1, 8) := by kernel_rfl

def capOf : Value → Nat
  | .slice _ _ c => c
  | _ => 0

/-- v is a slice that begins with its block, and holds these functions; the block may be longer than its room. -/
def ARow (w : World) (v : Value) (fs : List Value) : Prop :=
  (v = .slice none 0 0 ∧ fs = []) ∨ ∃ g cap cs, v = .slice (some ⟨g, 0, none⟩) fs.length cap ∧ fs.length ≤ cap ∧ cap ≤ 9223372036854775807 ∧ w.heap[g]? = some (.cells cs 163 (0, 0)) ∧ cap ≤ cs.size ∧ cs.toList.take fs.length = fs

theorem arow_nil (w : World) : ARow w (.slice none 0 0) [] := .inl ⟨rfl, rfl⟩
theorem ARow.shape {w : World} {v : Value} {fs : List Value} (h : ARow w v fs) : ∃ ad c, v = .slice ad fs.length c ∧ fs.length ≤ c ∧ c ≤ 9223372036854775807 := by
  rcases h with ⟨rfl, rfl⟩ | ⟨g, cap, cs, rfl, h1, h2, _⟩
  · exact ⟨none, 0, rfl, Nat.le_refl _, by omega⟩
  · exact ⟨_, cap, rfl, h1, h2⟩
theorem ARow.mem {w : World} {v : Value} {fs : List Value} (h : ARow w v fs) {g : Nat} (hg : v.ownBlock = some g) : ∃ cs, w.heap[g]? = some (.cells cs 163 (0, 0)) := by
  rcases h with ⟨rfl, _⟩ | ⟨g', cap, cs, rfl, _, _, hh, _⟩
  · cases hg
  · cases hg; exact ⟨cs, hh⟩
theorem ARow.lt {w : World} {v : Value} {fs : List Value} (h : ARow w v fs) {g : Nat} (hg : v.ownBlock = some g) : g < w.heap.size := by
  obtain ⟨cs, hc⟩ := h.mem hg
  exact (Array.getElem?_eq_some_iff.1 hc).1
/-- Only its cells, and how long its block is, count. -/
theorem ARow.cell {w : World} {v : Value} {fs : List Value} (h : ARow w v fs) {g : Nat} (hg : v.ownBlock = some g) {k : Nat} (hk : k < fs.length) : w.cell? ⟨g, k, none⟩ = some fs[k] := by
  rcases h with ⟨rfl, _⟩ | ⟨g', cap, cs, rfl, h1, _, hh, h2, ht⟩
  · cases hg
  · cases hg
    rw [cell_of_row w g' k cs 163 (0, 0) hh, ← Array.getElem?_toList]
    have : (cs.toList.take fs.length)[k]? = some fs[k] := by rw [ht]; simp [hk]
    rwa [List.getElem?_take, if_pos hk] at this
theorem ARow.same {w w' : World} {v : Value} {fs : List Value} (h : ARow w v fs) (he : ∀ g, v.ownBlock = some g → w'.heap[g]? = w.heap[g]?) : ARow w' v fs := by
  rcases h with h | ⟨g, cap, cs, rfl, h1, h2, hb, h3⟩
  · exact .inl h
  · exact .inr ⟨g, cap, cs, rfl, h1, h2, (he g rfl).trans hb, h3⟩
theorem arow_of_owns {w : World} {base : Nat} {v : Value} {fs : List Value} (h : w.ownsRow base 163 1 v fs.length fs) : ARow w v fs := by
  rcases h.2 with ⟨rfl, h0⟩ | ⟨g, cap, cur, rfl, _, hg, h1, h2, h3, ht⟩
  · exact .inl ⟨rfl, List.length_eq_zero_iff.1 h0⟩
  · exact .inr ⟨g, cap, cur, rfl, h1, by unfold maxLen at h2; exact h2, hg, by omega, by rw [Nat.mul_one] at ht; exact ht⟩

theorem ARow.cut {w : World} {v : Value} {fs : List Value} (h : ARow w v fs) {g : Nat} (hg : v.ownBlock = some g) {m : Nat} (hm : m ≤ fs.length) : ARow w (.slice (some ⟨g, 0, none⟩) m m) (fs.take m) := by
  have hlen : (fs.take m).length = m := by rw [List.length_take]; omega
  rcases h with ⟨rfl, _⟩ | ⟨g', cap, cs, rfl, h1, h2, hb, h3, ht⟩
  · cases hg
  · cases hg
    refine .inr ⟨g', m, cs, by rw [hlen], by omega, by omega, hb, by omega, ?_⟩
    rw [hlen, ← ht, List.take_take, Nat.min_eq_left hm]

/-- What an append to v leaves: in its own block, or a new one. -/
theorem run_append_arow (w : World) (v : Value) (fs : List Value) (k : Nat) (f : Value) (hc : w.cell? ⟨k, 0, none⟩ = some f) (hf : f.oneCell' = true) (hv : ARow w v fs) (hlen : fs.length ≤ 1000000) :
    ∃ v' w', (Builtin.append_ #[69, 69] 69 #[v, .slice (some ⟨k, 0, none⟩) 1 1]).run Tryz.prog w = .ok v' w' ∧ ARow w' v' (fs ++ [f]) ∧ w.grownBy w' v.ownBlock ∧
      (v'.ownBlock = v.ownBlock ∧ fs.length < capOf v ∨ ((∃ g, v'.ownBlock = some g ∧ w.heap.size ≤ g) ∧ w.grownBy w' none)) ∧ (∀ g j u, v.ownBlock = some g → j < fs.length → w.cell? ⟨g, j, none⟩ = some u → w'.cell? ⟨g, j, none⟩ = some u) ∧ (∃ g, v'.ownBlock = some g) := by
  obtain ⟨i0, hi, hz0, hz1, hz2⟩ := info_parts i90
  have hnews : ∀ j u, [f][j]? = some u → w.cell? ((⟨k, 0, none⟩ : Addr).add j) = some u := fun j u hj => by
    have : j = 0 := by have := (List.getElem?_eq_some_iff.1 hj).1; simpa using this
    subst this
    cases hj
    exact hc
  rcases hv with ⟨rfl, rfl⟩ | ⟨g, cap, cs, rfl, h1, h2, hh, h3, ht⟩
  · obtain ⟨v', w', hr, ho, hg, hnil⟩ := run_append_own (P := Tryz.prog) w w.heap.size 69 69 163 i0 (.agg #[.nilFunc]) 1 8 Tryz.underlying69 hi hz0 hz1 hz2 rfl (by decide) (.slice none 0 0) 0 [] (World.ownsRow_nil w _ 163 1) ⟨k, 0, none⟩ 1 1 [f] rfl hnews (by simpa using hf) (by unfold maxLen; omega) (by omega) (Nat.le_refl _)
    rw [Nat.zero_add, List.nil_append] at ho
    obtain ⟨g, hob⟩ : ∃ g, v'.ownBlock = some g := by
      rcases ho.2 with ⟨_, h0⟩ | ⟨g, cap, cur, rfl, _⟩
      · omega
      · exact ⟨g, rfl⟩
    exact ⟨v', w', hr, arow_of_owns ho, hg, .inr ⟨⟨g, hob, (ho.lt g hob).1⟩, hg⟩, (fun g j u hg => by cases hg), g, hob⟩
  · by_cases hroom : fs.length + 1 ≤ cap
    · have hfr : ∀ j, w.frozen? ⟨g, j, none⟩ = false := fun j => by simp [World.frozen?, hh]
      have hcell : ∀ j, w.cell? ⟨g, j, none⟩ = cs[j]? := fun j => cell_of_row w g j cs 163 (0, 0) hh
      have hr := run_append_room_cells (P := Tryz.prog) w 69 69 163 i0 Tryz.underlying69 hi g 0 fs.length cap ⟨k, 0, none⟩ 1 1 [f] (by rw [hz1]; rfl) hnews (by simpa using hf) hroom
        (fun j hj => by rw [hcell, hz1]; simp only [List.length_cons, List.length_nil] at hj; simp; omega)
        (fun j hj => hfr _)
      rw [hz1, Nat.zero_add, Nat.mul_one] at hr
      obtain ⟨cs', k1, k2, k3⟩ := setCells_heap g [f] fs.length w cs hh (by simp; omega)
      refine ⟨_, _, hr, .inr ⟨g, cap, cs', by rw [List.length_append]; rfl, by rw [List.length_append]; exact hroom, h2, k1, by omega, ?_⟩, grown_setCells g _ _ _, .inl ⟨rfl, hroom⟩, fun g' j u hg' hj hu => ?_, g, rfl⟩
      · rw [List.length_append, k3, ht]
      · cases hg'
        rw [cell_of_row _ g j cs' 163 (0, 0) k1, ← Array.getElem?_toList]
        rw [hcell, ← Array.getElem?_toList] at hu
        have e1 : (cs'.toList.take (fs.length + [f].length))[j]? = (cs.toList.take fs.length ++ [f])[j]? := by rw [k3]
        rw [List.getElem?_take, if_pos (by simp; omega), List.getElem?_append_left (by rw [List.length_take]; simp; omega), List.getElem?_take, if_pos hj] at e1
        rw [e1]; exact hu
    · obtain ⟨v', w', hr, ho, hg⟩ := run_append_arg_grows (P := Tryz.prog) w 69 69 163 i0 (.agg #[.nilFunc]) 1 8 Tryz.underlying69 hi hz0 hz1 hz2 rfl (by decide) ⟨g, 0, none⟩ fs.length cap fs (by rw [Nat.mul_one])
        (fun j u hj => by
          rw [Addr.add_lit, Nat.zero_add, cell_of_row w g j cs 163 (0, 0) hh, ← Array.getElem?_toList]
          rw [← ht, List.getElem?_take] at hj
          split at hj
          · exact hj
          · cases hj) ⟨k, 0, none⟩ 1 1 [f] rfl hnews (by omega) (by unfold maxLen; omega) (by omega)
      rw [show fs.length + 1 = (fs ++ [f]).length by rw [List.length_append]; rfl] at ho
      obtain ⟨g', hob, hge⟩ : ∃ g', v'.ownBlock = some g' ∧ w.heap.size ≤ g' := by
        rcases ho.2 with ⟨_, h0⟩ | ⟨g', cap', cur, rfl, hge, _⟩
        · rw [List.length_append] at h0; simp at h0
        · exact ⟨g', rfl, hge⟩
      refine ⟨v', w', hr, arow_of_owns ho, grownBy_none hg, .inr ⟨⟨g', hob, hge⟩, hg⟩, fun g1 j u hg1 hj hu => ?_, g', hob⟩
      cases hg1
      have hlt : g < w.heap.size := (Array.getElem?_eq_some_iff.1 hh).1
      rw [cell_of_row _ g j cs 163 (0, 0) ((hg.block g hlt (by simp)).trans hh)]
      rw [cell_of_row _ g j cs 163 (0, 0) hh] at hu
      exact hu

theorem wpList_append_arow {w : World} {ops : Array Oper} {rest : List Oper} {o : Oper} {a : Act} {Q : Exit → Act → World → Prop} (hgd : o.guard = none) (s x : Operand)
    (hop : o.op = Op.call { callee := Callee.builtin Builtin.append, args := #[s, x], argTypes := #[69, 69] }) (ht : o.type = 69) (v : Value) (fs : List Value) (k : Nat) (f : Value)
    (hs : a.eval s = v) (hx : a.eval x = .slice (some ⟨k, 0, none⟩) 1 1) (hc : w.cell? ⟨k, 0, none⟩ = some f) (hf : f.oneCell' = true) (hv : ARow w v fs) (hlen : fs.length ≤ 1000000)
    (h : ∀ v' w', ARow w' v' (fs ++ [f]) → w.grownBy w' v.ownBlock → (v'.ownBlock = v.ownBlock ∧ fs.length < capOf v ∨ ((∃ g, v'.ownBlock = some g ∧ w.heap.size ≤ g) ∧ w.grownBy w' none)) → (∀ g j u, v.ownBlock = some g → j < fs.length → w.cell? ⟨g, j, none⟩ = some u → w'.cell? ⟨g, j, none⟩ = some u) → (∃ g, v'.ownBlock = some g) → wpList Tryz.prog ops Q rest (a.put o.dst v') w') : wpList Tryz.prog ops Q (o :: rest) a w := by
  obtain ⟨v', w1, h1, h2, h3, h4, h5, h6⟩ := run_append_arow w v fs k f hc hf hv hlen
  refine wpList_plain hgd fun _ hK => ?_
  unfold Oper.wp execOp
  simp only [hop, ht, resolve, invoke, builtin, Sem.run_bind, Sem.run_pure, Result.andThen_ok, List.map_toArray, List.map_cons, List.map_nil, hs, hx, h1]
  exact hK _ _ (h v' w1 h2 h3 h4 h5 h6)
end Go.Proofs.YtmmoilmfpiclgaaGreat.Fld

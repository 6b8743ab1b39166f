/-
  A slice of names with their numbers, as a list: cells, rows, append.
-/
import Derived.Test.YtmmoilmfpiclgaaGreatT21
import Derived.Deep.RegionLaw
import Derived.Laws.OwnMore
import Derived.Laws.AppendOwn
import Derived.Laws.StructEq
set_option linter.unusedVariables false
set_option linter.unusedSimpArgs false
namespace Go.Proofs.YtmmoilmfpiclgaaGreat.Fld
open Go.RowKit Go.Sort

/-- A name with its number, as cells. -/
def encN (p : List UInt8 × Nat) : List Value := [.string (strO p.1), .int .i64 (p.2 : Int)]
/-- Names as cells. -/
def nams (l : Names) : List Value := l.flatMap encN

/-- A name lies there. -/
def NamAt (w : World) (b o : Nat) (p : List UInt8 × Nat) : Prop :=
  w.cell? ⟨b, o, none⟩ = some (.string (strO p.1)) ∧ w.cell? ⟨b, o + 1, none⟩ = some (.int .i64 (p.2 : Int))

/-- The list's name at a place. -/
def nam (l : Names) (i : Nat) : List UInt8 × Nat := l.getD i ([], 0)

theorem nam_lt {l : Names} {i : Nat} (h : i < l.length) : nam l i = l[i] := by simp [nam, List.getD, h]
theorem nam_mem {l : Names} {i : Nat} (h : i < l.length) : nam l i ∈ l := by rw [nam_lt h]; exact List.getElem_mem h

/-- v is a slice that holds these names. -/
def Nams (w : World) (v : Value) (l : Names) : Prop :=
  ∃ ad c, v = .slice ad l.length c ∧ ∀ i, i < l.length → ∃ b o, ad = some ⟨b, o, none⟩ ∧ NamAt w b (o + i * 2) (nam l i)

theorem NamAt.same {w w' : World} {b o : Nat} {e : List UInt8 × Nat} (h : NamAt w b o e) (hb : w'.heap[b]? = w.heap[b]?) : NamAt w' b o e := by
  obtain ⟨h1, h2⟩ := h
  refine ⟨?_, ?_⟩
  · rw [World.cell?_of_block (a := ⟨b, o, none⟩) hb]; exact h1
  · rw [World.cell?_of_block (a := ⟨b, o + 1, none⟩) hb]; exact h2
theorem NamAt.below {w w' : World} {b o : Nat} {e : List UInt8 × Nat} (h : NamAt w b o e) (hb : RowKit.Below w.heap.size w w') : NamAt w' b o e := by
  obtain ⟨h1, h2⟩ := h
  refine ⟨?_, ?_⟩
  · rw [hb.cell (p := ⟨b, o, none⟩) (block_lt_of_cell h1)]; exact h1
  · rw [hb.cell (p := ⟨b, o + 1, none⟩) (block_lt_of_cell h2)]; exact h2

theorem Nams.below {w w' : World} {v : Value} {l : Names} (h : Nams w v l) (hb : RowKit.Below w.heap.size w w') : Nams w' v l := by
  obtain ⟨ad, c, hv, hc⟩ := h
  refine ⟨ad, c, hv, fun i hi => ?_⟩
  obtain ⟨b, o, ha, hci⟩ := hc i hi
  exact ⟨b, o, ha, hci.below hb⟩
theorem nams_nil (W : World) : Nams W (.slice none 0 0) [] := ⟨none, 0, rfl, fun i hi => by simp at hi⟩
theorem nams_cell {w : World} {v : Value} {l : Names} (h : Nams w v l) : ∃ ad c, v = .slice ad l.length c ∧ ∀ i, i < l.length → ∃ b o, ad = some ⟨b, o, none⟩ ∧ NamAt w b (o + i * 2) (nam l i) := h

theorem nams_length (l : Names) : (nams l).length = l.length * 2 := by
  unfold nams
  induction l with
  | nil => rfl
  | cons x l ih => rw [List.flatMap_cons, List.length_append, ih]; simp [encN]; omega
theorem nams_append (A B : Names) : nams (A ++ B) = nams A ++ nams B := by simp [nams]
theorem nams_cons (x : List UInt8 × Nat) (l : Names) : nams (x :: l) = encN x ++ nams l := by simp [nams]

/-- The cells of a list's name. -/
theorem nams_get : ∀ (l : Names) (i c : Nat), i < l.length → c < 2 → (nams l)[i * 2 + c]? = (encN (nam l i))[c]?
  | [], i, c, h, _ => by simp at h
  | x :: l, 0, c, _, hc => by
    rw [nams_cons, Nat.zero_mul, Nat.zero_add, List.getElem?_append_left (by simp [encN]; omega)]
    rfl
  | x :: l, i + 1, c, h, hc => by
    rw [nams_cons, List.getElem?_append_right (by simp [encN]; omega)]
    have := nams_get l i c (by simpa using h) hc
    rw [show (i + 1) * 2 + c - (encN x).length = i * 2 + c by simp [encN]; omega, this]
    rfl

theorem nams_one (l : Names) : ∀ u ∈ nams l, u.oneCell' = true := by
  intro u hu
  simp only [nams, List.mem_flatMap] at hu
  obtain ⟨x, _, hx⟩ := hu
  simp [encN] at hx
  rcases hx with rfl | rfl <;> rfl

theorem namAt_of {w : World} {b o : Nat} {e : List UInt8 × Nat} (h : ∀ c, c < 2 → w.cell? ⟨b, o + c, none⟩ = (encN e)[c]?) : NamAt w b o e :=
  ⟨h 0 (by omega), h 1 (by omega)⟩
theorem NamAt.get {w : World} {b o : Nat} {e : List UInt8 × Nat} (h : NamAt w b o e) (c : Nat) (hc : c < 2) : w.cell? ⟨b, o + c, none⟩ = (encN e)[c]? := by
  rcases (show c = 0 ∨ c = 1 by omega) with rfl | rfl
  · exact h.1
  · exact h.2

theorem i68 : (Tryz.prog.info? 135).map (fun i => (i.zero, i.size, i.bytes)) = some (some (.agg #[.string ⟨#[]⟩, .int .i64 0]), 2, 24) := by kernel_rfl

/-- A row of the function's own. -/
theorem nams_of_owns {W : World} {base : Nat} {v : Value} {l : Names} (h : W.ownsRow base 135 2 v l.length (nams l)) : Nams W v l := by
  rcases h.2 with ⟨rfl, h0⟩ | ⟨g, cap, cur, rfl, _, hg, _, _, _, ht⟩
  · exact ⟨none, 0, by rw [h0], fun i hi => by omega⟩
  · refine ⟨_, cap, rfl, fun i hi => ⟨g, 0, rfl, namAt_of fun c hc => ?_⟩⟩
    have hx := nams_get l i c hi hc
    rw [← ht, List.getElem?_take, if_pos (by omega), Array.getElem?_toList] at hx
    rw [Nat.zero_add]
    show (W.cell? ⟨g, i * 2 + c, none⟩) = _
    rw [← hx]
    have hlt : i * 2 + c < cur.size := by
      have e := nams_get l i c hi hc
      rw [← ht, List.getElem?_take, if_pos (by omega), Array.getElem?_toList] at e
      rcases Nat.lt_or_ge (i * 2 + c) cur.size with h1 | h1
      · exact h1
      · rw [Array.getElem?_eq_none h1, List.getElem?_eq_getElem (by simp [encN]; omega)] at e
        cases e
    simp [World.cell?, hg, hlt]

/-- Cells of a slice, one behind the other. -/
theorem Nams.cells {w : World} {b o n c : Nat} {l : Names} (h : Nams w (.slice (some ⟨b, o, none⟩) n c) l) : ∀ j u, (nams l)[j]? = some u → w.cell? ((⟨b, o, none⟩ : Addr).add j) = some u := by
  intro j u hj
  obtain ⟨ad, c', hv, hx⟩ := h
  cases hv
  have hjl : j < l.length * 2 := by have := (List.getElem?_eq_some_iff.1 hj).1; rwa [nams_length] at this
  obtain ⟨b', o', ha, hc⟩ := hx (j / 2) (by omega)
  cases ha
  have e := hc.get (j % 2) (by omega)
  have e2 := nams_get l (j / 2) (j % 2) (by omega) (by omega)
  rw [show j / 2 * 2 + j % 2 = j by omega, hj] at e2
  rw [Addr.add_lit, show o + j = o + j / 2 * 2 + j % 2 by omega, e, e2]

theorem run_append_nilN (W : World) (base : Nat) (v : Value) (n c : Nat) (xs : List Value) (hown : W.ownsRow base 135 2 v n xs) :
    (Builtin.append_ #[131, 131] 131 #[v, .slice none 0 c]).run Tryz.prog W = .ok v W := by
  obtain ⟨i0, hi, _, _, _⟩ := info_parts i68
  rcases hown.2 with ⟨rfl, rfl⟩ | ⟨g, cap, cur, rfl, _, _, hnc, _⟩
  · simp [Builtin.append_, run_underlying Tryz.underlying131, sizeOf, typeInfo, hi, Builtin.lenOf, Builtin.firstCells]
  · simp [Builtin.append_, run_underlying Tryz.underlying131, sizeOf, typeInfo, hi, Builtin.lenOf, Builtin.firstCells, hnc, storeCells]

theorem run_append_nams (W : World) (base : Nat) (v sl : Value) (A B : Names) (hown : W.ownsRow base 135 2 v A.length (nams A)) (hB : Nams W sl B) (hlen : A.length + B.length ≤ 1000000) (hb : base ≤ W.heap.size) :
    ∃ v' W', (Builtin.append_ #[131, 131] 131 #[v, sl]).run Tryz.prog W = .ok v' W' ∧ W'.ownsRow base 135 2 v' (A ++ B).length (nams (A ++ B)) ∧ W.grownBy W' v.ownBlock := by
  obtain ⟨i0, hi, hz0, hz1, hz2⟩ := info_parts i68
  obtain ⟨ad, c, rfl, hx⟩ := id hB
  cases ad with
  | none =>
    have h0 : B = [] := by
      cases B with
      | nil => rfl
      | cons y B =>
        obtain ⟨b, o, h, _⟩ := hx 0 (by simp)
        cases h
    subst h0
    exact ⟨v, W, run_append_nilN W base v A.length c (nams A) hown, by simpa using hown, ⟨rfl, rfl, rfl, Nat.le_refl _, fun _ _ _ => rfl⟩⟩
  | some a =>
    have hsp : ∃ b o, a = ⟨b, o, none⟩ ∨ B = [] := by
      cases B with
      | nil => exact ⟨0, 0, .inr rfl⟩
      | cons y B =>
        obtain ⟨b, o, h, _⟩ := hx 0 (by simp)
        cases h
        exact ⟨b, o, .inl rfl⟩
    obtain ⟨b, o, hs⟩ := hsp
    have hnews : ∀ j u, (nams B)[j]? = some u → W.cell? (a.add j) = some u := by
      rcases hs with rfl | rfl
      · exact hB.cells
      · intro j u hj; simp [nams] at hj
    obtain ⟨v', W', h1, h2, h3, _⟩ := run_append_own (P := Tryz.prog) W base 131 131 135 i0 (.agg #[.string ⟨#[]⟩, .int .i64 0]) 2 24 Tryz.underlying131 hi hz0 hz1 hz2 rfl (by decide) v A.length (nams A) hown a B.length c (nams B) (nams_length B) hnews (nams_one B) (by unfold maxLen; omega) (by omega) hb
    exact ⟨v', W', h1, by rw [List.length_append, nams_append]; exact h2, h3⟩

/-- append, where the order is the text's. -/
theorem wpList_append_nams {w : World} {ops : Array Oper} {rest : List Oper} {o : Oper} {a : Act} {Q : Exit → Act → World → Prop} (hgd : o.guard = none) (s x : Operand)
    (hop : o.op = Op.call { callee := Callee.builtin Builtin.append, args := #[s, x], argTypes := #[131, 131] }) (ht : o.type = 131) (base : Nat) (v sl : Value) (A B : Names)
    (hs : a.eval s = v) (hx : a.eval x = sl) (hown : w.ownsRow base 135 2 v A.length (nams A)) (hB : Nams w sl B) (hlen : A.length + B.length ≤ 1000000) (hbase : base ≤ w.heap.size)
    (h : ∀ v' w', w'.ownsRow base 135 2 v' (A ++ B).length (nams (A ++ B)) → w.grownBy w' v.ownBlock → wpList Tryz.prog ops Q rest (a.put o.dst v') w') : wpList Tryz.prog ops Q (o :: rest) a w := by
  obtain ⟨v', w1, h1, h2, h3⟩ := run_append_nams w base v sl A B hown hB hlen hbase
  refine wpList_plain hgd fun _ hK => ?_
  unfold Oper.wp execOp
  simp only [hop, ht, resolve, invoke, builtin, Sem.run_bind, Sem.run_pure, Result.andThen_ok, List.map_toArray, List.map_cons, List.map_nil, hs, hx, h1]
  exact hK _ _ (h v' w1 h2 h3)

theorem ownsN_nil (w : World) (base : Nat) : w.ownsRow base 135 2 (.slice none 0 0) ([] : Names).length (nams []) := World.ownsRow_nil w base 135 2

/-- Rows just written out. -/
theorem nams_lit (l : Names) (W : World) : Nams (W.alloc (.cells (nams l).toArray 135)) (.slice (some ⟨W.heap.size, 0, none⟩) l.length l.length) l := by
  refine ⟨_, _, rfl, fun i hi => ⟨_, _, rfl, namAt_of fun c hc => ?_⟩⟩
  rw [World.cell?_alloc_at (hn := rfl), Nat.zero_add, ← nams_get l i c hi hc]
  simp
/-- A row of one name. -/
theorem nams_single {w : World} {x : List UInt8 × Nat} : Nams (w.alloc (.cells #[.string (strO x.1), .int .i64 (x.2 : Int)] 135)) (.slice (some ⟨w.heap.size, 0, none⟩) 1 1) [x] := nams_lit [x] w
theorem nams_alloc' {w : World} {v : Value} {B : Names} {o : Obj} (h : Nams w v B) : Nams (w.alloc o) v B := h.below (below_alloc' (Below.refl _ w))
end Go.Proofs.YtmmoilmfpiclgaaGreat.Fld

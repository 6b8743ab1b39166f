/-
  A slice of entries, as a list of entries.
-/
import Derived.Test.YtjiilmiikejnhaaDoorP37
import Derived.Test.YtjiilmiikejnhaaDoorP04
import Derived.Test.YtjiilmiikejnhaaDoorP03
import Derived.Deep.RegionLaw
import Derived.Laws.OwnMore
import Derived.Laws.AppendOwn
import Derived.Laws.StructEq
set_option linter.unusedVariables false
set_option linter.unusedSimpArgs false
namespace Go.Proofs.YtjiilmiikejnhaaDoor.Ev
open Go.RowKit Go.Shelf

/-- Entries as cells. -/
def ents (l : List Ent) : List Value := l.flatMap enc

/-- An entry lies there. -/
def EntAt (w : World) (b o : Nat) (e : Ent) : Prop :=
  w.cell? ⟨b, o, none⟩ = some (.string e.word) ∧ w.cell? ⟨b, o + 1, none⟩ = some (.int .u32 (e.weight : Int)) ∧ w.cell? ⟨b, o + 2, none⟩ = some (.bool e.gone)

/-- The list's entry at a place. -/
def ent (l : List Ent) (i : Nat) : Ent := l.getD i default

theorem ent_lt {l : List Ent} {i : Nat} (h : i < l.length) : ent l i = l[i] := by simp [ent, List.getD, h]
theorem ent_mem {l : List Ent} {i : Nat} (h : i < l.length) : ent l i ∈ l := by rw [ent_lt h]; exact List.getElem_mem h

/-- v is a slice that holds these entries. -/
def Ents (w : World) (v : Value) (l : List Ent) : Prop :=
  ∃ ad c, v = .slice ad l.length c ∧ ∀ i, i < l.length → ∃ b o, ad = some ⟨b, o, none⟩ ∧ EntAt w b (o + i * 3) (ent l i)

theorem EntAt.below {w w' : World} {b o : Nat} {e : Ent} (h : EntAt w b o e) (hb : RowKit.Below w.heap.size w w') : EntAt w' b o e := by
  obtain ⟨h1, h2, h3⟩ := h
  refine ⟨?_, ?_, ?_⟩
  · rw [hb.cell (p := ⟨b, o, none⟩) (block_lt_of_cell h1)]; exact h1
  · rw [hb.cell (p := ⟨b, o + 1, none⟩) (block_lt_of_cell h2)]; exact h2
  · rw [hb.cell (p := ⟨b, o + 2, none⟩) (block_lt_of_cell h3)]; exact h3

theorem Ents.below {w w' : World} {v : Value} {l : List Ent} (h : Ents w v l) (hb : RowKit.Below w.heap.size w w') : Ents w' v l := by
  obtain ⟨ad, c, hv, hc⟩ := h
  refine ⟨ad, c, hv, fun i hi => ?_⟩
  obtain ⟨b, o, ha, hci⟩ := hc i hi
  exact ⟨b, o, ha, hci.below hb⟩

theorem ents_nil (W : World) : Ents W (.slice none 0 0) [] := ⟨none, 0, rfl, fun i hi => by simp at hi⟩

theorem ents_cell {w : World} {v : Value} {l : List Ent} (h : Ents w v l) : ∃ ad c, v = .slice ad l.length c ∧ ∀ i, i < l.length → ∃ b o, ad = some ⟨b, o, none⟩ ∧ EntAt w b (o + i * 3) (ent l i) := h

theorem below_alloc (w : World) (o : Obj) : RowKit.Below w.heap.size w (w.alloc o) := (RowKit.Below.refl _ w).alloc (Nat.le_refl _) o

/-- Below the size all is as it was. -/
theorem bcell {W w1 : World} (hb : RowKit.Below W.heap.size W w1) : (∀ b o, b < W.heap.size → w1.cell? ⟨b, o, none⟩ = W.cell? ⟨b, o, none⟩) ∧ (∀ b o, b < W.heap.size → w1.frozen? ⟨b, o, none⟩ = W.frozen? ⟨b, o, none⟩) :=
  ⟨fun b o h => hb.cell (p := ⟨b, o, none⟩) h, fun b o h => hb.frozen (p := ⟨b, o, none⟩) h⟩

/-- An entry stored into a block of its own. -/
theorem set3 {W : World} {B : Nat} {u0 u1 u2 : Value} (h0 : W.cell? ⟨B, 0, none⟩ = some u0) (h1 : W.cell? ⟨B, 1, none⟩ = some u1) (h2 : W.cell? ⟨B, 2, none⟩ = some u2) (v0 v1 v2 : Value) :
    (((W.setCell ⟨B, 0, none⟩ v0).setCell ⟨B, 1, none⟩ v1).setCell ⟨B, 2, none⟩ v2).cell? ⟨B, 0, none⟩ = some v0 ∧
    (((W.setCell ⟨B, 0, none⟩ v0).setCell ⟨B, 1, none⟩ v1).setCell ⟨B, 2, none⟩ v2).cell? ⟨B, 1, none⟩ = some v1 ∧
    (((W.setCell ⟨B, 0, none⟩ v0).setCell ⟨B, 1, none⟩ v1).setCell ⟨B, 2, none⟩ v2).cell? ⟨B, 2, none⟩ = some v2 := by
  have a1 : (W.setCell ⟨B, 0, none⟩ v0).cell? ⟨B, 0, none⟩ = some v0 := World.cell?_setCell_same _ _ _ h0
  have a2 : (W.setCell ⟨B, 0, none⟩ v0).cell? ⟨B, 1, none⟩ = some u1 := by rw [World.cell?_setCell_other (h := by simp)]; exact h1
  have a3 : (W.setCell ⟨B, 0, none⟩ v0).cell? ⟨B, 2, none⟩ = some u2 := by rw [World.cell?_setCell_other (h := by simp)]; exact h2
  have b1 : ((W.setCell ⟨B, 0, none⟩ v0).setCell ⟨B, 1, none⟩ v1).cell? ⟨B, 0, none⟩ = some v0 := by rw [World.cell?_setCell_other (h := by simp)]; exact a1
  have b2 : ((W.setCell ⟨B, 0, none⟩ v0).setCell ⟨B, 1, none⟩ v1).cell? ⟨B, 1, none⟩ = some v1 := World.cell?_setCell_same _ _ _ a2
  have b3 : ((W.setCell ⟨B, 0, none⟩ v0).setCell ⟨B, 1, none⟩ v1).cell? ⟨B, 2, none⟩ = some u2 := by rw [World.cell?_setCell_other (h := by simp)]; exact a3
  exact ⟨by rw [World.cell?_setCell_other (h := by simp)]; exact b1, by rw [World.cell?_setCell_other (h := by simp)]; exact b2, World.cell?_setCell_same _ _ _ b3⟩

/-- The result variable's block behind calls. -/
theorem box_kept {W w1 : World} {v0 v1 v2 : Value} (hb : RowKit.Below (W.alloc (.cells #[v0, v1, v2] 136)).heap.size (W.alloc (.cells #[v0, v1, v2] 136)) w1) :
    w1.cell? ⟨W.heap.size, 0, none⟩ = some v0 ∧ w1.cell? ⟨W.heap.size, 1, none⟩ = some v1 ∧ w1.cell? ⟨W.heap.size, 2, none⟩ = some v2 :=
  ⟨by rw [hb.cell (p := ⟨W.heap.size, 0, none⟩) (by simp)]; simp, by rw [hb.cell (p := ⟨W.heap.size, 1, none⟩) (by simp)]; simp, by rw [hb.cell (p := ⟨W.heap.size, 2, none⟩) (by simp)]; simp⟩

theorem ents_length (l : List Ent) : (ents l).length = l.length * 3 := by
  unfold ents
  induction l with
  | nil => rfl
  | cons x l ih => rw [List.flatMap_cons, List.length_append, ih]; simp [enc]; omega
theorem ents_append (A B : List Ent) : ents (A ++ B) = ents A ++ ents B := by simp [ents]
theorem ents_cons (x : Ent) (l : List Ent) : ents (x :: l) = enc x ++ ents l := by simp [ents]

/-- The cells of a list's entry. -/
theorem ents_get : ∀ (l : List Ent) (i c : Nat), i < l.length → c < 3 → (ents l)[i * 3 + c]? = (enc (ent l i))[c]?
  | [], i, c, h, _ => by simp at h
  | x :: l, 0, c, _, hc => by
    rw [ents_cons, Nat.zero_mul, Nat.zero_add, List.getElem?_append_left (by simp [enc]; omega)]
    rfl
  | x :: l, i + 1, c, h, hc => by
    rw [ents_cons, List.getElem?_append_right (by simp [enc]; omega)]
    have := ents_get l i c (by simpa using h) hc
    rw [show (i + 1) * 3 + c - (enc x).length = i * 3 + c by simp [enc]; omega, this]
    rfl

theorem ents_one (l : List Ent) : ∀ u ∈ ents l, u.oneCell' = true := by
  intro u hu
  simp only [ents, List.mem_flatMap] at hu
  obtain ⟨x, _, hx⟩ := hu
  simp [enc] at hx
  rcases hx with rfl | rfl | rfl <;> rfl

theorem entAt_of {w : World} {b o : Nat} {e : Ent} (h : ∀ c, c < 3 → w.cell? ⟨b, o + c, none⟩ = (enc e)[c]?) : EntAt w b o e :=
  ⟨h 0 (by omega), h 1 (by omega), h 2 (by omega)⟩
theorem EntAt.get {w : World} {b o : Nat} {e : Ent} (h : EntAt w b o e) (c : Nat) (hc : c < 3) : w.cell? ⟨b, o + c, none⟩ = (enc e)[c]? := by
  rcases (show c = 0 ∨ c = 1 ∨ c = 2 by omega) with rfl | rfl | rfl
  · exact h.1
  · exact h.2.1
  · exact h.2.2

theorem i24 : (Tryd.prog.info? 136).map (fun i => (i.zero, i.size, i.bytes)) = some (some (.agg #[.string ⟨#[]⟩, .int .u32 0, .bool false]), 3, 24) := by kernel_rfl

/-- A row of the function's own. -/
theorem ents_of_owns {W : World} {base : Nat} {v : Value} {l : List Ent} (h : W.ownsRow base 136 3 v l.length (ents l)) : Ents W v l := by
  rcases h.2 with ⟨rfl, h0⟩ | ⟨g, cap, cur, rfl, _, hg, _, _, _, ht⟩
  · exact ⟨none, 0, by rw [h0], fun i hi => by omega⟩
  · refine ⟨_, cap, rfl, fun i hi => ⟨g, 0, rfl, entAt_of fun c hc => ?_⟩⟩
    have hx := ents_get l i c hi hc
    rw [← ht, List.getElem?_take, if_pos (by omega), Array.getElem?_toList] at hx
    rw [Nat.zero_add]
    show (W.cell? ⟨g, i * 3 + c, none⟩) = _
    rw [← hx]
    have hlt : i * 3 + c < cur.size := by
      have e := ents_get l i c hi hc
      rw [← ht, List.getElem?_take, if_pos (by omega), Array.getElem?_toList] at e
      rcases Nat.lt_or_ge (i * 3 + c) cur.size with h1 | h1
      · exact h1
      · rw [Array.getElem?_eq_none h1, List.getElem?_eq_getElem (by simp [enc]; omega)] at e
        cases e
    simp [World.cell?, hg, hlt]

/-- Cells of a slice, one behind the other. -/
theorem Ents.cells {w : World} {b o n c : Nat} {l : List Ent} (h : Ents w (.slice (some ⟨b, o, none⟩) n c) l) : ∀ j u, (ents l)[j]? = some u → w.cell? ((⟨b, o, none⟩ : Addr).add j) = some u := by
  intro j u hj
  obtain ⟨ad, c', hv, hx⟩ := h
  cases hv
  have hjl : j < l.length * 3 := by have := (List.getElem?_eq_some_iff.1 hj).1; rwa [ents_length] at this
  obtain ⟨b', o', ha, hc⟩ := hx (j / 3) (by omega)
  cases ha
  have e := hc.get (j % 3) (by omega)
  have e2 := ents_get l (j / 3) (j % 3) (by omega) (by omega)
  rw [show j / 3 * 3 + j % 3 = j by omega, hj] at e2
  rw [Addr.add_lit, show o + j = o + j / 3 * 3 + j % 3 by omega, e, e2]

theorem Ents.take {W : World} {ad : Option Addr} {n c m : Nat} {l : List Ent} (h : Ents W (.slice ad n c) l) (hm : m ≤ n) : Ents W (.slice ad m c) (l.take m) := by
  obtain ⟨ad', c', hv, hx⟩ := h
  cases hv
  refine ⟨ad, c, by rw [List.length_take, Nat.min_eq_left hm], fun i hi => ?_⟩
  rw [List.length_take] at hi
  obtain ⟨b, o, ha, hc⟩ := hx i (by omega)
  refine ⟨b, o, ha, ?_⟩
  have : ent (l.take m) i = ent l i := by simp [ent, List.getD, show i < m by omega]
  rw [this]; exact hc

theorem Ents.drop {W : World} {ad : Option Addr} {n c p : Nat} {l : List Ent} (h : Ents W (.slice ad n c) l) (hc : n ≤ c) (hp : p ≤ n) :
    Ents W (.slice (if c = p then ad else Option.map (fun x => x.add (p * 3)) ad) (n - p) (c - p)) (l.drop p) := by
  obtain ⟨ad', c', hv, hx⟩ := h
  cases hv
  refine ⟨_, _, by rw [List.length_drop], fun i hi => ?_⟩
  rw [List.length_drop] at hi
  obtain ⟨b, o, ha, hcell⟩ := hx (p + i) (by omega)
  refine ⟨b, o + p * 3, ?_, ?_⟩
  · rw [if_neg (by omega), ha]
    simp only [Option.map_some]
    rw [Addr.add_lit]
  · have : ent (l.drop p) i = ent l (p + i) := by simp [ent, List.getD]
    rw [this, show o + p * 3 + i * 3 = o + (p + i) * 3 by omega]
    exact hcell

theorem run_append_nilE (W : World) (base : Nat) (v : Value) (n c : Nat) (xs : List Value) (hown : W.ownsRow base 136 3 v n xs) :
    (Builtin.append_ #[69, 69] 69 #[v, .slice none 0 c]).run Tryd.prog W = .ok v W := by
  obtain ⟨i0, hi, _, _, _⟩ := info_parts i24
  rcases hown.2 with ⟨rfl, rfl⟩ | ⟨g, cap, cur, rfl, _, _, hnc, _⟩
  · simp [Builtin.append_, run_underlying Tryd.underlying69, sizeOf, typeInfo, hi, Builtin.lenOf, Builtin.firstCells]
  · simp [Builtin.append_, run_underlying Tryd.underlying69, sizeOf, typeInfo, hi, Builtin.lenOf, Builtin.firstCells, hnc, storeCells]

theorem run_append_ents (W : World) (base : Nat) (v sl : Value) (A B : List Ent) (hown : W.ownsRow base 136 3 v A.length (ents A)) (hB : Ents W sl B) (hlen : A.length + B.length ≤ 1000000) (hb : base ≤ W.heap.size) :
    ∃ v' W', (Builtin.append_ #[69, 69] 69 #[v, sl]).run Tryd.prog W = .ok v' W' ∧ W'.ownsRow base 136 3 v' (A ++ B).length (ents (A ++ B)) ∧ W.grownBy W' v.ownBlock := by
  obtain ⟨i0, hi, hz0, hz1, hz2⟩ := info_parts i24
  obtain ⟨ad, c, rfl, hx⟩ := id hB
  cases ad with
  | none =>
    have h0 : B = [] := by
      cases B with
      | nil => rfl
      | cons y B =>
        obtain ⟨b, o, h, _⟩ := hx 0 (by simp)
        cases h
    subst h0
    exact ⟨v, W, run_append_nilE W base v A.length c (ents A) hown, by simpa using hown, ⟨rfl, rfl, rfl, Nat.le_refl _, fun _ _ _ => rfl⟩⟩
  | some a =>
    have hsp : ∃ b o, a = ⟨b, o, none⟩ ∨ B = [] := by
      cases B with
      | nil => exact ⟨0, 0, .inr rfl⟩
      | cons y B =>
        obtain ⟨b, o, h, _⟩ := hx 0 (by simp)
        cases h
        exact ⟨b, o, .inl rfl⟩
    obtain ⟨b, o, hs⟩ := hsp
    have hnews : ∀ j u, (ents B)[j]? = some u → W.cell? (a.add j) = some u := by
      rcases hs with rfl | rfl
      · exact hB.cells
      · intro j u hj; simp [ents] at hj
    obtain ⟨v', W', h1, h2, h3, _⟩ := run_append_own (P := Tryd.prog) W base 69 69 136 i0 (.agg #[.string ⟨#[]⟩, .int .u32 0, .bool false]) 3 24 Tryd.underlying69 hi hz0 hz1 hz2 rfl (by decide) v A.length (ents A) hown a B.length c (ents B) (ents_length B) hnews (ents_one B) (by unfold maxLen; omega) (by omega) hb
    exact ⟨v', W', h1, by rw [List.length_append, ents_append]; exact h2, h3⟩

/-- append, where the order is the text's. -/
theorem wpList_append_ents {w : World} {ops : Array Oper} {rest : List Oper} {o : Oper} {a : Act} {Q : Exit → Act → World → Prop} (hgd : o.guard = none) (s x : Operand)
    (hop : o.op = Op.call { callee := Callee.builtin Builtin.append, args := #[s, x], argTypes := #[69, 69] }) (ht : o.type = 69) (base : Nat) (v sl : Value) (A B : List Ent)
    (hs : a.eval s = v) (hx : a.eval x = sl) (hown : w.ownsRow base 136 3 v A.length (ents A)) (hB : Ents w sl B) (hlen : A.length + B.length ≤ 1000000) (hbase : base ≤ w.heap.size)
    (h : ∀ v' w', w'.ownsRow base 136 3 v' (A ++ B).length (ents (A ++ B)) → w.grownBy w' v.ownBlock → wpList Tryd.prog ops Q rest (a.put o.dst v') w') : wpList Tryd.prog ops Q (o :: rest) a w := by
  obtain ⟨v', w1, h1, h2, h3⟩ := run_append_ents w base v sl A B hown hB hlen hbase
  refine wpList_plain hgd fun _ hK => ?_
  unfold Oper.wp execOp
  simp only [hop, ht, resolve, invoke, builtin, Sem.run_bind, Sem.run_pure, Result.andThen_ok, List.map_toArray, List.map_cons, List.map_nil, hs, hx, h1]
  exact hK _ _ (h v' w1 h2 h3)

/-- append, as a step of a region that draws its order. -/
theorem step_append_ents {ops : Array Oper} {o : Oper} {a : Act} {w0 w : World} {K : Act → World → Prop} {Q : Exit → Act → World → Prop} {E : Prop}
    (hg : o.guard = none) (s x : Operand) (hop : o.op = Op.call { callee := Callee.builtin Builtin.append, args := #[s, x], argTypes := #[69, 69] }) (ht : o.type = 69) (v sl : Value) (A B : List Ent)
    (hs : a.eval s = v) (hx : a.eval x = sl) (hbel : RowKit.Below w0.heap.size w0 w) (hown : w.ownsRow w0.heap.size 136 3 v A.length (ents A)) (hsrc : Ents w sl B) (hlen : A.length + B.length ≤ 1000000)
    (hK : ∀ v' w1, w1.ownsRow w0.heap.size 136 3 v' (A ++ B).length (ents (A ++ B)) → w.grownBy w1 v.ownBlock → RowKit.Below w0.heap.size w0 w1 → K (a.put o.dst v') w1) :
    if Region.wanted o (yielded ops a.tmps) = true then Oper.wp Tryd.prog o a w K Q else E := by
  obtain ⟨v', w1, h1, h2, h3⟩ := run_append_ents w w0.heap.size v sl A B hown hsrc hlen hbel.size
  have hw : Region.wanted o (yielded ops a.tmps) = true := by simp [Region.wanted, hg]
  rw [if_pos hw]
  unfold Oper.wp execOp
  simp only [hop, ht, resolve, invoke, builtin, Sem.run_bind, Sem.run_pure, Result.andThen_ok, List.map_toArray, List.map_cons, List.map_nil, hs, hx, h1]
  exact hK v' w1 h2 h3 (hbel.grown h3 hbel.size (fun k hk => (hown.lt k hk).1))

theorem below_alloc' {w0 w : World} {o : Obj} (h : RowKit.Below w0.heap.size w0 w) : RowKit.Below w0.heap.size w0 (w.alloc o) := h.alloc h.size _
theorem below_drew' {w0 w : World} (h : RowKit.Below w0.heap.size w0 w) : RowKit.Below w0.heap.size w0 w.drew := h.drew
theorem ownsE_drew' {w : World} {base n : Nat} {v : Value} {xs : List Value} (h : w.ownsRow base 136 3 v n xs) : w.drew.ownsRow base 136 3 v n xs := h
theorem ents_drew' {w : World} {v : Value} {B : List Ent} (h : Ents w v B) : Ents w.drew v B := h
theorem ents_alloc' {w : World} {v : Value} {B : List Ent} {o : Obj} (h : Ents w v B) : Ents (w.alloc o) v B := h.below (below_alloc w o)

theorem ownsE_nil (w : World) (base : Nat) : w.ownsRow base 136 3 (.slice none 0 0) ([] : List Ent).length (ents []) := World.ownsRow_nil w base 136 3

/-- Rows just written out. -/
theorem ents_lit (l : List Ent) (W : World) : Ents (W.alloc (.cells (ents l).toArray 136)) (.slice (some ⟨W.heap.size, 0, none⟩) l.length l.length) l := by
  refine ⟨_, _, rfl, fun i hi => ⟨_, _, rfl, entAt_of fun c hc => ?_⟩⟩
  rw [World.cell?_alloc_at (hn := rfl), Nat.zero_add, ← ents_get l i c hi hc]
  simp

/-- A row of one entry. -/
theorem ents_single {w : World} {x : Ent} {g : Nat} (hg : g = w.heap.size) : Ents (w.alloc (.cells #[.string x.word, .int .u32 (x.weight : Int), .bool x.gone] 136)) (.slice (some ⟨g, 0, none⟩) 1 1) [x] := by
  subst hg
  exact ents_lit [x] w

/-- What lies in another block than the one that is turned. -/
theorem Ents.grown {w w' : World} {ad : Option Addr} {n c : Nat} {l : List Ent} {row : Option Nat} (h : Ents w (.slice ad n c) l) (hg : w.grownBy w' row) (hne : ∀ a, ad = some a → some a.block ≠ row) : Ents w' (.slice ad n c) l := by
  obtain ⟨ad', c', hv, hx⟩ := h
  cases hv
  refine ⟨_, _, rfl, fun i hi => ?_⟩
  obtain ⟨b, o, ha, hcell⟩ := hx i hi
  cases ha
  refine ⟨_, _, rfl, entAt_of fun k hk => ?_⟩
  have := hcell.get k hk
  rw [World.cell?_of_block (a := ⟨b, o + i * 3 + k, none⟩) (hg.block b (block_lt_of_cell hcell.1) (hne _ rfl))]
  exact this

/-- A slice of entries, with its room. -/
def RowE (w : World) (v : Value) (l : List Ent) : Prop := ∃ ad c, v = .slice ad l.length c ∧ l.length ≤ c ∧ c ≤ 9223372036854775807 ∧ Ents w (.slice ad l.length c) l ∧ ∀ g o, ad = some ⟨g, o, none⟩ → ∃ cs fz, w.heap[g]? = some (.cells cs 136 fz)

theorem RowE.below {w w' : World} {v : Value} {l : List Ent} (h : RowE w v l) (hb : RowKit.Below w.heap.size w w') : RowE w' v l := by
  obtain ⟨ad, c, hv, h1, h2, h3, h4⟩ := h
  exact ⟨ad, c, hv, h1, h2, h3.below hb, fun g o e => by
    obtain ⟨cs, fz, h5⟩ := h4 g o e
    exact ⟨cs, fz, (hb.block g (Array.getElem?_eq_some_iff.1 h5).1).trans h5⟩⟩
theorem RowE.ents {w : World} {v : Value} {l : List Ent} (h : RowE w v l) : Ents w v l := by
  obtain ⟨ad, c, rfl, _, _, h3, _⟩ := h
  exact h3
theorem rowE_owns {W : World} {base : Nat} {v : Value} {l : List Ent} (h : W.ownsRow base 136 3 v l.length (ents l)) : RowE W v l := by
  have hs := ents_of_owns h
  rcases h.2 with ⟨rfl, h0⟩ | ⟨g, cap, cur, rfl, _, hg, h1, h2, _⟩
  · exact ⟨none, 0, by rw [h0], by omega, by omega, by rw [h0]; exact hs, fun g o e => by cases e⟩
  · exact ⟨_, cap, rfl, h1, by unfold maxLen at h2; exact h2, hs, fun g' o e => by
      injection e with e
      injection e with e1 e2 e3
      subst e1
      exact ⟨cur, (0, 0), hg⟩⟩

end Go.Proofs.YtjiilmiikejnhaaDoor.Ev

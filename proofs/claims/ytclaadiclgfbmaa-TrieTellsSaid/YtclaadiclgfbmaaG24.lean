/-
  A slice of entries, as a list of entries. What an entry says, and the entry that says so. The entries under a beginning. A trie in memory; what is got from it. How many entries and bytes a put makes.
-/
import Derived.Test.YtclaadiclgfbmaaG03
import Derived.Test.YtclaadiclgfbmaaG23
import Derived.Deep.RegionLaw
import Derived.Laws.OwnMore
import Derived.Laws.AppendOwn
import Derived.Laws.StructEq
set_option linter.unusedVariables false
set_option linter.unusedSimpArgs false
namespace Go.Proofs.Ytclaadiclgfbmaa
open Go.RowKit Go.Shelf

/-- Entries as cells. -/
def ents (l : List Ent) : List Value := l.flatMap enc

/-- An entry lies there. -/
def EntAt (w : World) (b o : Nat) (e : Ent) : Prop :=
  w.cell? ⟨b, o, none⟩ = some (.string e.word) ∧ w.cell? ⟨b, o + 1, none⟩ = some (.int .u32 (e.weight : Int)) ∧ w.cell? ⟨b, o + 2, none⟩ = some (.bool e.gone)

/-- The list's entry at a place. -/
def ent (l : List Ent) (i : Nat) : Ent := l.getD i default

theorem ent_lt {l : List Ent} {i : Nat} (h : i < l.length) : ent l i = l[i] := by simp [ent, List.getD, h]
theorem ent_mem {l : List Ent} {i : Nat} (h : i < l.length) : ent l i ∈ l := by rw [ent_lt h]; exact List.getElem_mem h

/-- v is a slice that holds these entries. -/
def Ents (w : World) (v : Value) (l : List Ent) : Prop :=
  ∃ ad c, v = .slice ad l.length c ∧ ∀ i, i < l.length → ∃ b o, ad = some ⟨b, o, none⟩ ∧ EntAt w b (o + i * 3) (ent l i)

theorem EntAt.below {w w' : World} {b o : Nat} {e : Ent} (h : EntAt w b o e) (hb : RowKit.Below w.heap.size w w') : EntAt w' b o e := by
  obtain ⟨h1, h2, h3⟩ := h
  refine ⟨?_, ?_, ?_⟩
  · rw [hb.cell (p := ⟨b, o, none⟩) (block_lt_of_cell h1)]; exact h1
  · rw [hb.cell (p := ⟨b, o + 1, none⟩) (block_lt_of_cell h2)]; exact h2
  · rw [hb.cell (p := ⟨b, o + 2, none⟩) (block_lt_of_cell h3)]; exact h3

theorem Ents.below {w w' : World} {v : Value} {l : List Ent} (h : Ents w v l) (hb : RowKit.Below w.heap.size w w') : Ents w' v l := by
  obtain ⟨ad, c, hv, hc⟩ := h
  refine ⟨ad, c, hv, fun i hi => ?_⟩
  obtain ⟨b, o, ha, hci⟩ := hc i hi
  exact ⟨b, o, ha, hci.below hb⟩

theorem ents_nil (W : World) : Ents W (.slice none 0 0) [] := ⟨none, 0, rfl, fun i hi => by simp at hi⟩

theorem ents_cell {w : World} {v : Value} {l : List Ent} (h : Ents w v l) : ∃ ad c, v = .slice ad l.length c ∧ ∀ i, i < l.length → ∃ b o, ad = some ⟨b, o, none⟩ ∧ EntAt w b (o + i * 3) (ent l i) := h

theorem below_alloc (w : World) (o : Obj) : RowKit.Below w.heap.size w (w.alloc o) := (RowKit.Below.refl _ w).alloc (Nat.le_refl _) o

/-- Below the size all is as it was. -/
theorem bcell {W w1 : World} (hb : RowKit.Below W.heap.size W w1) : (∀ b o, b < W.heap.size → w1.cell? ⟨b, o, none⟩ = W.cell? ⟨b, o, none⟩) ∧ (∀ b o, b < W.heap.size → w1.frozen? ⟨b, o, none⟩ = W.frozen? ⟨b, o, none⟩) :=
  ⟨fun b o h => hb.cell (p := ⟨b, o, none⟩) h, fun b o h => hb.frozen (p := ⟨b, o, none⟩) h⟩

/-- An entry stored into a block of its own. -/
theorem set3 {W : World} {B : Nat} {u0 u1 u2 : Value} (h0 : W.cell? ⟨B, 0, none⟩ = some u0) (h1 : W.cell? ⟨B, 1, none⟩ = some u1) (h2 : W.cell? ⟨B, 2, none⟩ = some u2) (v0 v1 v2 : Value) :
    (((W.setCell ⟨B, 0, none⟩ v0).setCell ⟨B, 1, none⟩ v1).setCell ⟨B, 2, none⟩ v2).cell? ⟨B, 0, none⟩ = some v0 ∧
    (((W.setCell ⟨B, 0, none⟩ v0).setCell ⟨B, 1, none⟩ v1).setCell ⟨B, 2, none⟩ v2).cell? ⟨B, 1, none⟩ = some v1 ∧
    (((W.setCell ⟨B, 0, none⟩ v0).setCell ⟨B, 1, none⟩ v1).setCell ⟨B, 2, none⟩ v2).cell? ⟨B, 2, none⟩ = some v2 := by
  have a1 : (W.setCell ⟨B, 0, none⟩ v0).cell? ⟨B, 0, none⟩ = some v0 := World.cell?_setCell_same _ _ _ h0
  have a2 : (W.setCell ⟨B, 0, none⟩ v0).cell? ⟨B, 1, none⟩ = some u1 := by rw [World.cell?_setCell_other (h := by simp)]; exact h1
  have a3 : (W.setCell ⟨B, 0, none⟩ v0).cell? ⟨B, 2, none⟩ = some u2 := by rw [World.cell?_setCell_other (h := by simp)]; exact h2
  have b1 : ((W.setCell ⟨B, 0, none⟩ v0).setCell ⟨B, 1, none⟩ v1).cell? ⟨B, 0, none⟩ = some v0 := by rw [World.cell?_setCell_other (h := by simp)]; exact a1
  have b2 : ((W.setCell ⟨B, 0, none⟩ v0).setCell ⟨B, 1, none⟩ v1).cell? ⟨B, 1, none⟩ = some v1 := World.cell?_setCell_same _ _ _ a2
  have b3 : ((W.setCell ⟨B, 0, none⟩ v0).setCell ⟨B, 1, none⟩ v1).cell? ⟨B, 2, none⟩ = some u2 := by rw [World.cell?_setCell_other (h := by simp)]; exact a3
  exact ⟨by rw [World.cell?_setCell_other (h := by simp)]; exact b1, by rw [World.cell?_setCell_other (h := by simp)]; exact b2, World.cell?_setCell_same _ _ _ b3⟩

/-- The result variable's block behind calls. -/
theorem box_kept {W w1 : World} {v0 v1 v2 : Value} (hb : RowKit.Below (W.alloc (.cells #[v0, v1, v2] 33)).heap.size (W.alloc (.cells #[v0, v1, v2] 33)) w1) :
    w1.cell? ⟨W.heap.size, 0, none⟩ = some v0 ∧ w1.cell? ⟨W.heap.size, 1, none⟩ = some v1 ∧ w1.cell? ⟨W.heap.size, 2, none⟩ = some v2 :=
  ⟨by rw [hb.cell (p := ⟨W.heap.size, 0, none⟩) (by simp)]; simp, by rw [hb.cell (p := ⟨W.heap.size, 1, none⟩) (by simp)]; simp, by rw [hb.cell (p := ⟨W.heap.size, 2, none⟩) (by simp)]; simp⟩

theorem ents_length (l : List Ent) : (ents l).length = l.length * 3 := by
  unfold ents
  induction l with
  | nil => rfl
  | cons x l ih => rw [List.flatMap_cons, List.length_append, ih]; simp [enc]; omega
theorem ents_append (A B : List Ent) : ents (A ++ B) = ents A ++ ents B := by simp [ents]
theorem ents_cons (x : Ent) (l : List Ent) : ents (x :: l) = enc x ++ ents l := by simp [ents]

/-- The cells of a list's entry. -/
theorem ents_get : ∀ (l : List Ent) (i c : Nat), i < l.length → c < 3 → (ents l)[i * 3 + c]? = (enc (ent l i))[c]?
  | [], i, c, h, _ => by simp at h
  | x :: l, 0, c, _, hc => by
    rw [ents_cons, Nat.zero_mul, Nat.zero_add, List.getElem?_append_left (by simp [enc]; omega)]
    rfl
  | x :: l, i + 1, c, h, hc => by
    rw [ents_cons, List.getElem?_append_right (by simp [enc]; omega)]
    have := ents_get l i c (by simpa using h) hc
    rw [show (i + 1) * 3 + c - (enc x).length = i * 3 + c by simp [enc]; omega, this]
    rfl

theorem ents_one (l : List Ent) : ∀ u ∈ ents l, u.oneCell' = true := by
  intro u hu
  simp only [ents, List.mem_flatMap] at hu
  obtain ⟨x, _, hx⟩ := hu
  simp [enc] at hx
  rcases hx with rfl | rfl | rfl <;> rfl

theorem entAt_of {w : World} {b o : Nat} {e : Ent} (h : ∀ c, c < 3 → w.cell? ⟨b, o + c, none⟩ = (enc e)[c]?) : EntAt w b o e :=
  ⟨h 0 (by omega), h 1 (by omega), h 2 (by omega)⟩
theorem EntAt.get {w : World} {b o : Nat} {e : Ent} (h : EntAt w b o e) (c : Nat) (hc : c < 3) : w.cell? ⟨b, o + c, none⟩ = (enc e)[c]? := by
  rcases (show c = 0 ∨ c = 1 ∨ c = 2 by omega) with rfl | rfl | rfl
  · exact h.1
  · exact h.2.1
  · exact h.2.2

theorem i24 : (Try.prog.info? 33).map (fun i => (i.zero, i.size, i.bytes)) = some (some (.agg #[.string ⟨#[]⟩, .int .u32 0, .bool false]), 3, 24) := by kernel_rfl

/-- A row of the function's own. -/
theorem ents_of_owns {W : World} {base : Nat} {v : Value} {l : List Ent} (h : W.ownsRow base 33 3 v l.length (ents l)) : Ents W v l := by
  rcases h.2 with ⟨rfl, h0⟩ | ⟨g, cap, cur, rfl, _, hg, _, _, _, ht⟩
  · exact ⟨none, 0, by rw [h0], fun i hi => by omega⟩
  · refine ⟨_, cap, rfl, fun i hi => ⟨g, 0, rfl, entAt_of fun c hc => ?_⟩⟩
    have hx := ents_get l i c hi hc
    rw [← ht, List.getElem?_take, if_pos (by omega), Array.getElem?_toList] at hx
    rw [Nat.zero_add]
    show (W.cell? ⟨g, i * 3 + c, none⟩) = _
    rw [← hx]
    have hlt : i * 3 + c < cur.size := by
      have e := ents_get l i c hi hc
      rw [← ht, List.getElem?_take, if_pos (by omega), Array.getElem?_toList] at e
      rcases Nat.lt_or_ge (i * 3 + c) cur.size with h1 | h1
      · exact h1
      · rw [Array.getElem?_eq_none h1, List.getElem?_eq_getElem (by simp [enc]; omega)] at e
        cases e
    simp [World.cell?, hg, hlt]

/-- Cells of a slice, one behind the other. -/
theorem Ents.cells {w : World} {b o n c : Nat} {l : List Ent} (h : Ents w (.slice (some ⟨b, o, none⟩) n c) l) : ∀ j u, (ents l)[j]? = some u → w.cell? ((⟨b, o, none⟩ : Addr).add j) = some u := by
  intro j u hj
  obtain ⟨ad, c', hv, hx⟩ := h
  cases hv
  have hjl : j < l.length * 3 := by have := (List.getElem?_eq_some_iff.1 hj).1; rwa [ents_length] at this
  obtain ⟨b', o', ha, hc⟩ := hx (j / 3) (by omega)
  cases ha
  have e := hc.get (j % 3) (by omega)
  have e2 := ents_get l (j / 3) (j % 3) (by omega) (by omega)
  rw [show j / 3 * 3 + j % 3 = j by omega, hj] at e2
  rw [Addr.add_lit, show o + j = o + j / 3 * 3 + j % 3 by omega, e, e2]

theorem Ents.take {W : World} {ad : Option Addr} {n c m : Nat} {l : List Ent} (h : Ents W (.slice ad n c) l) (hm : m ≤ n) : Ents W (.slice ad m c) (l.take m) := by
  obtain ⟨ad', c', hv, hx⟩ := h
  cases hv
  refine ⟨ad, c, by rw [List.length_take, Nat.min_eq_left hm], fun i hi => ?_⟩
  rw [List.length_take] at hi
  obtain ⟨b, o, ha, hc⟩ := hx i (by omega)
  refine ⟨b, o, ha, ?_⟩
  have : ent (l.take m) i = ent l i := by simp [ent, List.getD, show i < m by omega]
  rw [this]; exact hc

theorem Ents.drop {W : World} {ad : Option Addr} {n c p : Nat} {l : List Ent} (h : Ents W (.slice ad n c) l) (hc : n ≤ c) (hp : p ≤ n) :
    Ents W (.slice (if c = p then ad else Option.map (fun x => x.add (p * 3)) ad) (n - p) (c - p)) (l.drop p) := by
  obtain ⟨ad', c', hv, hx⟩ := h
  cases hv
  refine ⟨_, _, by rw [List.length_drop], fun i hi => ?_⟩
  rw [List.length_drop] at hi
  obtain ⟨b, o, ha, hcell⟩ := hx (p + i) (by omega)
  refine ⟨b, o + p * 3, ?_, ?_⟩
  · rw [if_neg (by omega), ha]
    simp only [Option.map_some]
    rw [Addr.add_lit]
  · have : ent (l.drop p) i = ent l (p + i) := by simp [ent, List.getD]
    rw [this, show o + p * 3 + i * 3 = o + (p + i) * 3 by omega]
    exact hcell

theorem run_append_nilE (W : World) (base : Nat) (v : Value) (n c : Nat) (xs : List Value) (hown : W.ownsRow base 33 3 v n xs) :
    (Builtin.append_ #[22, 22] 22 #[v, .slice none 0 c]).run Try.prog W = .ok v W := by
  obtain ⟨i0, hi, _, _, _⟩ := info_parts i24
  rcases hown.2 with ⟨rfl, rfl⟩ | ⟨g, cap, cur, rfl, _, _, hnc, _⟩
  · simp [Builtin.append_, run_underlying Try.underlying22, sizeOf, typeInfo, hi, Builtin.lenOf, Builtin.firstCells]
  · simp [Builtin.append_, run_underlying Try.underlying22, sizeOf, typeInfo, hi, Builtin.lenOf, Builtin.firstCells, hnc, storeCells]

theorem run_append_ents (W : World) (base : Nat) (v sl : Value) (A B : List Ent) (hown : W.ownsRow base 33 3 v A.length (ents A)) (hB : Ents W sl B) (hlen : A.length + B.length ≤ 1000000) (hb : base ≤ W.heap.size) :
    ∃ v' W', (Builtin.append_ #[22, 22] 22 #[v, sl]).run Try.prog W = .ok v' W' ∧ W'.ownsRow base 33 3 v' (A ++ B).length (ents (A ++ B)) ∧ W.grownBy W' v.ownBlock := by
  obtain ⟨i0, hi, hz0, hz1, hz2⟩ := info_parts i24
  obtain ⟨ad, c, rfl, hx⟩ := id hB
  cases ad with
  | none =>
    have h0 : B = [] := by
      cases B with
      | nil => rfl
      | cons y B =>
        obtain ⟨b, o, h, _⟩ := hx 0 (by simp)
        cases h
    subst h0
    exact ⟨v, W, run_append_nilE W base v A.length c (ents A) hown, by simpa using hown, ⟨rfl, rfl, rfl, Nat.le_refl _, fun _ _ _ => rfl⟩⟩
  | some a =>
    have hsp : ∃ b o, a = ⟨b, o, none⟩ ∨ B = [] := by
      cases B with
      | nil => exact ⟨0, 0, .inr rfl⟩
      | cons y B =>
        obtain ⟨b, o, h, _⟩ := hx 0 (by simp)
        cases h
        exact ⟨b, o, .inl rfl⟩
    obtain ⟨b, o, hs⟩ := hsp
    have hnews : ∀ j u, (ents B)[j]? = some u → W.cell? (a.add j) = some u := by
      rcases hs with rfl | rfl
      · exact hB.cells
      · intro j u hj; simp [ents] at hj
    obtain ⟨v', W', h1, h2, h3, _⟩ := run_append_own (P := Try.prog) W base 22 22 33 i0 (.agg #[.string ⟨#[]⟩, .int .u32 0, .bool false]) 3 24 Try.underlying22 hi hz0 hz1 hz2 rfl (by decide) v A.length (ents A) hown a B.length c (ents B) (ents_length B) hnews (ents_one B) (by unfold maxLen; omega) (by omega) hb
    exact ⟨v', W', h1, by rw [List.length_append, ents_append]; exact h2, h3⟩

/-- append, where the order is the text's. -/
theorem wpList_append_ents {w : World} {ops : Array Oper} {rest : List Oper} {o : Oper} {a : Act} {Q : Exit → Act → World → Prop} (hgd : o.guard = none) (s x : Operand)
    (hop : o.op = Op.call { callee := Callee.builtin Builtin.append, args := #[s, x], argTypes := #[22, 22] }) (ht : o.type = 22) (base : Nat) (v sl : Value) (A B : List Ent)
    (hs : a.eval s = v) (hx : a.eval x = sl) (hown : w.ownsRow base 33 3 v A.length (ents A)) (hB : Ents w sl B) (hlen : A.length + B.length ≤ 1000000) (hbase : base ≤ w.heap.size)
    (h : ∀ v' w', w'.ownsRow base 33 3 v' (A ++ B).length (ents (A ++ B)) → w.grownBy w' v.ownBlock → wpList Try.prog ops Q rest (a.put o.dst v') w') : wpList Try.prog ops Q (o :: rest) a w := by
  obtain ⟨v', w1, h1, h2, h3⟩ := run_append_ents w base v sl A B hown hB hlen hbase
  refine wpList_plain hgd fun _ hK => ?_
  unfold Oper.wp execOp
  simp only [hop, ht, resolve, invoke, builtin, Sem.run_bind, Sem.run_pure, Result.andThen_ok, List.map_toArray, List.map_cons, List.map_nil, hs, hx, h1]
  exact hK _ _ (h v' w1 h2 h3)

/-- append, as a step of a region that draws its order. -/
theorem step_append_ents {ops : Array Oper} {o : Oper} {a : Act} {w0 w : World} {K : Act → World → Prop} {Q : Exit → Act → World → Prop} {E : Prop}
    (hg : o.guard = none) (s x : Operand) (hop : o.op = Op.call { callee := Callee.builtin Builtin.append, args := #[s, x], argTypes := #[22, 22] }) (ht : o.type = 22) (v sl : Value) (A B : List Ent)
    (hs : a.eval s = v) (hx : a.eval x = sl) (hbel : RowKit.Below w0.heap.size w0 w) (hown : w.ownsRow w0.heap.size 33 3 v A.length (ents A)) (hsrc : Ents w sl B) (hlen : A.length + B.length ≤ 1000000)
    (hK : ∀ v' w1, w1.ownsRow w0.heap.size 33 3 v' (A ++ B).length (ents (A ++ B)) → w.grownBy w1 v.ownBlock → RowKit.Below w0.heap.size w0 w1 → K (a.put o.dst v') w1) :
    if Region.wanted o (yielded ops a.tmps) = true then Oper.wp Try.prog o a w K Q else E := by
  obtain ⟨v', w1, h1, h2, h3⟩ := run_append_ents w w0.heap.size v sl A B hown hsrc hlen hbel.size
  have hw : Region.wanted o (yielded ops a.tmps) = true := by simp [Region.wanted, hg]
  rw [if_pos hw]
  unfold Oper.wp execOp
  simp only [hop, ht, resolve, invoke, builtin, Sem.run_bind, Sem.run_pure, Result.andThen_ok, List.map_toArray, List.map_cons, List.map_nil, hs, hx, h1]
  exact hK v' w1 h2 h3 (hbel.grown h3 hbel.size (fun k hk => (hown.lt k hk).1))

theorem below_alloc' {w0 w : World} {o : Obj} (h : RowKit.Below w0.heap.size w0 w) : RowKit.Below w0.heap.size w0 (w.alloc o) := h.alloc h.size _
theorem below_drew' {w0 w : World} (h : RowKit.Below w0.heap.size w0 w) : RowKit.Below w0.heap.size w0 w.drew := h.drew
theorem ownsE_drew' {w : World} {base n : Nat} {v : Value} {xs : List Value} (h : w.ownsRow base 33 3 v n xs) : w.drew.ownsRow base 33 3 v n xs := h
theorem ents_drew' {w : World} {v : Value} {B : List Ent} (h : Ents w v B) : Ents w.drew v B := h
theorem ents_alloc' {w : World} {v : Value} {B : List Ent} {o : Obj} (h : Ents w v B) : Ents (w.alloc o) v B := h.below (below_alloc w o)

theorem ownsE_nil (w : World) (base : Nat) : w.ownsRow base 33 3 (.slice none 0 0) ([] : List Ent).length (ents []) := World.ownsRow_nil w base 33 3

/-- Rows just written out. -/
theorem ents_lit (l : List Ent) (W : World) : Ents (W.alloc (.cells (ents l).toArray 33)) (.slice (some ⟨W.heap.size, 0, none⟩) l.length l.length) l := by
  refine ⟨_, _, rfl, fun i hi => ⟨_, _, rfl, entAt_of fun c hc => ?_⟩⟩
  rw [World.cell?_alloc_at (hn := rfl), Nat.zero_add, ← ents_get l i c hi hc]
  simp

/-- A row of one entry. -/
theorem ents_single {w : World} {x : Ent} {g : Nat} (hg : g = w.heap.size) : Ents (w.alloc (.cells #[.string x.word, .int .u32 (x.weight : Int), .bool x.gone] 33)) (.slice (some ⟨g, 0, none⟩) 1 1) [x] := by
  subst hg
  exact ents_lit [x] w

/-- What lies in another block than the one that is turned. -/
theorem Ents.grown {w w' : World} {ad : Option Addr} {n c : Nat} {l : List Ent} {row : Option Nat} (h : Ents w (.slice ad n c) l) (hg : w.grownBy w' row) (hne : ∀ a, ad = some a → some a.block ≠ row) : Ents w' (.slice ad n c) l := by
  obtain ⟨ad', c', hv, hx⟩ := h
  cases hv
  refine ⟨_, _, rfl, fun i hi => ?_⟩
  obtain ⟨b, o, ha, hcell⟩ := hx i hi
  cases ha
  refine ⟨_, _, rfl, entAt_of fun k hk => ?_⟩
  have := hcell.get k hk
  rw [World.cell?_of_block (a := ⟨b, o + i * 3 + k, none⟩) (hg.block b (block_lt_of_cell hcell.1) (hne _ rfl))]
  exact this

/-- A slice of entries, with its room. -/
def RowE (w : World) (v : Value) (l : List Ent) : Prop := ∃ ad c, v = .slice ad l.length c ∧ l.length ≤ c ∧ c ≤ 9223372036854775807 ∧ Ents w (.slice ad l.length c) l

theorem RowE.below {w w' : World} {v : Value} {l : List Ent} (h : RowE w v l) (hb : RowKit.Below w.heap.size w w') : RowE w' v l := by
  obtain ⟨ad, c, hv, h1, h2, h3⟩ := h
  exact ⟨ad, c, hv, h1, h2, h3.below hb⟩
theorem RowE.ents {w : World} {v : Value} {l : List Ent} (h : RowE w v l) : Ents w v l := by
  obtain ⟨ad, c, rfl, _, _, h3⟩ := h
  exact h3
theorem rowE_nil (w : World) : RowE w (.slice none 0 0) [] := ⟨none, 0, rfl, by simp, by omega, ents_nil w⟩
theorem rowE_owns {W : World} {base : Nat} {v : Value} {l : List Ent} (h : W.ownsRow base 33 3 v l.length (ents l)) : RowE W v l := by
  have hs := ents_of_owns h
  rcases h.2 with ⟨rfl, h0⟩ | ⟨g, cap, cur, rfl, _, _, h1, h2, _⟩
  · exact ⟨none, 0, by rw [h0], by omega, by omega, by rw [h0]; exact hs⟩
  · exact ⟨_, cap, rfl, h1, by unfold maxLen at h2; exact h2, hs⟩
theorem rowE_lit (l : List Ent) (hl : l.length ≤ 1000) (W : World) : RowE (W.alloc (.cells (ents l).toArray 33)) (.slice (some ⟨W.heap.size, 0, none⟩) l.length l.length) l :=
  ⟨_, _, rfl, Nat.le_refl _, by omega, ents_lit l W⟩

end Go.Proofs.Ytclaadiclgfbmaa
namespace Go.Proofs.Ytclaadiclgfbmaa
open Go.RowKit Go.Shelf

set_option maxHeartbeats 1000000 in
theorem entry_any (wt : Nat) (g i : Bool) (s : ByteArray) (w : World) :
    Calls Try.prog 81 #[.agg #[.int .u32 (wt : Int), .bool g, .bool i], .string s] w fun e w' => e = .returned (.agg #[.string s, .int .u32 (wt : Int), .bool g]) ∧ Below w.heap.size w w' := by
  go_enter Try.func81, Try.ntmps81
  go_wp2
  exact bodyPost_ret (v := .agg #[.string s, .int .u32 (wt : Int), .bool g]) (by simp [results, Try.results81, go_sem]) rfl ⟨rfl, ((Below.refl _ w).alloc (Nat.le_refl _) _).alloc (by simp) _⟩

/-- What is said of an entry's word. -/
def saidE (e : Ent) : Nat × Bool := if e.gone then (0, true) else (e.weight, false)

set_option maxHeartbeats 1000000 in
theorem valueOf_any (x : Ent) (w : World) :
    Calls Try.prog 76 #[.agg #[.string x.word, .int .u32 (x.weight : Int), .bool x.gone]] w fun e w' => e = .returned (valV (saidE x)) ∧ Below w.heap.size w w' := by
  unfold saidE
  cases hg : x.gone
  · go_enter Try.func76, Try.ntmps76
    go_wp2
    exact bodyPost_ret (v := .agg #[.int .u32 (x.weight : Int), .bool false, .bool true]) (by simp [results, Try.results76, go_sem]) rfl ⟨rfl, ((Below.refl _ w).alloc (Nat.le_refl _) _).alloc (by simp) _⟩
  · go_enter Try.func76, Try.ntmps76
    go_wp2
    exact bodyPost_ret (v := .agg #[.int .u32 (0 : Int), .bool true, .bool true]) (by simp [results, Try.results76, go_sem]) rfl ⟨rfl, ((Below.refl _ w).alloc (Nat.le_refl _) _).alloc (by simp) _⟩
end Go.Proofs.Ytclaadiclgfbmaa
namespace Go.Proofs.Ytclaadiclgfbmaa
open Go.RowKit Go.Shelf

attribute [local go_sem] Oper.semAt_some

/-- A trie's block. -/
def TrieBlk (w : World) (T : Nat) (p : Option Nat) (n m : Nat) : Prop := w.heap[T]? = some (.cells #[ptrV p, .int .i64 (n : Int), .int .i64 (m : Int)] 117 (0, 0))

/-- What the walk has told so far, as entries. -/
def outV (pre : List Visit) : List Ent := pre.flatMap fun x => ownT x.2 x.1
theorem outV_snoc (pre : List Visit) (x : Visit) : outV (pre ++ [x]) = outV pre ++ ownT x.2 x.1 := by simp [outV]
theorem outV_prefix {pre S : List Visit} (h : pre <+: S) : outV pre <+: outV S := by
  obtain ⟨r, rfl⟩ := h
  exact ⟨outV r, by simp [outV]⟩

/-- The box of what was gathered, and what it holds. -/
def UnderI (w : World) (pre : List Visit) (W : World) : Prop :=
  (∃ v, Boxed W w.heap.size 22 v ∧ W.ownsRow w.heap.size 33 3 v (outV pre).length (ents (outV pre))) ∧ Below w.heap.size w W

theorem under_own {w : World} {B : Nat} (hB : w.heap.size < B) (pre : List Visit) : BidesOwn B (UnderI w pre) := by
  rintro W W' row ⟨⟨v, hv, ho⟩, hb⟩ hg hr
  refine ⟨⟨v, hv.kept hg (fun e => ?_), ho.kept hg ?_⟩, hb.grown hg hb.size (fun r e => by have := (hr r e).1; omega)⟩
  · have := (hr _ e.symm).1; omega
  · rcases ho.2 with ⟨rfl, _⟩ | ⟨g, cap, cur, rfl, _, hgg, _⟩
    · exact .inl rfl
    · refine .inr (fun e => ?_)
      obtain ⟨_, o, h1, h2⟩ := hr g e.symm
      rw [hgg] at h1; cases h1; cases h2
theorem under_s {w : World} {B : Nat} (hB : w.heap.size < B) (pre : List Visit) : BidesS B WalkT (UnderI w pre) := by
  rintro W W' row ⟨⟨v, hv, ho⟩, hb⟩ hg hr
  refine ⟨⟨v, hv.kept hg (fun e => ?_), ho.kept hg ?_⟩, hb.grown hg hb.size (fun r e => by have := (hr r e).1; omega)⟩
  · have := (hr _ e.symm).1; omega
  · rcases ho.2 with ⟨rfl, _⟩ | ⟨g, cap, cur, rfl, _, hgg, _⟩
    · exact .inl rfl
    · refine .inr (fun e => ?_)
      obtain ⟨_, cs, T, fz, h1, h2⟩ := hr g e.symm
      rw [hgg] at h1; cases h1
      rcases h2 with h2 | h2 | h2 | h2 <;> exact absurd h2 (by decide)
theorem visit_own (B : Nat) (x : Visit) (args : Array Value) : BidesOwn B (VisitAt x args) := by
  rintro W W' row ⟨v, q, mv, rfl, h1, h2⟩ hg hr
  refine ⟨v, q, mv, rfl, h1.kept hg (fun g e e2 => ?_), (hg.block q (Array.getElem?_eq_some_iff.1 h2).1 (fun e => ?_)).trans h2⟩
  · obtain ⟨_, o, h3, h4⟩ := hr g e2.symm
    obtain ⟨cs, fz, hc⟩ := h1.mem e
    rw [hc] at h3; cases h3; cases h4
  · obtain ⟨_, o, h3, h4⟩ := hr q e.symm
    rw [h2] at h3; cases h3; cases h4

/-- One more gathered. -/
theorem under_put {w W : World} {B : Nat} {pre : List Visit} {r : List UInt8} {y : Nat × Bool} {v2 : Value} (hB : w.heap.size < B) (hv : Boxed W w.heap.size 22 v2) (ho : W.ownsRow w.heap.size 33 3 v2 (outV pre).length (ents (outV pre))) (hb : Below w.heap.size w W) (hl : (outV pre).length + 1 ≤ 1000) :
    ∀ w3, Below W.drew.heap.size W.drew w3 → ∃ ad n c w4, (Builtin.append_ #[22, 22] 22 #[v2, .slice (some ⟨w3.heap.size, 0, none⟩) 1 1]).run Try.prog (w3.alloc (.cells #[.string ⟨r.toArray⟩, .int .u32 (y.1 : Int), .bool y.2] 33)) = .ok (.slice ad n c) w4 ∧
      w4.cell? ⟨w.heap.size, 0, none⟩ = some v2 ∧ w4.frozen? ⟨w.heap.size, 0, none⟩ = false ∧ ∀ a', roundAt w.heap.size B WalkT (UnderI w) pre (r, some y) W .normal a' (w4.setCell ⟨w.heap.size, 0, none⟩ (.slice ad n c)) := by
  intro w3 h3
  have hv3 : Boxed w3 w.heap.size 22 v2 := boxed_below (boxed_drew hv) h3
  have ho3 : w3.ownsRow w.heap.size 33 3 v2 (outV pre).length (ents (outV pre)) := owns_same ho fun g hg => h3.block g (ho.lt g hg).2
  have hz3 : W.heap.size ≤ w3.heap.size := h3.size
  have hzw : w.heap.size ≤ W.heap.size := hb.size
  obtain ⟨E, hE⟩ : ∃ E : Ent, E = ⟨⟨r.toArray⟩, y.1, y.2⟩ := ⟨_, rfl⟩
  obtain ⟨v', w4, hrun, hown, hgrow⟩ := run_append_ents (w3.alloc (.cells #[.string ⟨r.toArray⟩, .int .u32 (y.1 : Int), .bool y.2] 33)) w.heap.size v2 (.slice (some ⟨w3.heap.size, 0, none⟩) 1 1) (outV pre) [E] (ho3.alloc _) (by rw [hE]; exact ents_single (x := ⟨⟨r.toArray⟩, y.1, y.2⟩) rfl) (by simpa using (by omega : (outV pre).length + 1 ≤ 1000000)) (by simp; omega)
  obtain ⟨p1, p2, p3, p4, p5⟩ := hv3.appended (by decide) ho3 (by omega) (Nat.le_refl _) hown hgrow
  obtain ⟨ad, n, c, rfl⟩ : ∃ ad n c, v' = .slice ad n c := by
    rcases hown.2 with ⟨rfl, _⟩ | ⟨g, cap, cur, rfl, _⟩
    · exact ⟨_, _, _, rfl⟩
    · exact ⟨_, _, _, rfl⟩
  have hout : outV (pre ++ [(r, some y)]) = outV pre ++ [E] := by rw [outV_snoc, hE]; rfl
  refine ⟨ad, n, c, w4, hrun, p1.cell, p1.frozen, fun a' => ⟨?_, ?_, ?_, ⟨_, p2, by rw [hout]; exact p3⟩, ?_⟩⟩
  · refine KeepsOthers.from (KeepsOthers.trans ⟨hz3, fun k o hk _ => (h3.block k (Array.getElem?_eq_some_iff.1 hk).1).trans hk⟩ p4) _
  · have k1 : KeepsS WalkT W w3 := ⟨hz3, fun k cs T fz _ hk => (h3.block k (Array.getElem?_eq_some_iff.1 hk).1).trans hk⟩
    have k2 : KeepsS WalkT w3 (w3.alloc (.cells #[.string ⟨r.toArray⟩, .int .u32 (y.1 : Int), .bool y.2] 33)) := keepsS_below ((Below.refl _ w3).alloc (Nat.le_refl _) _)
    have ho4 := ho3.alloc (.cells #[.string ⟨r.toArray⟩, .int .u32 (y.1 : Int), .bool y.2] 33)
    have k3 : KeepsS WalkT (w3.alloc (.cells #[.string ⟨r.toArray⟩, .int .u32 (y.1 : Int), .bool y.2] 33)) w4 := KeepsS.grown hgrow (fun k e cs T fz hT hk => by
      obtain ⟨_, cs', fz', hc⟩ := owns_cells ho4 k e
      rw [hc] at hk; cases hk
      rcases hT with h | h | h | h <;> exact absurd h (by decide))
    have k4 : KeepsS WalkT w4 (w4.setCell ⟨w.heap.size, 0, none⟩ (.slice ad n c)) := KeepsS.grown (grownBy_setCell' w4 _ _) (fun k e cs T fz hT hk => by
      cases e
      have e2 : w4.heap[w.heap.size]? = some (.cells #[v2] 22 (0, 0)) := p1
      rw [e2] at hk; cases hk
      rcases hT with h | h | h | h <;> exact absurd h (by decide))
    exact ((k1.trans k2).trans k3).trans k4
  · exact (((Below.refl _ W).drew).trans (h3.mono hzw)).trans p5
  · exact ((hb.drew).trans (h3.mono hzw)).trans p5

theorem args_two {args : Array Value} (h : args.size = 2) : ∃ x y, args = #[x, y] :=
  match args, h with
  | ⟨[x, y]⟩, _ => ⟨x, y, rfl⟩

set_option maxRecDepth 100000 in
set_option maxHeartbeats 2000000 in
theorem under_any (t : Tr) (p : Option Nat) (n m T d : Nat) (s : ByteArray) (w : World) (hT : TrieBlk w T p n m) (hN : NodeO (fun k => k < w.heap.size) w t p) (hS : Tr.Slim d (t.down s.data.toList)) (hlen : s.size + d ≤ 1000000) (hfew : (t.all []).length ≤ 1000) :
    Calls Try.prog 25 #[.pointer (some ⟨T, 0, none⟩), .string s] w fun e w' => ∃ v, e = .returned v ∧ w'.ownsRow w.heap.size 33 3 v (underT (t.all []) s.data.toList).length (ents (underT (t.all []) s.data.toList)) ∧ Below w.heap.size w w' := by
  refine (callsIn_wide (n := 8)).1 ?_
  have hF : Fence.wide.fn 25 := trivial
  have hTl : T < w.heap.size := (Array.getElem?_eq_some_iff.1 hT).1
  have c0 : w.cell? ⟨T, 0, none⟩ = some (ptrV p) := by rw [cell_of_row w T 0 _ _ _ hT]; rfl
  obtain ⟨W0, hW0⟩ : ∃ W0, W0 = w.alloc (.cells #[.slice none 0 0] 22) := ⟨_, rfl⟩
  have hb0 : Below w.heap.size w W0 := by rw [hW0]; exact (Below.refl _ w).alloc (Nat.le_refl _) _
  have hz0 : W0.heap.size = w.heap.size + 1 := by rw [hW0]; simp
  have bO : Boxed W0 w.heap.size 22 (.slice none 0 0) := by rw [hW0]; exact Boxed.new w _ _
  have q1 := down_any t p s W0 (hN.below hb0) (by omega)
  have HH := Lib.hid (And.intro hb0 (And.intro hz0 bO))
  clear hb0 hz0 bO
  refine callsIn_of_wp_marks Try.func25 rfl hF ?_ rfl
  simp only [Try.ntmps25, List.size_toArray, List.length_cons, List.length_nil, Nat.reduceAdd, Nat.reduceSub, Array.replicate_succ, Array.replicate_zero, List.push_toArray, List.append_toArray, List.nil_append, List.cons_append]
  gi_wp2
  rw [← hW0]
  refine ⟨trivial, (callsIn_wide.2 q1).mono ?_⟩
  rintro e W1 ⟨p', rfl, hN1, hb1⟩
  gi_wp2
  refine ⟨trivial, (callsIn_wide.2 (walk_fn p' s W1)).mono ?_⟩
  rintro e W2 ⟨rfl, hW2⟩
  have HW2 := Lib.hid hW2
  clear hW2
  gi_wp2
  have hb2 : Below W1.heap.size W1 W2 := by rw [HW2.out]; exact ((Below.refl _ W1).alloc (Nat.le_refl _) _).alloc (by simp) _
  have hz2 : W2.heap.size = W1.heap.size + 2 := by rw [HW2.out]; simp
  have k1 : W2.cell? ⟨W1.heap.size, 0, none⟩ = some (ptrV p') := by rw [HW2.out]; simp
  have k2 : W2.cell? ⟨W1.heap.size + 1, 0, none⟩ = some (.string s) := by rw [HW2.out]; simp
  obtain ⟨hb0, hz0, bO⟩ := HH.out
  have hz1 := hb1.size
  have hBw : w.heap.size < W2.heap.size := by omega
  have hit := walk_iter (n0 := w.heap.size) (by omega) (hN1.below hb2) k1 k2 (by omega) (by omega) hS hlen (8 - 1)
  have hb02 : Below w.heap.size w W2 := (hb0.trans (hb1.mono (by omega))).trans (hb2.mono (by omega))
  have bO2 : Boxed W2 w.heap.size 22 (.slice none 0 0) := boxed_below (boxed_below bO hb1) hb2
  have HA : Hid (outV ((t.down s.data.toList).visits s.data.toList) = underT (t.all []) s.data.toList) := Lib.hid (by rw [← Tr.all_under, ← Tr.visits_all]; rfl)
  have HL : Hid ((outV ((t.down s.data.toList).visits s.data.toList)).length ≤ 1000) := Lib.hid (by rw [HA.out]; exact Nat.le_trans (List.length_filter_le _ _) hfew)
  clear q1 hN1 HH HW2 k1 k2 bO hb0 hb1 hb2 hz2 hz0 hz1
  refine wpIn_range_at (by decide) (gf := 136) (lb := #[.pointer (some ⟨W1.heap.size, 0, none⟩), .pointer (some ⟨W1.heap.size + 1, 0, none⟩)]) rfl (enters_of Try.func136 (by kernel_rfl) rfl) (n0 := w.heap.size) (by omega) hit (fun x args W h => by obtain ⟨_, _, _, rfl, _⟩ := h; rfl) (fun x args => visit_own _ x args)
    (UnderI w) (fun pre => under_own hBw pre) (fun pre => under_s hBw pre) ⟨⟨_, bO2, World.ownsRow_nil _ _ _ _⟩, hb02⟩
    (fun args => { tmps := #[.pointer (some ⟨T, 0, none⟩), .string s, undef, undef, .slice none 0 0, .pointer (some ⟨w.heap.size, 0, none⟩), args.getD 0 undef, args.getD 1 undef, .pointer (some ⟨T, 0, none⟩), .bool false, .pointer (some ⟨T, 0, none⟩), .pointer (some ⟨T, 0, none⟩), .pointer (some ⟨T, 0, none⟩), ptrV p, .string s, ptrV p', .string s,
      .func (.func 136) #[] #[.pointer (some ⟨W1.heap.size, 0, none⟩), .pointer (some ⟨W1.heap.size + 1, 0, none⟩)], args.getD 0 undef, args.getD 1 undef, undef, undef, undef, undef, undef, undef, undef, undef, undef, undef, undef, undef, undef, undef, undef, undef], defers := [] }) ?assign ?body ?done
  case assign =>
    intro l args W K hsz hK
    obtain ⟨x, y, rfl⟩ := args_two hsz
    gi_wp2
    exact hK
  case body =>
    rintro l pre x args W hpre hI ⟨v, q, mv, rfl, hrow, hq⟩
    have hop := outV_snoc pre x
    have hpl := (outV_prefix hpre).length_le
    obtain ⟨r, o⟩ := x
    have c2 : W.cell? ⟨q, 2, none⟩ = some (.bool (vI o)) := by rw [cell_of_row W q 2 _ _ _ hq]; rfl
    cases o with
    | none =>
      replace c2 : W.cell? ⟨q, 2, none⟩ = some (.bool false) := c2
      gi_wp2
      refine ⟨KeepsOthers.from (KeepsOthers.refl _) _, KeepsS.refl _ _, Below.refl _ _, ?_⟩
      unfold UnderI
      rw [hop, show ownT (none : Option (Nat × Bool)) r = [] from rfl, List.append_nil]
      exact hI
    | some y =>
      replace c2 : W.cell? ⟨q, 2, none⟩ = some (.bool true) := c2
      obtain ⟨⟨v2, hv2, ho2⟩, hbw⟩ := hI
      have c0 : W.drew.cell? ⟨q, 0, none⟩ = some (.int .u32 (y.1 : Int)) := by rw [cell_drew_own, cell_of_row W q 0 _ _ _ hq]; rfl
      have c1 : W.drew.cell? ⟨q, 1, none⟩ = some (.bool y.2) := by rw [cell_drew_own, cell_of_row W q 1 _ _ _ hq]; rfl
      have c2' : W.drew.cell? ⟨q, 2, none⟩ = some (.bool true) := c2
      have hcv : (convert 58 9 v).run Try.prog W.drew = .ok (.string ⟨r.toArray⟩) W.drew := conv_str (w := W.drew) (hrow.below (Below.refl _ W).drew)
      have cb : W.drew.cell? ⟨w.heap.size, 0, none⟩ = some v2 := hv2.cell
      have cf : W.drew.frozen? ⟨w.heap.size, 0, none⟩ = false := hv2.frozen
      have hle : (outV pre).length + 1 ≤ 1000 := by
        have h1 := HL.out
        rw [hop, List.length_append] at hpl
        have h2 : (ownT (r, some y).2 (r, some y).1).length = 1 := rfl
        omega
      have DONE := Lib.hid (under_put (pre := pre) (r := r) (y := y) hBw hv2 ho2 hbw hle)
      have CB : Hid (∀ w3, Below W.drew.heap.size W.drew w3 → w3.cell? ⟨w.heap.size, 0, none⟩ = some v2 ∧ ∀ o, (w3.alloc o).cell? ⟨w.heap.size, 0, none⟩ = some v2) := Lib.hid (fun w3 h => by
        have h1 : Boxed w3 w.heap.size 22 v2 := boxed_below (boxed_drew hv2) h
        exact ⟨h1.cell, fun o => (boxed_below h1 ((Below.refl _ w3).alloc (Nat.le_refl _) o)).cell⟩)
      have q39 := entry_any y.1 y.2 true ⟨r.toArray⟩ W.drew
      gi_wp2
      refine region_inRound (by kernel_rfl) (by kernel_rfl) ?_
      refine wpAnyIn_take (i := 1) (v := .pointer (some ⟨q, 0, none⟩)) rfl rfl (by kernel_rfl) (by kernel_rfl) (by kernel_rfl) (fun _ _ _ h => h) ⟨Or.inl ⟨by rfl, by intro w; go_simp⟩, fun _ => rfl⟩ ?_
      refine wpAnyIn_take (i := 2) (v := .pointer (some ⟨q, 0, none⟩)) rfl rfl (by kernel_rfl) (by kernel_rfl) (by kernel_rfl) (fun _ _ _ h => h) ⟨Or.inl ⟨by rfl, by intro w; go_simp⟩, fun _ => rfl⟩ ?_
      refine wpAnyIn_take (i := 3) (v := .pointer (some ⟨q, 0, none⟩)) rfl rfl (by kernel_rfl) (by kernel_rfl) (by kernel_rfl) (fun _ _ _ h => h) ⟨Or.inl ⟨by rfl, by intro w; go_simp⟩, fun _ => rfl⟩ ?_
      refine wpAnyIn_take (i := 5) (v := v) rfl rfl (by kernel_rfl) (by kernel_rfl) (by kernel_rfl) (fun _ _ _ h => h) ⟨Or.inl ⟨by rfl, by intro w; go_simp⟩, fun _ => rfl⟩ ?_
      clear hv2 ho2 hbw hrow hq c2 hop hpl
      repeat' (first
        | exact AllReadyIn.nil
        | (refine wpAnyIn_done (by decide +kernel) ?_ _)
        | (refine wpAnyIn_ready (rs := [0, 4, 6]) (by decide +kernel) (by simp) ?_)
        | (refine wpAnyIn_ready (rs := [4, 6]) (by decide +kernel) (by simp) ?_)
        | (refine wpAnyIn_ready (rs := [0, 4]) (by decide +kernel) (by simp) ?_)
        | (refine wpAnyIn_ready (rs := [0, 6]) (by decide +kernel) (by simp) ?_)
        | (refine wpAnyIn_ready (rs := [0, 7]) (by decide +kernel) (by simp) ?_)
        | (refine wpAnyIn_ready (rs := [0, 8]) (by decide +kernel) (by simp) ?_)
        | (refine wpAnyIn_ready (rs := [0]) (by decide +kernel) (by simp) ?_)
        | (refine wpAnyIn_ready (rs := [4]) (by decide +kernel) (by simp) ?_)
        | (refine wpAnyIn_ready (rs := [6]) (by decide +kernel) (by simp) ?_)
        | (refine wpAnyIn_ready (rs := [7]) (by decide +kernel) (by simp) ?_)
        | (refine wpAnyIn_ready (rs := [8]) (by decide +kernel) (by simp) ?_)
        | (refine wpAnyIn_ready (rs := [9]) (by decide +kernel) (by simp) ?_)
        | (refine wpAnyIn_ready (rs := [10]) (by decide +kernel) (by simp) ?_)
        | ((with_reducible (show AllReadyIn _ _ _ _ _ _ _ _ _ _ (9 :: _))); refine AllReadyIn.cons rfl (fun K hK => step_append_known rfl (.tmp 25) (.tmp 33) 22 rfl v2 _ _ _ (by rfl) (by rfl) (by assumption) (fun _ _ => trivial) (hK _ _ ?_)) ?_)
        | (refine AllReadyIn.cons rfl (fun K hK => ?_) ?_)
        | (go_simp; refine hK _ _ ?_; clear hK K)
        | (go_simp; refine ⟨trivial, (callsIn_wide.2 q39).mono ?_⟩; rintro e w3 ⟨rfl, hb3⟩; obtain ⟨ad4, n4, c4, w4, hrun4, hc4, hf4, hfin4⟩ := DONE.out w3 hb3; obtain ⟨cb3, cb4⟩ := CB.out w3 hb3; refine hK _ _ ?_; clear hK K))
      all_goals exact hfin4 { tmps := #[], defers := [] }
  case done =>
    rintro D W hD ⟨⟨v, hv, ho⟩, hb⟩ hK
    have hc := hv.cell
    gi_wp2
    refine ⟨by simp, .inl ⟨_, _, rfl, run_takeDeferred hK, ?_⟩⟩
    refine ⟨_, results_tmp rfl _ _ _, v, rfl, ?_, hb.trans (belowK_b (w := w) (Nat.le_refl _) W D _ _ (by omega) hK rfl rfl)⟩
    rw [← HA.out]
    exact putObj_owns ho _ hK rfl
end Go.Proofs.Ytclaadiclgfbmaa
namespace Go.Proofs.Ytclaadiclgfbmaa
open Go.RowKit Go.Shelf

/-- How many bytes the words have. -/
def wordsLen (l : List Ent) : Nat := (l.map fun x => x.word.size).sum

/-- A trie's block, its nodes in blocks of O, its counts. -/
def TrieAt (w : World) (T : Nat) (O : Nat → Prop) (t : Tr) : Prop :=
  ∃ p, TrieBlk w T p (t.all []).length (wordsLen (t.all [])) ∧ NodeO O w t p ∧ ¬ O T ∧ t.Good

theorem TrieAt.same {w w' : World} {T : Nat} {O O' : Nat → Prop} {t : Tr} (h : TrieAt w T O t) (hO : ∀ k, O k → O' k) (hn : ¬ O' T) (hk : ∀ k, k = T ∨ O k → k < w.heap.size → w'.heap[k]? = w.heap[k]?) : TrieAt w' T O' t := by
  obtain ⟨p, h1, h2, h3, h4⟩ := h
  exact ⟨p, (hk T (.inl rfl) (Array.getElem?_eq_some_iff.1 h1).1).trans h1, h2.kept hO (fun k h => hk k (.inr h)), hn, h4⟩
theorem TrieAt.below {w w' : World} {T : Nat} {O : Nat → Prop} {t : Tr} (h : TrieAt w T O t) (hb : Below w.heap.size w w') : TrieAt w' T O t := by
  obtain ⟨p, h1, h2, h3, h4⟩ := h
  exact ⟨p, (hb.block T (Array.getElem?_eq_some_iff.1 h1).1).trans h1, h2.below hb, h3, h4⟩
theorem TrieAt.lt {w : World} {T : Nat} {O : Nat → Prop} {t : Tr} (h : TrieAt w T O t) : T < w.heap.size := by
  obtain ⟨p, h1, _⟩ := h
  exact (Array.getElem?_eq_some_iff.1 h1).1

/-- What is got: the entry, and whether it is. -/
def gotE (t : Tr) (s : ByteArray) : Ent := match t.get s.data.toList with
  | none => ⟨⟨#[]⟩, 0, false⟩
  | some y => ⟨s, y.1, y.2⟩
def gotV (t : Tr) (s : ByteArray) : Value := .tuple #[.agg #[.string (gotE t s).word, .int .u32 ((gotE t s).weight : Int), .bool (gotE t s).gone], .bool (t.get s.data.toList).isSome]

theorem NodeO.get {O : Nat → Prop} {w : World} {t : Tr} {r : List UInt8} {q : Nat} (h : NodeO O w (t.down r) (some q)) : ∃ mv, w.heap[q]? = some (.cells #[.int .u32 (vW (t.get r) : Int), .bool (vG (t.get r)), .bool (vI (t.get r)), mv] 129 (0, 0)) := by
  obtain ⟨mv, _, _, h, _⟩ := h.there
  exact ⟨mv, h⟩

/-- .. where a row leads to no node, or to one. -/
theorem down_none {O : Nat → Prop} (t : Tr) (p : Option Nat) (row : ByteArray) (w : World) (h : NodeO O w t p) (hr : row.size ≤ 9223372036854775807) (hn : (t.down row.data.toList).isNil = true) :
    Calls Try.prog 80 #[ptrV p, .string row] w fun e w' => e = .returned (.pointer none) ∧ Below w.heap.size w w' := by
  refine (down_any t p row w h hr).mono ?_
  rintro e w' ⟨p', rfl, h1, h2⟩
  have := h1.isSome
  rw [hn] at this
  cases p' with
  | none => exact ⟨rfl, h2⟩
  | some q => cases this
theorem down_some {O : Nat → Prop} (t : Tr) (p : Option Nat) (row : ByteArray) (w : World) (h : NodeO O w t p) (hr : row.size ≤ 9223372036854775807) (hn : (t.down row.data.toList).isNil = false) :
    Calls Try.prog 80 #[ptrV p, .string row] w fun e w' => ∃ q, e = .returned (.pointer (some ⟨q, 0, none⟩)) ∧ NodeO O w' (t.down row.data.toList) (some q) ∧ Below w.heap.size w w' := by
  refine (down_any t p row w h hr).mono ?_
  rintro e w' ⟨p', rfl, h1, h2⟩
  have := h1.isSome
  rw [hn] at this
  cases p' with
  | none => cases this
  | some q => exact ⟨q, rfl, h1, h2⟩

/-- The result's block behind the calls, and stored into. -/
theorem box_done {w w1 W : World} {u0 u1 u2 : Value} (h1 : Below (w.alloc (.cells #[u0, u1, u2] 33)).heap.size (w.alloc (.cells #[u0, u1, u2] 33)) w1) (hb : Below w1.heap.size w1 W) (v0 v1 v2 : Value) :
    Below w.heap.size w (((W.setCell ⟨w.heap.size, 0, none⟩ v0).setCell ⟨w.heap.size, 1, none⟩ v1).setCell ⟨w.heap.size, 2, none⟩ v2) ∧
    (((W.setCell ⟨w.heap.size, 0, none⟩ v0).setCell ⟨w.heap.size, 1, none⟩ v1).setCell ⟨w.heap.size, 2, none⟩ v2).cell? ⟨w.heap.size, 0, none⟩ = some v0 ∧
    (((W.setCell ⟨w.heap.size, 0, none⟩ v0).setCell ⟨w.heap.size, 1, none⟩ v1).setCell ⟨w.heap.size, 2, none⟩ v2).cell? ⟨w.heap.size, 1, none⟩ = some v1 ∧
    (((W.setCell ⟨w.heap.size, 0, none⟩ v0).setCell ⟨w.heap.size, 1, none⟩ v1).setCell ⟨w.heap.size, 2, none⟩ v2).cell? ⟨w.heap.size, 2, none⟩ = some v2 := by
  obtain ⟨k0, k1, k2⟩ := box_kept h1
  have l : w.heap.size < w1.heap.size := block_lt_of_cell k0
  refine ⟨?_, set3 (W := W) (B := w.heap.size) ((hb.cell (p := ⟨w.heap.size, 0, none⟩) l).trans k0) ((hb.cell (p := ⟨w.heap.size, 1, none⟩) l).trans k1) ((hb.cell (p := ⟨w.heap.size, 2, none⟩) l).trans k2) v0 v1 v2⟩
  have h2 : Below w.heap.size w w1 := Below.next ((Below.refl _ w).alloc (Nat.le_refl _) _) h1
  exact ((((Below.next h2 hb)).setCell (p := ⟨w.heap.size, 0, none⟩) (Nat.le_refl _) v0).setCell (p := ⟨w.heap.size, 1, none⟩) (Nat.le_refl _) v1).setCell (p := ⟨w.heap.size, 2, none⟩) (Nat.le_refl _) v2

theorem gotV_none {t : Tr} {s : ByteArray} (e : t.get s.data.toList = none) : gotV t s = .tuple #[.agg #[.string ⟨#[]⟩, .int .u32 0, .bool false], .bool false] := by unfold gotV gotE; rw [e]; rfl
theorem gotV_some {t : Tr} {s : ByteArray} {y : Nat × Bool} (e : t.get s.data.toList = some y) : gotV t s = .tuple #[.agg #[.string s, .int .u32 (y.1 : Int), .bool y.2], .bool true] := by unfold gotV gotE; rw [e]; rfl

set_option maxRecDepth 100000 in
set_option maxHeartbeats 1000000 in
theorem get_any (t : Tr) (T : Nat) (O : Nat → Prop) (s : ByteArray) (w : World) (h : TrieAt w T O t) (hs : s.size ≤ 9223372036854775807) :
    Calls Try.prog 23 #[.pointer (some ⟨T, 0, none⟩), .string s] w fun e w' => e = .returned (gotV t s) ∧ Below w.heap.size w w' := by
  obtain ⟨p, h1, h2, -, -⟩ := h
  have c0 : w.cell? ⟨T, 0, none⟩ = some (ptrV p) := by rw [cell_of_row w T 0 _ _ _ h1]; rfl
  have hTl : T < w.heap.size := (Array.getElem?_eq_some_iff.1 h1).1
  have hTn : T ≠ w.heap.size := Nat.ne_of_lt hTl
  have hb0 : Below w.heap.size w (w.alloc (.cells #[.string ⟨#[]⟩, .int .u32 0, .bool false] 33)) := (Below.refl _ w).alloc (Nat.le_refl _) _
  cases hn : (t.down s.data.toList).isNil with
  | true =>
    have q1 := down_none t p s _ (h2.below hb0) hs hn
    have HN : Hid (t.get s.data.toList = none) := Lib.hid (by unfold Tr.get; rw [Tr.eq_nil hn]; rfl)
    clear h1 h2 hb0 hn
    go_enter Try.func23, Try.ntmps23
    go_wp2_with (go_at_call 80; (with_reducible refine q1.mono ?_); rintro e w1 ⟨rfl, hb1⟩; obtain ⟨k0, k1, k2⟩ := box_kept hb1; obtain ⟨hc1, hf1⟩ := bcell hb1; have hz1 : w.heap.size < w1.heap.size := block_lt_of_cell k0; have HB1 := Lib.hid hb1; clear hb1)
    obtain ⟨f0, f1, f2, f3⟩ := box_done HB1.out (Below.refl _ w1) (.string ⟨#[]⟩) (.int .u32 0) (.bool false)
    generalize ((w1.setCell ⟨w.heap.size, 0, none⟩ (.string ⟨#[]⟩)).setCell ⟨w.heap.size, 1, none⟩ (.int .u32 0)).setCell ⟨w.heap.size, 2, none⟩ (.bool false) = wf at f0 f1 f2 f3 ⊢
    exact bodyPost_ret (v := .tuple #[.agg #[.string ⟨#[]⟩, .int .u32 0, .bool false], .bool false]) (by simp [results, Try.results23, go_sem, f1, f2, f3]) rfl ⟨by rw [gotV_none HN.out], f0⟩
  | false =>
    have q1 := down_some t p s _ (h2.below hb0) hs hn
    clear h1 h2 hb0 hn
    cases hg : t.get s.data.toList with
    | none =>
      go_enter Try.func23, Try.ntmps23
      go_wp2_with (go_at_call 80; (with_reducible refine q1.mono ?_); rintro e w1 ⟨q, rfl, hN1, hb1⟩; obtain ⟨k0, k1, k2⟩ := box_kept hb1; obtain ⟨hc1, hf1⟩ := bcell hb1; have hz1 : w.heap.size < w1.heap.size := block_lt_of_cell k0; have HB1 := Lib.hid hb1; clear hb1; obtain ⟨mv, hq⟩ := hN1.get; rw [hg] at hq; have d2 : w1.cell? ⟨q, 2, none⟩ = some (.bool false) := (cell_of_row w1 q 2 _ _ _ hq); clear hq hN1)
      obtain ⟨f0, f1, f2, f3⟩ := box_done HB1.out (Below.refl _ w1) (.string ⟨#[]⟩) (.int .u32 0) (.bool false)
      generalize ((w1.setCell ⟨w.heap.size, 0, none⟩ (.string ⟨#[]⟩)).setCell ⟨w.heap.size, 1, none⟩ (.int .u32 0)).setCell ⟨w.heap.size, 2, none⟩ (.bool false) = wf at f0 f1 f2 f3 ⊢
      exact bodyPost_ret (v := .tuple #[.agg #[.string ⟨#[]⟩, .int .u32 0, .bool false], .bool false]) (by simp [results, Try.results23, go_sem, f1, f2, f3]) rfl ⟨by rw [gotV_none hg], f0⟩
    | some y =>
      have q39 := fun w1 => entry_any y.1 y.2 true s w1
      go_enter Try.func23, Try.ntmps23
      go_wp2_with (first
        | (go_at_call 80; (with_reducible refine q1.mono ?_); rintro e w1 ⟨q, rfl, hN1, hb1⟩; obtain ⟨k0, k1, k2⟩ := box_kept hb1; obtain ⟨hc1, hf1⟩ := bcell hb1; have hz1 : w.heap.size < w1.heap.size := block_lt_of_cell k0; have HB1 := Lib.hid hb1; clear hb1; obtain ⟨mv, hq⟩ := hN1.get; rw [hg] at hq; have d0 : w1.cell? ⟨q, 0, none⟩ = some (.int .u32 (y.1 : Int)) := (cell_of_row w1 q 0 _ _ _ hq); have d1 : w1.cell? ⟨q, 1, none⟩ = some (.bool y.2) := (cell_of_row w1 q 1 _ _ _ hq); have d2 : w1.cell? ⟨q, 2, none⟩ = some (.bool true) := (cell_of_row w1 q 2 _ _ _ hq); clear hq hN1)
        | (go_at_call 81; (with_reducible refine (q39 _).mono ?_); rintro e w2 ⟨rfl, hb2⟩; obtain ⟨hc2, hf2⟩ := bcell hb2; have HB2 := Lib.hid hb2; clear hb2))
      obtain ⟨f0, f1, f2, f3⟩ := box_done HB1.out HB2.out (.string s) (.int .u32 (y.1 : Int)) (.bool y.2)
      generalize ((w2.setCell ⟨w.heap.size, 0, none⟩ (.string s)).setCell ⟨w.heap.size, 1, none⟩ (.int .u32 (y.1 : Int))).setCell ⟨w.heap.size, 2, none⟩ (.bool y.2) = wf at f0 f1 f2 f3 ⊢
      exact bodyPost_ret (v := .tuple #[.agg #[.string s, .int .u32 (y.1 : Int), .bool y.2], .bool true]) (by simp [results, Try.results23, go_sem, f1, f2, f3]) rfl ⟨by rw [gotV_some hg], f0⟩
end Go.Proofs.Ytclaadiclgfbmaa
namespace Go.Proofs.Ytclaadiclgfbmaa

theorem putE_count {l : List Ent} (h : risingE l = true) (e : Ent) : (putE l e).length = l.length + (if (findE l (key e)).isSome = true then 0 else 1) ∧ wordsLen (putE l e) = wordsLen l + (if (findE l (key e)).isSome = true then 0 else e.word.size) := by
  induction l with
  | nil => exact ⟨rfl, by simp [putE, wordsLen, findE_nil]⟩
  | cons x l ih =>
    obtain ⟨h1, h2⟩ := risingE_cons.1 h
    obtain ⟨i1, i2⟩ := ih h2
    unfold putE
    by_cases c1 : ltE x e = true
    · rw [if_pos c1, findE_cons, if_neg (ltE_key x e c1)]
      refine ⟨by rw [List.length_cons, List.length_cons, i1]; omega, ?_⟩
      show x.word.size + wordsLen (putE l e) = x.word.size + wordsLen l + _
      rw [i2]; omega
    · rw [if_neg c1]
      by_cases c2 : ltE e x = true
      · rw [if_pos c2]
        have hn : findE (x :: l) (key e) = none := by
          rw [findE_none]
          intro y hy
          rcases List.mem_cons.1 hy with rfl | hy
          · exact fun e' => ltE_key e y c2 e'.symm
          · exact fun e' => ltE_key e y (ltE_trans c2 (h1 y hy)) e'.symm
        rw [hn]
        refine ⟨rfl, ?_⟩
        show e.word.size + wordsLen (x :: l) = wordsLen (x :: l) + _
        simp; omega
      · rw [if_neg c2]
        have hk : key x = key e := by
          rcases Classical.em (key x = key e) with h | h
          · exact h
          · exact absurd (ltE_of (Bool.eq_false_iff.2 c1) h) c2
        rw [findE_cons, if_pos hk]
        refine ⟨rfl, ?_⟩
        show e.word.size + wordsLen l = x.word.size + wordsLen l + 0
        rw [key_word hk]; omega

theorem put_count (t : Tr) (s : ByteArray) (v : Nat × Bool) : ((t.put s.data.toList v).all []).length = (t.all []).length + (if (t.get s.data.toList).isSome = true then 0 else 1) ∧ wordsLen ((t.put s.data.toList v).all []) = wordsLen (t.all []) + (if (t.get s.data.toList).isSome = true then 0 else s.size) := by
  have h := putE_count (Tr.all_rising t []) (entOf s.data.toList v)
  have e1 : (findE (t.all []) (key (entOf s.data.toList v))).isSome = (t.get s.data.toList).isSome := by
    rw [key_entOf, Tr.find_all]; cases t.get s.data.toList <;> rfl
  rw [e1, ← Tr.all_put] at h
  exact h

theorem NodeO.both {O : Nat → Prop} {w : World} : ∀ {t : Tr} {p : Option Nat}, NodeO O w t p → NodeO (fun k => O k ∧ k < w.heap.size) w t p
  | .nil, _, h => h
  | .node v ws, p, h => by
    obtain ⟨q, mv, P, rfl, h1, h2, h3, h4⟩ := h
    exact ⟨q, mv, P, rfl, h1, h2, ⟨⟨h3.1, (Array.getElem?_eq_some_iff.1 h1).1⟩, fun m hm => ⟨h3.2 m hm, h2.lt m hm⟩⟩, fun b => NodeO.both (h4 b)⟩
end Go.Proofs.Ytclaadiclgfbmaa

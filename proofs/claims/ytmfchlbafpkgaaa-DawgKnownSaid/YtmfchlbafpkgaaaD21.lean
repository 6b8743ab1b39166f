/-
  A node with a value at the end of a row of bytes: new nodes down the row, and nothing else.
-/
import Derived.Test.YtmfchlbafpkgaaaD19
import Derived.Test.YtmfchlbafpkgaaaD20
set_option linter.unusedVariables false
set_option linter.unusedSimpArgs false
namespace Go.Proofs.Ytmfchlbafpkgaaa
open Go.RowKit Go.Shelf

/-- A value, as it is handed on. -/
abbrev valV (v : Nat × Bool) : Value := .agg #[.int .u32 (v.1 : Int), .bool v.2, .bool true]

theorem empty_row (row : ByteArray) (h : row.size = 0) : row = ⟨#[]⟩ := by
  apply ByteArray.ext
  have : row.data.size = 0 := h
  exact Array.eq_empty_of_size_eq_zero this

theorem row_full (row : ByteArray) (h : 0 < row.size) : row.toList.isEmpty = false ∧ (row.toList == []) = false := by
  have hl : row.toList.length = row.size := by rw [ByteArray.toList_eq]; simp
  cases e : row.toList with
  | nil => rw [e] at hl; simp at hl; omega
  | cons a l => exact ⟨rfl, rfl⟩

theorem below_two' (w : World) (a b : Obj) : Below w.heap.size w ((w.alloc a).alloc b) := ((Below.refl _ w).alloc (Nat.le_refl _) _).alloc (by simp) _

/-- What lay in O before a call, and what has been made since. -/
abbrev Since (O : Nat → Prop) (w : World) (k : Nat) : Prop := O k ∨ w.heap.size ≤ k

/-- A node of one's own, which was made behind a world. -/
theorem node_done {O : Nat → Prop} {w wF : World} {v : Option (Nat × Bool)} {ws : UInt8 → Tr} {mv : Value} {P : UInt8 → Option Nat} {b : Nat} (hb : w.heap.size ≤ b) (h1 : wF.heap[b]? = some (.cells #[.int .u32 (vW v : Int), .bool (vG v), .bool (vI v), mv] 109 (0, 0)))
    (h2 : NMap wF mv P) (hm : ∀ m, mapB mv = some m → Since O w m) (h3 : ∀ c, NodeO (Since O w) wF (ws c) (P c)) : NodeO (Since O w) wF (.node v ws) (some b) :=
  ⟨b, mv, P, rfl, h1, h2, ⟨.inr hb, hm⟩, h3⟩

set_option maxHeartbeats 1000000 in
theorem with_end (t : Tr) (p : Option Nat) (v : Nat × Bool) (w : World) (O : Nat → Prop) (hn : ∀ k, O k → k < w.heap.size) (h : NodeO O w t p) :
    Calls Try.prog 52 #[ptrV p, .string ⟨#[]⟩, valV v] w fun e w' => ∃ q, e = .returned (.pointer (some ⟨q, 0, none⟩)) ∧ NodeO (Since O w) w' (t.put [] v) (some q) ∧ Below w.heap.size w w' := by
  have fin : ∀ (mv : Value) (P : UInt8 → Option Nat), NMap w mv P → (∀ m, mapB mv = some m → O m) → (∀ c, NodeO O w (t.way c) (P c)) →
      NodeO (Since O w) ((w.alloc (.cells #[.int .u32 (v.1 : Int), .bool v.2, .bool true] 100)).alloc (.cells #[.int .u32 (v.1 : Int), .bool v.2, .bool true, mv] 109)) (t.put [] v) (some (w.heap.size + 1)) := fun mv P h2 hm h3 => by
    have hb := below_two' w (.cells #[.int .u32 (v.1 : Int), .bool v.2, .bool true] 100) (.cells #[.int .u32 (v.1 : Int), .bool v.2, .bool true, mv] 109)
    refine node_done (v := some v) (by omega) ?_ (h2.below hb) (fun m e => .inl (hm m e)) (fun c => (h3 c).kept (fun _ h => .inl h) (fun k _ hk => hb.block k hk))
    have := World.alloc_heap_new (w.alloc (.cells #[.int .u32 (v.1 : Int), .bool v.2, .bool true] 100)) (.cells #[.int .u32 (v.1 : Int), .bool v.2, .bool true, mv] 109)
    rwa [World.size_alloc] at this
  have FIN := Lib.hid fin
  clear fin
  cases p with
  | none =>
    have e := h.gone
    subst e
    show Calls Try.prog 52 #[.pointer none, .string ⟨#[]⟩, valV v] w _
    go_enter Try.func52, Try.ntmps52
    go_wp2
    go_ret
    exact ⟨w.heap.size + 1, rfl, FIN.out (.map none) (fun _ => none) (.inl ⟨rfl, rfl⟩) (fun m e => by cases e) (fun _ => rfl), below_two' _ _ _⟩
  | some q =>
    obtain ⟨mv, P, hn, h1, h2, hO, h3⟩ := h.there
    show Calls Try.prog 52 #[.pointer (some ⟨q, 0, none⟩), .string ⟨#[]⟩, valV v] w _
    obtain ⟨mm, rfl⟩ := h2.shape
    have hlt : q < w.heap.size := (Array.getElem?_eq_some_iff.1 h1).1
    have c0 : w.cell? ⟨q, 0, none⟩ = some (.int .u32 (vW t.val : Int)) := by simp [World.cell?, h1]
    have c1 : w.cell? ⟨q, 1, none⟩ = some (.bool (vG t.val)) := by simp [World.cell?, h1]
    have c2 : w.cell? ⟨q, 2, none⟩ = some (.bool (vI t.val)) := by simp [World.cell?, h1]
    have c3 : w.cell? ⟨q, 3, none⟩ = some (.map mm) := by simp [World.cell?, h1]
    have HX := Lib.hid (FIN.out (.map mm) P h2 hO.2 h3)
    clear h h1 h2 h3 hO FIN
    go_enter Try.func52, Try.ntmps52
    go_wp2
    go_ret
    exact ⟨w.heap.size + 1, rfl, HX.out, below_two' _ _ _⟩

theorem store_map (w : World) (a : Addr) (m : Option Nat) : (store a (.map m)).run Try.prog w = stored Try.prog w a (.map m) .plain := run_store Try.prog w a _ _ rfl

section
variable (w : World) {ops : Array Oper} {rest : List Oper} {o : Oper} {a : Act} {Q : Exit → Act → World → Prop}
theorem wpList_put_node (hg : o.guard = none) (mm x v : Operand) (hop : o.op = Op.mapUpdate 107 mm x v) (m : Nat) (P : UInt8 → Option Nat) (c : UInt8) (b : Nat)
    (hm : a.eval mm = .map (some m)) (hx : a.eval x = .int .u8 (c.toNat : Int)) (hv : a.eval v = .pointer (some ⟨b, 0, none⟩)) (h : HasN w m P)
    (hK : ∀ w', HasN w' m (nset P c b) → w.grownBy w' (some m) → wpList Try.prog ops Q rest (a.put o.dst undef) w') : wpList Try.prog ops Q (o :: rest) a w := by
  refine wpList_plain hg fun K' hK' => ?_
  obtain ⟨w', hrun, r1, r2⟩ := h.put c b
  unfold Oper.wp
  simp [execOp, hop, hm, hx, hv, hrun, Result.andThen]
  exact hK' _ _ (hK w' r1 r2)
end

/-- Two blocks made: the value's, and the node's own. -/
abbrev Made2 (w : World) (v : Nat × Bool) (o : Option (Nat × Bool)) (mv : Value) : World := (w.alloc (.cells #[.int .u32 (v.1 : Int), .bool v.2, .bool true] 100)).alloc (.cells #[.int .u32 (vW o : Int), .bool (vG o), .bool (vI o), mv] 109)

theorem made2_facts (w : World) (v : Nat × Bool) (o : Option (Nat × Bool)) (mv : Value) : (Made2 w v o mv).heap.size = w.heap.size + 2 ∧ (Made2 w v o mv).heap[w.heap.size + 1]? = some (.cells #[.int .u32 (vW o : Int), .bool (vG o), .bool (vI o), mv] 109 (0, 0)) ∧
    (Made2 w v o mv).heap[w.heap.size]? = some (.cells #[.int .u32 (v.1 : Int), .bool v.2, .bool true] 100 (0, 0)) := by
  refine ⟨by simp, ?_, ?_⟩
  · have := World.alloc_heap_new (w.alloc (.cells #[.int .u32 (v.1 : Int), .bool v.2, .bool true] 100)) (.cells #[.int .u32 (vW o : Int), .bool (vG o), .bool (vI o), mv] 109)
    rwa [World.size_alloc] at this
  · rw [Below.heap_alloc _ _ _ (by simp)]
    exact World.alloc_heap_new _ _

/-- The end of it: the own node has its new map, in which the new node stands at its byte. -/
theorem with_fin {O : Nat → Prop} {w w1 wF : World} {t : Tr} {mv : Value} {P : UInt8 → Option Nat} {c : UInt8} {r : List UInt8} {v : Nat × Bool} {q1 m : Nat} (hn : ∀ k, O k → k < w.heap.size) (h2 : NMap w mv P) (h3 : ∀ b, NodeO O w (t.way b) (P b))
    (hN : NodeO (fun k => O k ∨ w.heap.size + 2 ≤ k) w1 ((t.way c).put r v) (some q1)) (hb1 : Below w.heap.size w w1) (hk : ∀ k, k < w1.heap.size → k ≠ w.heap.size + 1 → wF.heap[k]? = w1.heap[k]?)
    (hF : wF.heap[w.heap.size + 1]? = some (.cells #[.int .u32 (vW t.val : Int), .bool (vG t.val), .bool (vI t.val), .map (some m)] 109 (0, 0))) (hm : w.heap.size ≤ m) (hH : HasN wF m (nset P c q1)) :
    NodeO (Since O w) wF (t.put (c :: r) v) (some (w.heap.size + 1)) := by
  have hz := hb1.size
  refine node_done (P := nset P c q1) (by omega) hF (.inr ⟨m, rfl, hH⟩) (fun m' e => by cases e; exact .inr hm) fun b => ?_
  by_cases e : b = c
  · subst e
    rw [if_pos rfl, nset_same]
    exact hN.kept (fun k h => by rcases h with h | h; exact .inl h; exact .inr (by omega)) (fun k h hk' => hk k hk' (h.elim (fun h => by have := hn k h; omega) (fun h => by omega)))
  · rw [if_neg e, nset_other _ _ e]
    exact (h3 b).kept (fun _ h => .inl h) (fun k h hk' => (hk k (by omega) (by omega)).trans (hb1.block k hk'))

theorem set3_heap {W : World} {b : Nat} {x y z u v : Value} {T : TypeId} (h : W.heap[b]? = some (.cells #[x, y, z, u] T (0, 0))) : (W.setCell ⟨b, 3, none⟩ v).heap[b]? = some (.cells #[x, y, z, v] T (0, 0)) := by
  rw [cells_setCell h]; rfl

/-- What stands ahead of the last step: the own node with its new map. -/
structure Ahead (w w1 X : World) (b m : Nat) (o : Option (Nat × Bool)) (P : UInt8 → Option Nat) : Prop where
  own : X.heap[b]? = some (.cells #[.int .u32 (vW o : Int), .bool (vG o), .bool (vI o), .map (some m)] 109 (0, 0))
  has : HasN X m P
  new : w1.heap.size ≤ m
  old : ∀ k, k < w1.heap.size → k ≠ b → X.heap[k]? = w1.heap[k]?
  grown : w1.grownBy X (some b)

theorem ahead_none {w w1 : World} {b : Nat} {o : Option (Nat × Bool)} {u : Value} (n1 : w1.heap[b]? = some (.cells #[.int .u32 (vW o : Int), .bool (vG o), .bool (vI o), u] 109 (0, 0))) :
    Ahead w w1 (((w1.setCell ⟨b, 3, none⟩ (.map none)).setCell ⟨b, 3, none⟩ (.map (some w1.heap.size))).alloc (.map #[] 0)) b w1.heap.size o (fun _ => none) := by
  have hb := (Array.getElem?_eq_some_iff.1 n1).1
  have hz : ((w1.setCell ⟨b, 3, none⟩ (.map none)).setCell ⟨b, 3, none⟩ (.map (some w1.heap.size))).heap.size = w1.heap.size := by simp [World.setCell]
  have e2 := set3_heap (v := .map (some w1.heap.size)) (set3_heap (v := .map none) n1)
  refine ⟨(Below.heap_alloc _ _ _ (by omega)).trans e2, ?_, Nat.le_refl _, fun k hk hne => ?_, ?_⟩
  · have := hasN_made ((w1.setCell ⟨b, 3, none⟩ (.map none)).setCell ⟨b, 3, none⟩ (.map (some w1.heap.size)))
    rwa [hz] at this
  · rw [Below.heap_alloc _ _ _ (by omega), Below.heap_setCell _ _ _ _ (show k ≠ b from hne), Below.heap_setCell _ _ _ _ (show k ≠ b from hne)]
  · refine ⟨rfl, rfl, rfl, by simp [World.setCell], fun k hk hne => ?_⟩
    have hne' : k ≠ b := fun e => hne (by rw [e])
    rw [Below.heap_alloc _ _ _ (by omega), Below.heap_setCell _ _ _ _ (show k ≠ b from hne'), Below.heap_setCell _ _ _ _ (show k ≠ b from hne')]

theorem ahead_some {w w1 w2 : World} {b : Nat} {o : Option (Nat × Bool)} {u : Value} {P : UInt8 → Option Nat} (n2 : w2.heap[b]? = some (.cells #[.int .u32 (vW o : Int), .bool (vG o), .bool (vI o), u] 109 (0, 0))) (hbl : b < w1.heap.size)
    (hH : HasN w2 w1.heap.size P) (hb : Below w1.heap.size w1 w2) : Ahead w w1 (w2.setCell ⟨b, 3, none⟩ (.map (some w1.heap.size))) b w1.heap.size o P := by
  refine ⟨set3_heap n2, hH.same (Below.heap_setCell _ _ _ _ (by show w1.heap.size ≠ b; omega)), Nat.le_refl _, fun k hk hne => (Below.heap_setCell _ _ _ _ (show k ≠ b from hne)).trans (hb.block k hk), ?_⟩
  exact ⟨hb.os, hb.tape, hb.output, by simpa [World.setCell] using hb.size, fun k hk hne => (Below.heap_setCell _ _ _ _ (show k ≠ b from fun e => hne (by rw [e]))).trans (hb.block k hk)⟩

theorem Ahead.cell {w w1 X : World} {b m : Nat} {o : Option (Nat × Bool)} {P : UInt8 → Option Nat} (h : Ahead w w1 X b m o P) : X.cell? ⟨b, 3, none⟩ = some (.map (some m)) := by simp [World.cell?, h.own]
theorem Ahead.drew {w w1 X : World} {b m : Nat} {o : Option (Nat × Bool)} {P : UInt8 → Option Nat} (h : Ahead w w1 X b m o P) : HasN X.drew m P := h.has

/-- .. and behind it. -/
theorem Ahead.done {O : Nat → Prop} {w w1 X wF : World} {m qn : Nat} {t : Tr} {c : UInt8} {r : List UInt8} {v : Nat × Bool} {mv : Value} {P : UInt8 → Option Nat} (h : Ahead w w1 X (w.heap.size + 1) m t.val P) (hn : ∀ k, O k → k < w.heap.size) (h2 : NMap w mv P) (h3 : ∀ b, NodeO O w (t.way b) (P b))
    (hN : NodeO (fun k => O k ∨ w.heap.size + 2 ≤ k) w1 ((t.way c).put r v) (some qn)) (hb1 : Below w.heap.size w w1) (hH : HasN wF m (nset P c qn)) (hg : X.drew.grownBy wF (some m)) :
    NodeO (Since O w) wF (t.put (c :: r) v) (some (w.heap.size + 1)) ∧ Below w.heap.size w wF := by
  have hz := hb1.size
  have hnew := h.new
  have hown := (Array.getElem?_eq_some_iff.1 h.own).1
  have hgX := h.grown.size
  refine ⟨with_fin hn h2 h3 hN hb1 (fun k hk hne => (hg.block k (by show k < X.heap.size; omega) (fun e => by cases e; omega)).trans (h.old k hk hne)) ?_ (by omega) hH, ?_⟩
  · by_cases e : w.heap.size + 1 = m
    · obtain ⟨es, clock, hm⟩ := h.has.mem
      rw [← e] at hm
      have := h.own
      rw [hm] at this
      cases this
    · exact (hg.block _ hown (fun e' => e (by cases e'; rfl))).trans h.own
  · exact ((hb1.grown h.grown (by omega) (fun k e => by cases e; omega)).drew).grown hg (by show w.heap.size ≤ X.heap.size; omega) (fun k e => by cases e; omega)

set_option maxHeartbeats 4000000 in
set_option maxRecDepth 100000 in
theorem with_more (t : Tr) (p : Option Nat) (row : ByteArray) (v : Nat × Bool) (w : World) (O : Nat → Prop) (hn : ∀ k, O k → k < w.heap.size) (h : NodeO O w t p) (hr : 0 < row.size) (hr2 : row.size ≤ 9223372036854775807)
    (IH : ∀ (t : Tr) (p : Option Nat) (W : World) (O : Nat → Prop), (∀ k, O k → k < W.heap.size) → NodeO O W t p → Calls Try.prog 52 #[ptrV p, .string (row.extract 1 row.size), valV v] W fun e w' => ∃ q, e = .returned (.pointer (some ⟨q, 0, none⟩)) ∧ NodeO (Since O W) w' (t.put (row.extract 1 row.size).data.toList v) (some q) ∧ Below W.heap.size W w') :
    Calls Try.prog 52 #[ptrV p, .string row, valV v] w fun e w' => ∃ q, e = .returned (.pointer (some ⟨q, 0, none⟩)) ∧ NodeO (Since O w) w' (t.put row.data.toList v) (some q) ∧ Below w.heap.size w w' := by
  obtain ⟨d1, d2⟩ := row_full row hr
  have d3 : (1 : Int) ≤ (row.size : Int) := by omega
  have d4 : 1 ≤ row.size := hr
  obtain ⟨c, hc⟩ : ∃ c, c = row[0] := ⟨_, rfl⟩
  obtain ⟨rr, hrr⟩ : ∃ rr, rr = (row.extract 1 row.size).data.toList := ⟨_, rfl⟩
  have HC : Hid (row.data.toList = c :: rr) := Lib.hid (by
    have h0 : 0 < row.data.toList.length := by simpa using hr
    have e := List.drop_eq_getElem_cons h0
    rw [List.drop_zero] at e
    rw [e, hc, hrr, ba_extract, List.take_of_length_le (by simp)]
    rfl)
  rw [← hrr] at IH
  -- what the node is made of
  obtain ⟨o, ho⟩ : ∃ o, o = t.val := ⟨_, rfl⟩
  have hX : ∃ (mm : Option Nat) (P : UInt8 → Option Nat), NMap w (.map mm) P ∧ (∀ b, NodeO O w (t.way b) (P b)) ∧
      (p = none ∧ mm = none ∧ o = none ∨ ∃ q, p = some q ∧ w.heap[q]? = some (.cells #[.int .u32 (vW o : Int), .bool (vG o), .bool (vI o), .map mm] 109 (0, 0))) := by
    cases p with
    | none =>
      have e := h.gone
      subst e
      exact ⟨none, fun _ => none, .inl ⟨rfl, rfl⟩, fun _ => rfl, .inl ⟨rfl, rfl, ho⟩⟩
    | some q =>
      obtain ⟨mv, P, -, h1, h2, -, h3⟩ := h.there
      obtain ⟨mm, rfl⟩ := h2.shape
      rw [← ho] at h1
      exact ⟨mm, P, h2, h3, .inr ⟨q, rfl, h1⟩⟩
  obtain ⟨mm, P, h2, h3, hp⟩ := hX
  obtain ⟨W2, hW2⟩ : ∃ W2, W2 = Made2 w v o (.map mm) := ⟨_, rfl⟩
  obtain ⟨hz2, n2, b2⟩ := made2_facts w v o (.map mm)
  rw [← hW2] at hz2 n2 b2
  have hb2 : Below w.heap.size w W2 := by rw [hW2]; exact below_two' _ _ _
  have m3 : W2.cell? ⟨w.heap.size + 1, 3, none⟩ = some (.map mm) := by simp [World.cell?, n2]
  have v0 : W2.cell? ⟨w.heap.size, 0, none⟩ = some (.int .u32 (v.1 : Int)) := by simp [World.cell?, b2]
  have v1 : W2.cell? ⟨w.heap.size, 1, none⟩ = some (.bool v.2) := by simp [World.cell?, b2]
  have v2 : W2.cell? ⟨w.heap.size, 2, none⟩ = some (.bool true) := by simp [World.cell?, b2]
  have hlD : (Instr.lookup 107 (.map mm) (.int .u8 (c.toNat : Int)) false).run Try.prog W2.drew = .ok (ptrV (P c)) W2.drew := (show NMap W2.drew (.map mm) P from h2.below hb2.drew).look c
  have q1 : Calls Try.prog 52 #[ptrV (P c), .string (row.extract 1 row.size), valV v] W2.drew _ := IH (t.way c) (P c) W2.drew O (fun k hk => by have := hn k hk; show k < W2.heap.size; omega) ((h3 c).below hb2.drew)
  have FACTS : Hid (∀ w1, Below W2.drew.heap.size W2.drew w1 → w1.heap[w.heap.size + 1]? = some (.cells #[.int .u32 (vW o : Int), .bool (vG o), .bool (vI o), .map mm] 109 (0, 0)) ∧ w1.cell? ⟨w.heap.size + 1, 3, none⟩ = some (.map mm) ∧ w1.frozen? ⟨w.heap.size + 1, 3, none⟩ = false ∧ w.heap.size + 1 < w1.heap.size) := Lib.hid (fun w1 hb => by
    have e : w1.heap[w.heap.size + 1]? = some (.cells #[.int .u32 (vW o : Int), .bool (vG o), .bool (vI o), .map mm] 109 (0, 0)) := (hb.block _ (by show w.heap.size + 1 < W2.heap.size; omega)).trans n2
    exact ⟨e, by simp [World.cell?, e], by simp [World.frozen?, e], (Array.getElem?_eq_some_iff.1 e).1⟩)
  have CLONE : Hid (∀ w1, Below W2.drew.heap.size W2.drew w1 → ∀ m0, mm = some m0 → Calls Try.prog 88 #[.map (some m0)] w1 fun e w' => e = .returned (.map (some w1.heap.size)) ∧ HasN w' w1.heap.size P ∧ Below w1.heap.size w1 w') := Lib.hid (fun w1 hb m0 e => by
    subst e
    have := (h2.below hb2.drew).below hb
    rcases this with ⟨e, _⟩ | ⟨m, e, h⟩
    · cases e
    · cases e; exact clone_some h)
  have FACTS2 : Hid (∀ w1 w2, Below W2.drew.heap.size W2.drew w1 → Below w1.heap.size w1 w2 → w2.heap[w.heap.size + 1]? = some (.cells #[.int .u32 (vW o : Int), .bool (vG o), .bool (vI o), .map mm] 109 (0, 0)) ∧ w2.cell? ⟨w.heap.size + 1, 3, none⟩ = some (.map mm) ∧ w2.frozen? ⟨w.heap.size + 1, 3, none⟩ = false ∧ w.heap.size + 1 < w2.heap.size) := Lib.hid (fun w1 w2 hb hb' => by
    have hz := hb.size
    exact FACTS.out w2 (hb.trans (hb'.mono hz)))
  have hnil := fun W p => run_eql_map_nil_sl (P := Try.prog) W 107 _ _ p Try.underlying107
  have H2 := Lib.hid (And.intro h2 (And.intro h3 (And.intro hb2 (And.intro hz2 n2))))
  have HW2 := Lib.hid hW2
  have HO := Lib.hid ho
  have hidx : row[0] = c := hc.symm
  clear h2 h3 hb2 hz2 n2 b2 hW2 h IH ho hrr hc
  have hmm := @run_makeMap Try.prog
  have hsm := store_map
  have PN : Hid (mm = none → (fun _ => none) = P) := Lib.hid (fun e => by
    subst e
    rcases H2.out.1 with ⟨_, e⟩ | ⟨m, e, _⟩
    · exact e.symm
    · cases e)
  have DONE : Hid (∀ (w1 X wF : World) (m qn : Nat) (P' : UInt8 → Option Nat), Ahead w w1 X (w.heap.size + 1) m o P' → P' = P → NodeO (Since O W2.drew) w1 ((t.way c).put rr v) (some qn) → Below W2.drew.heap.size W2.drew w1 → HasN wF m (nset P' c qn) → X.drew.grownBy wF (some m) →
      NodeO (Since O w) wF (t.put row.data.toList v) (some (w.heap.size + 1)) ∧ Below w.heap.size w wF) := Lib.hid (fun w1 X wF m qn P' hA e hN hb1 hH hg => by
    subst e
    rw [HC.out]
    rw [HO.out] at hA
    have hb : Below w.heap.size w w1 := (H2.out.2.2.1.drew).trans (hb1.mono (by have := H2.out.2.2.2.1; show w.heap.size ≤ W2.heap.size; omega))
    exact hA.done hn H2.out.1 H2.out.2.1 (hN.kept (fun k h => by rcases h with h | h; exact .inl h; exact .inr (by have := H2.out.2.2.2.1; have h' : W2.heap.size ≤ k := h; omega)) (fun _ _ _ => rfl)) hb hH hg)
  have CL : Hid ((mm = none) ∨ ∃ m0, mm = some m0) := Lib.hid (by cases mm with
    | none => exact .inl rfl
    | some m0 => exact .inr ⟨m0, rfl⟩)
  rcases hp with ⟨rfl, rfl, rfl⟩ | ⟨q, rfl, h1⟩
  · show Calls Try.prog 52 #[.pointer none, .string row, valV v] w _
    go_enter Try.func52, Try.ntmps52
    go_wp2_with fail
    rw [show (w.alloc (.cells #[.int .u32 (v.1 : Int), .bool v.2, .bool true] 100)).alloc (.cells #[.int .u32 0, .bool false, .bool false, .map none] 109) = W2 from HW2.out.symm]
    go_still_tail 8, (by kernel_rfl)
    clear v0 v1 v2 m3
    go_wp2_with (first
      | (go_at_call 52; (with_reducible refine q1.mono ?_); rintro e w1 ⟨qn, rfl, hN1, hb1⟩; obtain ⟨n1, m3', f3', z3'⟩ := FACTS.out w1 hb1; have H1 := Lib.hid (And.intro hN1 (And.intro hb1 n1)); clear hN1 hb1 n1 q1)
      | (go_at_call 88; (with_reducible refine (clone_none _).mono ?_); rintro e w2 ⟨rfl, rfl⟩))
    have AH := Lib.hid (ahead_none (w := w) H1.out.2.2)
    generalize ((w1.setCell ⟨w.heap.size + 1, 3, none⟩ (.map none)).setCell ⟨w.heap.size + 1, 3, none⟩ (.map (some w1.heap.size))).alloc (.map #[] 0) = X at AH ⊢
    have x3 := AH.out.cell
    clear m3' f3' z3'
    go_still_tail 5, (by kernel_rfl)
    refine wpList_put_node _ rfl _ _ _ rfl w1.heap.size (fun _ => none) c qn rfl rfl rfl AH.out.drew ?_
    intro wF hHF hgF
    have HF := Lib.hid (And.intro hHF hgF)
    clear hHF hgF x3
    go_wp2
    go_ret
    obtain ⟨r1, r2⟩ := DONE.out w1 X wF w1.heap.size qn (fun _ => none) AH.out (PN.out (by trivial)) H1.out.1 H1.out.2.1 HF.out.1 HF.out.2
    exact ⟨w.heap.size + 1, rfl, r1, r2⟩
  · have hlt : q < w.heap.size := (Array.getElem?_eq_some_iff.1 h1).1
    have c0 : w.cell? ⟨q, 0, none⟩ = some (.int .u32 (vW o : Int)) := by simp [World.cell?, h1]
    have c1 : w.cell? ⟨q, 1, none⟩ = some (.bool (vG o)) := by simp [World.cell?, h1]
    have c2 : w.cell? ⟨q, 2, none⟩ = some (.bool (vI o)) := by simp [World.cell?, h1]
    have c3 : w.cell? ⟨q, 3, none⟩ = some (.map mm) := by simp [World.cell?, h1]
    clear h1
    show Calls Try.prog 52 #[.pointer (some ⟨q, 0, none⟩), .string row, valV v] w _
    go_enter Try.func52, Try.ntmps52
    go_wp2_with fail
    rw [show (w.alloc (.cells #[.int .u32 (v.1 : Int), .bool v.2, .bool true] 100)).alloc (.cells #[.int .u32 (vW o : Int), .bool (vG o), .bool (vI o), .map mm] 109) = W2 from HW2.out.symm]
    clear c0 c1 c2 c3
    rcases CL.out with rfl | ⟨m0, rfl⟩
    · go_still_tail 8, (by kernel_rfl)
      clear v0 v1 v2 m3
      go_wp2_with (first
        | (go_at_call 52; (with_reducible refine q1.mono ?_); rintro e w1 ⟨qn, rfl, hN1, hb1⟩; obtain ⟨n1, m3', f3', z3'⟩ := FACTS.out w1 hb1; have H1 := Lib.hid (And.intro hN1 (And.intro hb1 n1)); clear hN1 hb1 n1 q1)
        | (go_at_call 88; (with_reducible refine (clone_none _).mono ?_); rintro e w2 ⟨rfl, rfl⟩))
      have AH := Lib.hid (ahead_none (w := w) H1.out.2.2)
      generalize ((w1.setCell ⟨w.heap.size + 1, 3, none⟩ (.map none)).setCell ⟨w.heap.size + 1, 3, none⟩ (.map (some w1.heap.size))).alloc (.map #[] 0) = X at AH ⊢
      have x3 := AH.out.cell
      clear m3' f3' z3'
      go_still_tail 5, (by kernel_rfl)
      refine wpList_put_node _ rfl _ _ _ rfl w1.heap.size (fun _ => none) c qn rfl rfl rfl AH.out.drew ?_
      intro wF hHF hgF
      have HF := Lib.hid (And.intro hHF hgF)
      clear hHF hgF x3
      go_wp2
      go_ret
      obtain ⟨r1, r2⟩ := DONE.out w1 X wF w1.heap.size qn (fun _ => none) AH.out (PN.out (by trivial)) H1.out.1 H1.out.2.1 HF.out.1 HF.out.2
      exact ⟨w.heap.size + 1, rfl, r1, r2⟩
    · obtain ⟨P0, hP0⟩ : ∃ P0, P0 = P := ⟨_, rfl⟩
      go_still_tail 8, (by kernel_rfl)
      clear v0 v1 v2 m3
      go_wp2_with (first
        | (go_at_call 52; (with_reducible refine q1.mono ?_); rintro e w1 ⟨qn, rfl, hN1, hb1⟩; obtain ⟨n1, m3', f3', z3'⟩ := FACTS.out w1 hb1; have H1 := Lib.hid (And.intro hN1 (And.intro hb1 n1)); clear hN1 hb1 n1 q1)
        | (go_at_call 88; (with_reducible refine (CLONE.out w1 H1.out.2.1 m0 rfl).mono ?_); rintro e w2 ⟨rfl, hH2, hb3⟩; obtain ⟨n2', m4', f4', z4'⟩ := FACTS2.out w1 w2 H1.out.2.1 hb3; have H3 := Lib.hid (And.intro hH2 (And.intro hb3 n2')); clear hH2 hb3 n2'))
      have AH := Lib.hid (ahead_some (w := w) H3.out.2.2 z3' H3.out.1 H3.out.2.1)
      generalize w2.setCell ⟨w.heap.size + 1, 3, none⟩ (.map (some w1.heap.size)) = X at AH ⊢
      have x3 := AH.out.cell
      clear m3' f3' z3' m4' f4' z4'
      go_still_tail 5, (by kernel_rfl)
      refine wpList_put_node _ rfl _ _ _ rfl w1.heap.size P c qn rfl rfl rfl AH.out.drew ?_
      intro wF hHF hgF
      have HF := Lib.hid (And.intro hHF hgF)
      clear hHF hgF x3
      go_wp2
      go_ret
      obtain ⟨r1, r2⟩ := DONE.out w1 X wF w1.heap.size qn P AH.out rfl H1.out.1 H1.out.2.1 HF.out.1 HF.out.2
      exact ⟨w.heap.size + 1, rfl, r1, r2⟩

theorem with_any (v : Nat × Bool) : ∀ (n : Nat) (row : ByteArray), row.size = n → row.size ≤ 9223372036854775807 → ∀ (t : Tr) (p : Option Nat) (w : World) (O : Nat → Prop), (∀ k, O k → k < w.heap.size) → NodeO O w t p →
    Calls Try.prog 52 #[ptrV p, .string row, valV v] w fun e w' => ∃ q, e = .returned (.pointer (some ⟨q, 0, none⟩)) ∧ NodeO (Since O w) w' (t.put row.data.toList v) (some q) ∧ Below w.heap.size w w' := by
  intro n
  induction n with
  | zero =>
    intro row hr _ t p w O hn h
    obtain rfl := empty_row row hr
    exact with_end t p v w O hn h
  | succ n ih =>
    intro row hr hr2 t p w O hn h
    have hs : (row.extract 1 row.size).size = n := by rw [ByteArray.size_extract]; omega
    exact with_more t p row v w O hn h (by omega) hr2 fun t p W O hn h => ih _ hs (by omega) t p W O hn h
end Go.Proofs.Ytmfchlbafpkgaaa

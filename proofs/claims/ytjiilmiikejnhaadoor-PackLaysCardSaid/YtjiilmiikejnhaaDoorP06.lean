/-
  Transducers in memory: arcs, states, rows of them. Transducers just written out, in memory.
-/
import Derived.Test.YtjiilmiikejnhaaDoorP01
import Derived.Test.YtjiilmiikejnhaaDoorP03
import Derived.Test.YtjiilmiikejnhaaDoorP05
import Derived.Laws.OwnMore
import Derived.Laws.AppendOwn
import Derived.Laws.StructEq
import Derived.Deep.RegionLaw
import Derived.Maps.AppendAt
set_option linter.unusedVariables false
set_option linter.unusedSimpArgs false
namespace Go.Proofs.YtjiilmiikejnhaaDoor
open Go.RowKit Go.Shelf

/-- What stands in memory for an arc. -/
def arcC (a : DArc) : List Value := [.int .u8 (a.b : Int), .int .u64 (a.out : Int), .int .i64 a.to]
def arcsC (l : List DArc) : List Value := l.flatMap arcC

theorem below_alloc (w : World) (o : Obj) : RowKit.Below w.heap.size w (w.alloc o) := (RowKit.Below.refl _ w).alloc (Nat.le_refl _) o
theorem below_alloc' {w0 w : World} {o : Obj} (h : RowKit.Below w0.heap.size w0 w) : RowKit.Below w0.heap.size w0 (w.alloc o) := h.alloc h.size _
theorem owns_same {w w' : World} {base size n : Nat} {e : TypeId} {v : Value} {xs : List Value} (h : w.ownsRow base e size v n xs) (he : ∀ g, v.ownBlock = some g → w'.heap[g]? = w.heap[g]?) : w'.ownsRow base e size v n xs := by
  refine ⟨h.1, ?_⟩
  rcases h.2 with h' | ⟨g, cap, cur, rfl, h2, h3, h4⟩
  · exact .inl h'
  · exact .inr ⟨g, cap, cur, rfl, h2, (he g rfl).trans h3, h4⟩
def arcAt (l : List DArc) (i : Nat) : DArc := l.getD i default
theorem arcAt_lt {l : List DArc} {i : Nat} (h : i < l.length) : arcAt l i = l[i] := by simp [arcAt, List.getD, h]
def ArcIn (w : World) (b o : Nat) (a : DArc) : Prop :=
  w.cell? ⟨b, o, none⟩ = some (.int .u8 (a.b : Int)) ∧ w.cell? ⟨b, o + 1, none⟩ = some (.int .u64 (a.out : Int)) ∧ w.cell? ⟨b, o + 2, none⟩ = some (.int .i64 a.to)
def Arcs (w : World) (v : Value) (l : List DArc) : Prop :=
  ∃ ad c, v = .slice ad l.length c ∧ ∀ i, i < l.length → ∃ b o, ad = some ⟨b, o, none⟩ ∧ ArcIn w b (o + i * 3) (arcAt l i)
def NumB (w : World) (c n : Nat) : Prop := w.heap[c]? = some (.cells #[.int .u64 (n : Int)] 23 (0, 0))
theorem NumB.at {w : World} {c n : Nat} (h : NumB w c n) : w.cell? ⟨c, 0, none⟩ = some (.int .u64 (n : Int)) := by rw [cell_of_row w c 0 _ _ _ h]; rfl
theorem NumB.free {w : World} {c n : Nat} (h : NumB w c n) (o : Nat) : w.frozen? ⟨c, o, none⟩ = false := by
  unfold NumB at h
  simp [World.frozen?, h]
theorem NumB.lt {w : World} {c n : Nat} (h : NumB w c n) : c < w.heap.size := (Array.getElem?_eq_some_iff.1 h).1
theorem NumB.set {w : World} {c n : Nat} (h : NumB w c n) (m : Nat) : NumB (w.setCell ⟨c, 0, none⟩ (.int .u64 (m : Int))) c m := cells_setCell h 0 _
def StB (w : World) (p : Nat) (v : Value) (fin : Bool) (out : Nat) : Prop := w.heap[p]? = some (.cells #[v, .bool fin, .int .u64 (out : Int)] 64 (0, 0))
theorem StB.at0 {w : World} {p : Nat} {v : Value} {f : Bool} {n : Nat} (h : StB w p v f n) : w.cell? ⟨p, 0, none⟩ = some v := by rw [cell_of_row w p 0 _ _ _ h]; rfl
theorem StB.at1 {w : World} {p : Nat} {v : Value} {f : Bool} {n : Nat} (h : StB w p v f n) : w.cell? ⟨p, 1, none⟩ = some (.bool f) := by rw [cell_of_row w p 1 _ _ _ h]; rfl
theorem StB.at2 {w : World} {p : Nat} {v : Value} {f : Bool} {n : Nat} (h : StB w p v f n) : w.cell? ⟨p, 2, none⟩ = some (.int .u64 (n : Int)) := by rw [cell_of_row w p 2 _ _ _ h]; rfl
theorem StB.lt {w : World} {p : Nat} {v : Value} {f : Bool} {n : Nat} (h : StB w p v f n) : p < w.heap.size := (Array.getElem?_eq_some_iff.1 h).1
theorem cell_same {w w' : World} {p : Addr} (h : w'.heap[p.block]? = w.heap[p.block]?) : w'.cell? p = w.cell? p := by
  unfold World.cell?; rw [h]
theorem ArcIn.lt {w : World} {b o : Nat} {a : DArc} (h : ArcIn w b o a) : b < w.heap.size := block_lt_of_cell h.1
theorem ArcIn.kept {w w' : World} {b o : Nat} {a : DArc} (h : ArcIn w b o a) (hb : w'.heap[b]? = w.heap[b]?) : ArcIn w' b o a :=
  ⟨(cell_same hb).trans h.1, (cell_same hb).trans h.2.1, (cell_same hb).trans h.2.2⟩
structure Kp (M : Nat → Prop) (w w' : World) : Prop where
  os : w'.os = w.os
  tape : w'.tape = w.tape
  output : w'.output = w.output
  size : w.heap.size ≤ w'.heap.size
  block : ∀ k, k < w.heap.size → ¬ M k → w'.heap[k]? = w.heap[k]?
theorem Kp.refl (M : Nat → Prop) (w : World) : Kp M w w := ⟨rfl, rfl, rfl, Nat.le_refl _, fun _ _ _ => rfl⟩
theorem Kp.trans {M N : Nat → Prop} {w a b : World} (h : Kp M w a) (k : Kp N a b) (hn : ∀ g, N g → M g ∨ w.heap.size ≤ g) : Kp M w b :=
  ⟨k.os.trans h.os, k.tape.trans h.tape, k.output.trans h.output, Nat.le_trans h.size k.size, fun g hg hm => (k.block g (Nat.lt_of_lt_of_le hg h.size) (fun e => by
    rcases hn g e with h' | h'
    · exact hm h'
    · omega)).trans (h.block g hg hm)⟩
theorem Kp.below {M : Nat → Prop} {w w' : World} (h : Below w.heap.size w w') : Kp M w w' := ⟨h.os, h.tape, h.output, h.size, fun k hk _ => h.block k hk⟩
theorem Kp.grown {M : Nat → Prop} {w w' : World} {row : Option Nat} (h : w.grownBy w' row) (hm : ∀ g, row = some g → M g) : Kp M w w' := ⟨h.os, h.tape, h.output, h.size, fun k hk hn => h.block k hk (fun e => hn (hm k e.symm))⟩
theorem Kp.mono {M N : Nat → Prop} {w w' : World} (h : Kp M w w') (hm : ∀ g, M g → N g ∨ w.heap.size ≤ g) : Kp N w w' := ⟨h.os, h.tape, h.output, h.size, fun k hk hn => h.block k hk (fun e => by
  rcases hm k e with h' | h'
  · exact hn h'
  · omega)⟩
theorem Kp.to {M : Nat → Prop} {base : Nat} {w w' : World} (h : Kp M w w') (hb : base ≤ w.heap.size) (hm : ∀ g, M g → base ≤ g) : Below base w w' := ⟨h.os, h.tape, h.output, h.size, fun k hk => h.block k (by omega) (fun e => by have := hm k e; omega)⟩
theorem Kp.drew {M : Nat → Prop} {w w' : World} (h : Kp M w w') : Kp M w w'.drew := ⟨h.os, h.tape, h.output, h.size, h.block⟩
theorem arcsC_length (l : List DArc) : (arcsC l).length = l.length * 3 := by
  unfold arcsC
  induction l with
  | nil => rfl
  | cons x l ih => rw [List.flatMap_cons, List.length_append, ih]; simp [arcC]; omega
theorem arcsC_append (A B : List DArc) : arcsC (A ++ B) = arcsC A ++ arcsC B := by simp [arcsC]
theorem arcsC_cons (x : DArc) (l : List DArc) : arcsC (x :: l) = arcC x ++ arcsC l := by simp [arcsC]
theorem arcsC_get : ∀ (l : List DArc) (i c : Nat), i < l.length → c < 3 → (arcsC l)[i * 3 + c]? = (arcC (arcAt l i))[c]?
  | [], i, c, h, _ => by simp at h
  | x :: l, 0, c, _, hc => by
    rw [arcsC_cons, Nat.zero_mul, Nat.zero_add, List.getElem?_append_left (by simp [arcC]; omega)]
    rfl
  | x :: l, i + 1, c, h, hc => by
    rw [arcsC_cons, List.getElem?_append_right (by simp [arcC]; omega)]
    have := arcsC_get l i c (by simpa using h) hc
    rw [show (i + 1) * 3 + c - (arcC x).length = i * 3 + c by simp [arcC]; omega, this]
    rfl
theorem arcsC_one (l : List DArc) : ∀ u ∈ arcsC l, u.oneCell' = true := by
  intro u hu
  simp only [arcsC, List.mem_flatMap] at hu
  obtain ⟨x, _, hx⟩ := hu
  simp [arcC] at hx
  rcases hx with rfl | rfl | rfl <;> rfl
def ARow (w : World) (base : Nat) (v : Value) (l : List DArc) : Prop := w.ownsRow base 66 3 v l.length (arcsC l)
theorem ARow.arcs {w : World} {base : Nat} {v : Value} {l : List DArc} (h : ARow w base v l) : Arcs w v l := by
  rcases id h.2 with ⟨rfl, h0⟩ | ⟨g, cap, cur, rfl, _, hg, _, _, _, ht⟩
  · exact ⟨none, 0, by rw [h0], fun i hi => by omega⟩
  · refine ⟨_, cap, rfl, fun i hi => ⟨g, 0, rfl, ?_⟩⟩
    have h3 : ∀ c, c < 3 → w.cell? ⟨g, 0 + i * 3 + c, none⟩ = (arcC (arcAt l i))[c]? := fun c hc => by
      rw [Nat.zero_add, World.ownsRow.cellAt h _ (by omega)]
      exact arcsC_get l i c hi hc
    exact ⟨h3 0 (by omega), h3 1 (by omega), h3 2 (by omega)⟩
theorem ARow.kp {w w' : World} {base : Nat} {v : Value} {l : List DArc} {M : Nat → Prop} (h : ARow w base v l) (hk : Kp M w w') (hm : ∀ g, v.ownBlock = some g → ¬ M g) : ARow w' base v l :=
  owns_same h fun g hg => hk.block g (h.lt g hg).2 (hm g hg)
theorem NumB.kp {w w' : World} {c n : Nat} {M : Nat → Prop} (h : NumB w c n) (hk : Kp M w w') (hm : ¬ M c) : NumB w' c n := (hk.block c h.lt hm).trans h
theorem StB.kp {w w' : World} {p : Nat} {v : Value} {f : Bool} {n : Nat} {M : Nat → Prop} (h : StB w p v f n) (hk : Kp M w w') (hm : ¬ M p) : StB w' p v f n := (hk.block p h.lt hm).trans h
theorem StB.free {w : World} {p : Nat} {v : Value} {f : Bool} {n : Nat} (h : StB w p v f n) (o : Nat) : w.frozen? ⟨p, o, none⟩ = false := by
  unfold StB at h
  simp [World.frozen?, h]
theorem StB.set2 {w : World} {p : Nat} {v : Value} {f : Bool} {n : Nat} (h : StB w p v f n) (m : Nat) : StB (w.setCell ⟨p, 2, none⟩ (.int .u64 (m : Int))) p v f m := cells_setCell h 2 _
def stC (x : Value × DSt) : List Value := [x.1, .bool x.2.fin, .int .u64 (x.2.out : Int)]
def stsC (l : List (Value × DSt)) : List Value := l.flatMap stC
def SRow (w : World) (base : Nat) (v : Value) (l : List (Value × DSt)) : Prop := w.ownsRow base 64 3 v l.length (stsC l)
theorem iState : (Tryd.prog.info? 64).map (fun i => (i.zero, i.size, i.bytes)) = some (some (.agg #[.slice none 0 0, .bool false, .int .u64 0]), 3, 40) := by kernel_rfl
theorem stsC_append (A B : List (Value × DSt)) : stsC (A ++ B) = stsC A ++ stsC B := by simp [stsC]
theorem stsC_length (l : List (Value × DSt)) : (stsC l).length = l.length * 3 := by
  unfold stsC
  induction l with
  | nil => rfl
  | cons x l ih => rw [List.flatMap_cons, List.length_append, ih]; simp [stC]; omega
theorem stsC_snoc (A : List (Value × DSt)) (x : Value × DSt) : stsC (A ++ [x]) = stsC A ++ stC x := by rw [stsC_append]; simp [stsC]
theorem arcsC_snoc (A : List DArc) (x : DArc) : arcsC (A ++ [x]) = arcsC A ++ arcC x := by rw [arcsC_append]; simp [arcsC]
def stAt (l : List DSt) (i : Nat) : DSt := l.getD i default
theorem stAt_lt {l : List DSt} {i : Nat} (h : i < l.length) : stAt l i = l[i] := by simp [stAt, List.getD, h]
theorem Arcs.below {w w' : World} {v : Value} {l : List DArc} (h : Arcs w v l) (hb : Below w.heap.size w w') : Arcs w' v l := by
  obtain ⟨ad, c, hv, hc⟩ := h
  refine ⟨ad, c, hv, fun i hi => ?_⟩
  obtain ⟨b, o, ha, hE⟩ := hc i hi
  exact ⟨b, o, ha, hE.kept (hb.block b hE.lt)⟩
def StIn (w : World) (b o : Nat) (s : DSt) : Prop :=
  ∃ v, w.cell? ⟨b, o, none⟩ = some v ∧ w.cell? ⟨b, o + 1, none⟩ = some (.bool s.fin) ∧ w.cell? ⟨b, o + 2, none⟩ = some (.int .u64 (s.out : Int)) ∧ Arcs w v s.arcs
theorem StIn.below {w w' : World} {b o : Nat} {s : DSt} (h : StIn w b o s) (hb : Below w.heap.size w w') : StIn w' b o s := by
  obtain ⟨v, h1, h2, h3, h4⟩ := h
  have hs := hb.block b (block_lt_of_cell h1)
  exact ⟨v, (cell_same hs).trans h1, (cell_same hs).trans h2, (cell_same hs).trans h3, h4.below hb⟩
def Sts (w : World) (v : Value) (l : List DSt) : Prop :=
  ∃ ad c, v = .slice ad l.length c ∧ ∀ i, i < l.length → ∃ b o, ad = some ⟨b, o, none⟩ ∧ StIn w b (o + i * 3) (stAt l i)
theorem Sts.below {w w' : World} {v : Value} {l : List DSt} (h : Sts w v l) (hb : Below w.heap.size w w') : Sts w' v l := by
  obtain ⟨ad, c, hv, hc⟩ := h
  refine ⟨ad, c, hv, fun i hi => ?_⟩
  obtain ⟨b, o, ha, hE⟩ := hc i hi
  exact ⟨b, o, ha, hE.below hb⟩
theorem stsC_get : ∀ (l : List (Value × DSt)) (i c : Nat) (h : i < l.length), c < 3 → (stsC l)[i * 3 + c]? = (stC l[i])[c]?
  | [], i, c, h, _ => by simp at h
  | x :: l, 0, c, _, hc => by
    have : stsC (x :: l) = stC x ++ stsC l := by simp [stsC]
    rw [this, Nat.zero_mul, Nat.zero_add, List.getElem?_append_left (by simp [stC]; omega)]
    rfl
  | x :: l, i + 1, c, h, hc => by
    have e : stsC (x :: l) = stC x ++ stsC l := by simp [stsC]
    rw [e, List.getElem?_append_right (by simp [stC]; omega)]
    have := stsC_get l i c (by simpa using h) hc
    rw [show (i + 1) * 3 + c - (stC x).length = i * 3 + c by simp [stC]; omega, this]
    rfl
theorem sts_of' {w : World} {base : Nat} {vs : Value} {xs : List (Value × DSt)} (hs : SRow w base vs xs) (ha : ∀ x ∈ xs, Arcs w x.1 x.2.arcs) : Sts w vs (xs.map (·.2)) := by
  rcases id hs.2 with ⟨rfl, h0⟩ | ⟨g, cap, cur, rfl, _, hg, _, _, _, ht⟩
  · refine ⟨none, 0, by simp at h0; simp [h0], fun i hi => ?_⟩
    simp at h0
    simp [h0] at hi
  · refine ⟨_, cap, by rw [List.length_map], fun i hi => ⟨g, 0, rfl, ?_⟩⟩
    have hi' : i < xs.length := by simpa using hi
    have h3 : ∀ c, c < 3 → w.cell? ⟨g, 0 + i * 3 + c, none⟩ = (stC xs[i])[c]? := fun c hc => by
      rw [Nat.zero_add, World.ownsRow.cellAt hs _ (by omega)]
      exact stsC_get xs i c hi' hc
    have e : stAt (xs.map (·.2)) i = xs[i].2 := by rw [stAt_lt hi]; simp
    rw [e]
    exact ⟨xs[i].1, h3 0 (by omega), h3 1 (by omega), h3 2 (by omega), ha _ (List.getElem_mem hi')⟩
theorem arcs_nil (W : World) : Arcs W (.slice none 0 0) [] := ⟨none, 0, rfl, fun i hi => by simp at hi⟩
theorem Arcs.next {W : World} {v : Value} {l : List DArc} {o : Obj} (h : Arcs W v l) : Arcs (W.alloc o) v l := h.below (below_alloc W o)
theorem Sts.next {W : World} {v : Value} {l : List DSt} {o : Obj} (h : Sts W v l) : Sts (W.alloc o) v l := h.below (below_alloc W o)
theorem iArc : (Tryd.prog.info? 66).map (fun i => (i.zero, i.size, i.bytes)) = some (some (.agg #[.int .u8 0, .int .u64 0, .int .i64 0]), 3, 24) := by kernel_rfl
theorem SRow.form {w : World} {base : Nat} {v : Value} {l : List (Value × DSt)} (h : SRow w base v l) : ∃ ad c, v = .slice ad l.length c := by
  rcases h.2 with ⟨rfl, h0⟩ | ⟨g, cap, cur, rfl, _⟩
  · exact ⟨none, 0, by rw [h0]⟩
  · exact ⟨_, _, rfl⟩
theorem ARow.form {w : World} {base : Nat} {v : Value} {l : List DArc} (h : ARow w base v l) : ∃ ad c, v = .slice ad l.length c := by
  obtain ⟨ad, c, h, -⟩ := h.arcs
  exact ⟨ad, c, h⟩

end Go.Proofs.YtjiilmiikejnhaaDoor
namespace Go.Proofs.YtjiilmiikejnhaaDoor
open Go.RowKit Go.Shelf

/-- Rows just written out. -/
theorem arcs_lit {W : World} {g : Nat} (l : List DArc) (hl : l.length ≤ 100000) (hg : g = W.heap.size) : Arcs (W.alloc (.cells (arcsC l).toArray 66)) (.slice (some ⟨g, 0, none⟩) l.length l.length) l := by
  subst hg
  refine ARow.arcs (base := 0) ⟨arcsC_length l, .inr ⟨W.heap.size, l.length, (arcsC l).toArray, rfl, Nat.zero_le _, heap_alloc_new W _, Nat.le_refl _, by unfold maxLen; omega, by simp [arcsC_length], ?_⟩⟩
  rw [← arcsC_length l]
  simp
theorem sts_lit {W : World} {g : Nat} (xs : List (Value × DSt)) (hl : xs.length ≤ 100000) (hg : g = W.heap.size) (ha : ∀ x ∈ xs, Arcs W x.1 x.2.arcs) : Sts (W.alloc (.cells (stsC xs).toArray 64)) (.slice (some ⟨g, 0, none⟩) xs.length xs.length) (xs.map (·.2)) := by
  subst hg
  refine sts_of' (base := 0) ⟨stsC_length xs, .inr ⟨W.heap.size, xs.length, (stsC xs).toArray, rfl, Nat.zero_le _, heap_alloc_new W _, Nat.le_refl _, by unfold maxLen; omega, by simp [stsC_length], ?_⟩⟩ fun x hx => (ha x hx).next
  rw [← stsC_length xs]
  simp

def allocs (w : World) (l : List Obj) : World := l.foldl World.alloc w
theorem allocs_cons (w : World) (o : Obj) (l : List Obj) : allocs w (o :: l) = allocs (w.alloc o) l := rfl
theorem allocs_heap : ∀ (l : List Obj) (w : World), (allocs w l).heap = w.heap ++ l.toArray
  | [], w => by simp [allocs]
  | o :: l, w => by
    show (allocs (w.alloc o) l).heap = _
    rw [allocs_heap l]
    simp [World.alloc, -World.alloc_eq]
theorem allocs_get {w : World} {l : List Obj} {k : Nat} {o : Obj} (h : l[k]? = some o) : (allocs w l).heap[w.heap.size + k]? = some o := by
  rw [allocs_heap, Array.getElem?_append_right (by omega)]
  simpa using h
theorem allocs_below : ∀ (l : List Obj) (w : World), Below w.heap.size w (allocs w l)
  | [], w => Below.refl _ _
  | o :: l, w => (below_alloc w o).trans ((allocs_below l (w.alloc o)).mono (by simp))

theorem arcs_at {W : World} {g : Nat} (l : List DArc) (hl : l.length ≤ 100000) (h : W.heap[g]? = some (.cells (arcsC l).toArray 66 (0, 0))) : Arcs W (.slice (some ⟨g, 0, none⟩) l.length l.length) l := by
  refine ARow.arcs (base := 0) ⟨arcsC_length l, .inr ⟨g, l.length, (arcsC l).toArray, rfl, Nat.zero_le _, h, Nat.le_refl _, by unfold maxLen; omega, by simp [arcsC_length], ?_⟩⟩
  rw [← arcsC_length l]
  simp
theorem sts_at {W : World} {g : Nat} (xs : List (Value × DSt)) (hl : xs.length ≤ 100000) (h : W.heap[g]? = some (.cells (stsC xs).toArray 64 (0, 0))) (ha : ∀ x ∈ xs, Arcs W x.1 x.2.arcs) : Sts W (.slice (some ⟨g, 0, none⟩) xs.length xs.length) (xs.map (·.2)) := by
  refine sts_of' (base := 0) ⟨stsC_length xs, .inr ⟨g, xs.length, (stsC xs).toArray, rfl, Nat.zero_le _, h, Nat.le_refl _, by unfold maxLen; omega, by simp [stsC_length], ?_⟩⟩ ha
  rw [← stsC_length xs]
  simp

/-- Transducers that are read, in a row. -/
def Bads (W : World) (b : Nat) (xs : List (Value × List DSt × Nat)) : Prop := ∀ k (h : k < xs.length), W.cell? ⟨b, k * 2, none⟩ = some xs[k].1 ∧ W.cell? ⟨b, k * 2 + 1, none⟩ = some (.int .u64 (xs[k].2.2 : Int)) ∧ Sts W xs[k].1 xs[k].2.1
theorem Bads.below {W W' : World} {b : Nat} {xs : List (Value × List DSt × Nat)} (h : Bads W b xs) (hb : Below W.heap.size W W') : Bads W' b xs := fun k hk => by
  obtain ⟨h1, h2, h3⟩ := h k hk
  exact ⟨(cell_same (hb.block b (block_lt_of_cell h1))).trans h1, (cell_same (hb.block b (block_lt_of_cell h2))).trans h2, h3.below hb⟩

end Go.Proofs.YtjiilmiikejnhaaDoor

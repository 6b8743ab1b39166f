/-
  Rows of bytes in blocks of their own: what append leaves of them, in their own block or in a new one, and what stays beside it. A file in memory: its three cells, its bytes, its acts; what is kept of it; what is told of it. What has parts, each with blocks of its own. The calls below a file's: bytes cloned, an act done, acts done one behind the other, what is settled. An act, done: it stands in the row of acts, and what is read is what it makes of that. Acts done one behind the other; a choice held against what there is.
-/
import Derived.Test.YtmmoilmfpiclgaaGreatT04
import Derived.Test.YtmmoilmfpiclgaaGreatT05
import Derived.ArgAppend
import Derived.Laws.IdiomCopy
import Derived.Maps.AppendAt
set_option linter.unusedVariables false
set_option linter.unusedSimpArgs false
namespace Go.Proofs.YtmmoilmfpiclgaaGreat
open Go.RowKit Go.Shelf

theorem i5' : (Tryz.prog.info? 5).map (fun i => (i.zero, i.size, i.bytes)) = some (some (.int .u8 0), 1, 1) := by kernel_rfl

/-- Bytes as cells. -/
def bys (l : List UInt8) : List Value := l.map fun x => Value.int .u8 (x.toNat : Int)
theorem bys_length (l : List UInt8) : (bys l).length = l.length := List.length_map ..
theorem bys_append (a b : List UInt8) : bys (a ++ b) = bys a ++ bys b := List.map_append
theorem bys_take (l : List UInt8) (n : Nat) : bys (l.take n) = (bys l).take n := List.map_take ..
theorem bys_drop (l : List UInt8) (n : Nat) : bys (l.drop n) = (bys l).drop n := List.map_drop ..
theorem bys_one (l : List UInt8) : ∀ u ∈ bys l, u.oneCell' = true := by
  intro u hu
  obtain ⟨x, _, rfl⟩ := List.mem_map.1 hu
  rfl

def capOf : Value → Nat
  | .slice _ _ c => c
  | _ => 0

/-- A block of bytes, none of which a string shares. -/
def Block (w : World) (g cap : Nat) (cs : Array Value) : Prop := ∃ fz : Nat × Nat, w.heap[g]? = some (.cells cs 5 fz) ∧ cs.size = cap ∧ ∀ j, j < cap → ¬ (fz.1 ≤ j ∧ j < fz.2)

/-- v is a slice that begins with its block, and holds these bytes. -/
def BRow (w : World) (v : Value) (l : List UInt8) : Prop :=
  (v = .slice none 0 0 ∧ l = []) ∨ ∃ g cap cs, v = .slice (some ⟨g, 0, none⟩) l.length cap ∧ l.length ≤ cap ∧ cap ≤ 9223372036854775807 ∧ Block w g cap cs ∧ cs.toList.take l.length = bys l

theorem Block.lt {w : World} {g cap : Nat} {cs : Array Value} (h : Block w g cap cs) : g < w.heap.size := by
  obtain ⟨fz, h, _⟩ := h
  exact (Array.getElem?_eq_some_iff.1 h).1
theorem Block.kept {w w' : World} {g cap : Nat} {cs : Array Value} {row : Option Nat} (h : Block w g cap cs) (hg : w.grownBy w' row) (hne : some g ≠ row) : Block w' g cap cs := by
  have hl := h.lt
  obtain ⟨fz, h1, h2⟩ := h
  exact ⟨fz, (hg.block g hl hne).trans h1, h2⟩
theorem Block.cell {w : World} {g cap : Nat} {cs : Array Value} (h : Block w g cap cs) (j : Nat) : w.cell? ⟨g, j, none⟩ = cs[j]? := by
  obtain ⟨fz, h, _⟩ := h
  exact cell_of_row w g j cs 5 fz h
theorem Block.free {w : World} {g cap : Nat} {cs : Array Value} (h : Block w g cap cs) (j : Nat) (hj : j < cap) : w.frozen? ⟨g, j, none⟩ = false := by
  obtain ⟨fz, h, _, hf⟩ := h
  have := hf j hj
  simp only [World.frozen?, h]
  simpa using this

theorem brow_nil (w : World) : BRow w (.slice none 0 0) [] := .inl ⟨rfl, rfl⟩

theorem BRow.own_lt {w : World} {v : Value} {l : List UInt8} (h : BRow w v l) : ∀ g, v.ownBlock = some g → g < w.heap.size := by
  intro g hg
  rcases h with ⟨rfl, _⟩ | ⟨g', cap, cs, rfl, _, _, hb, _⟩
  · cases hg
  · cases hg; exact hb.lt
theorem BRow.kept {w w' : World} {v : Value} {l : List UInt8} {row : Option Nat} (h : BRow w v l) (hg : w.grownBy w' row) (hne : ∀ g, v.ownBlock = some g → some g ≠ row) : BRow w' v l := by
  rcases h with h | ⟨g, cap, cs, rfl, h1, h2, hb, h3⟩
  · exact .inl h
  · exact .inr ⟨g, cap, cs, rfl, h1, h2, hb.kept hg (hne g rfl), h3⟩
theorem BRow.shape {w : World} {v : Value} {l : List UInt8} (h : BRow w v l) : ∃ ad c, v = .slice ad l.length c ∧ l.length ≤ c ∧ c ≤ 9223372036854775807 := by
  rcases h with ⟨rfl, rfl⟩ | ⟨g, cap, cs, rfl, h1, h2, _⟩
  · exact ⟨none, 0, rfl, Nat.le_refl _, by omega⟩
  · exact ⟨_, cap, rfl, h1, h2⟩
theorem BRow.cells {w : World} {b o n c : Nat} {l : List UInt8} (h : BRow w (.slice (some ⟨b, o, none⟩) n c) l) : o = 0 ∧ ∀ j u, (bys l)[j]? = some u → w.cell? ⟨b, j, none⟩ = some u := by
  rcases h with ⟨h, _⟩ | ⟨g, cap, cs, hv, _, _, hb, ht⟩
  · cases h
  · cases hv
    refine ⟨rfl, fun j u hj => ?_⟩
    rw [hb.cell, ← Array.getElem?_toList]
    rw [← ht, List.getElem?_take] at hj
    split at hj
    · exact hj
    · cases hj

/-- Another slice of the same block, that holds a beginning of its bytes. -/
theorem BRow.pre {w : World} {v : Value} {l m : List UInt8} {g : Nat} {c : Nat} (h : BRow w v l) (hg : v.ownBlock = some g) (hc : capOf v = c) (hm : m <+: l) : BRow w (.slice (some ⟨g, 0, none⟩) m.length c) m := by
  rcases h with ⟨rfl, _⟩ | ⟨g', cap, cs, rfl, h1, h2, hb, ht⟩
  · cases hg
  · cases hg
    have hc' : cap = c := hc
    subst hc'
    have hle := hm.length_le
    refine .inr ⟨g', cap, cs, rfl, by omega, h2, hb, ?_⟩
    obtain ⟨r, rfl⟩ := hm
    have := congrArg (List.take m.length) ht
    rw [List.take_take, Nat.min_eq_left hle, bys_append, ← bys_length m, List.take_left] at this
    rw [← bys_length m]; exact this

theorem brow_of_owns {w : World} {base : Nat} {v : Value} {l : List UInt8} (h : w.ownsRow base 5 1 v l.length (bys l)) : BRow w v l := by
  rcases h.2 with ⟨rfl, h0⟩ | ⟨g, cap, cur, rfl, _, hg, h1, h2, h3, ht⟩
  · exact .inl ⟨rfl, List.length_eq_zero_iff.1 h0⟩
  · exact .inr ⟨g, cap, cur, rfl, h1, by unfold maxLen at h2; exact h2, ⟨(0, 0), hg, by omega, fun j _ h => by omega⟩, by rw [← ht, Nat.mul_one]⟩

theorem grown_setCells (b : Nat) : ∀ (vs : List Value) (o : Nat) (w : World), w.grownBy (w.setCells b o vs) (some b)
  | [], _, _ => ⟨rfl, rfl, rfl, Nat.le_refl _, fun _ _ _ => rfl⟩
  | v :: r, o, w => by
    have h1 := grown_setCell w b o v
    have h2 := grown_setCells b r (o + 1) (w.setCell ⟨b, o, none⟩ v)
    exact ⟨h2.os.trans h1.os, h2.tape.trans h1.tape, h2.output.trans h1.output, Nat.le_trans h1.size h2.size, fun k hk hn => (h2.block k (Nat.lt_of_lt_of_le hk h1.size) hn).trans (h1.block k hk hn)⟩

theorem setCell_heap {w : World} {b : Nat} {cs : Array Value} {T : TypeId} {fz : Nat × Nat} (h : w.heap[b]? = some (.cells cs T fz)) (i : Nat) (v : Value) : (w.setCell ⟨b, i, none⟩ v).heap[b]? = some (.cells (cs.setIfInBounds i v) T fz) := by
  obtain ⟨hlt, hk⟩ := Array.getElem?_eq_some_iff.1 h
  show (w.heap.modify b _)[b]? = _
  rw [Array.getElem?_eq_getElem (by rw [Array.size_modify]; exact hlt), Array.getElem_modify_self, hk]
  rfl

theorem setCells_heap {T : TypeId} {fz : Nat × Nat} (b : Nat) : ∀ (vs : List Value) (o : Nat) (w : World) (cs : Array Value), w.heap[b]? = some (.cells cs T fz) → o + vs.length ≤ cs.size →
    ∃ cs', (w.setCells b o vs).heap[b]? = some (.cells cs' T fz) ∧ cs'.size = cs.size ∧ cs'.toList.take (o + vs.length) = cs.toList.take o ++ vs
  | [], o, w, cs, h, _ => ⟨cs, h, rfl, by simp⟩
  | v :: r, o, w, cs, h, hl => by
    simp only [List.length_cons] at hl
    obtain ⟨cs', h1, h2, h3⟩ := setCells_heap b r (o + 1) (w.setCell ⟨b, o, none⟩ v) (cs.setIfInBounds o v) (setCell_heap h o v) (by simp; omega)
    refine ⟨cs', h1, by rw [h2]; simp, ?_⟩
    rw [List.length_cons, show o + (r.length + 1) = o + 1 + r.length by omega, h3]
    rw [Array.toList_setIfInBounds, List.take_succ_eq_append_getElem (by simp; omega), List.getElem_set_self]
    rw [List.take_set_of_le (by omega)]
    simp

/-- What an append to v leaves: in its own block, with as much room, or a new one. -/
def Onto (w w' : World) (v v' : Value) : Prop :=
  (v'.ownBlock = v.ownBlock ∧ capOf v' = capOf v ∧ w.grownBy w' v.ownBlock) ∨ ((∃ g, v'.ownBlock = some g ∧ w.heap.size ≤ g) ∧ w.grownBy w' none)

theorem grownBy_none {w w' : World} {row : Option Nat} (h : w.grownBy w' none) : w.grownBy w' row := ⟨h.os, h.tape, h.output, h.size, fun k hk _ => h.block k hk (by simp)⟩
theorem Onto.grown {w w' : World} {v v' : Value} (h : Onto w w' v v') : w.grownBy w' v.ownBlock := by
  rcases h with ⟨_, _, h⟩ | ⟨_, h⟩
  · exact h
  · exact grownBy_none h

theorem run_append_brow (w : World) (v : Value) (l : List UInt8) (a : Addr) (m c : Nat) (news : List UInt8) (hl : news.length = m) (hnews : ∀ j u, (bys news)[j]? = some u → w.cell? (a.add j) = some u) (hv : BRow w v l) (hlen : l.length + m ≤ 1000000) :
    ∃ v' w', (Builtin.append_ #[121, 121] 121 #[v, .slice (some a) m c]).run Tryz.prog w = .ok v' w' ∧ BRow w' v' (l ++ news) ∧ Onto w w' v v' := by
  obtain ⟨i0, hi, hz0, hz1, hz2⟩ := info_parts i5'
  subst hl
  have hlb : (bys news).length = news.length * 1 := by rw [bys_length, Nat.mul_one]
  rcases hv with ⟨rfl, rfl⟩ | ⟨g, cap, cs, rfl, h1, h2, hb, ht⟩
  · obtain ⟨v', w', hr, ho, hg, hnil⟩ := run_append_own (P := Tryz.prog) w w.heap.size 121 121 5 i0 (.int .u8 0) 1 1 Tryz.underlying121 hi hz0 hz1 hz2 rfl (by decide) (.slice none 0 0) 0 [] (World.ownsRow_nil w _ 5 1) a news.length c (bys news) hlb hnews (bys_one news) (by unfold maxLen; omega) (by omega) (Nat.le_refl _)
    rw [Nat.zero_add, List.nil_append] at ho
    refine ⟨v', w', hr, brow_of_owns ho, ?_⟩
    cases hob : v'.ownBlock with
    | none =>
      refine .inl ⟨by rw [hob]; rfl, ?_, hg⟩
      rcases ho.2 with ⟨rfl, _⟩ | ⟨g, cap, cur, rfl, _⟩
      · rfl
      · cases hob
    | some g => exact .inr ⟨⟨g, hob, (ho.lt g hob).1⟩, hg⟩
  · by_cases hroom : l.length + news.length ≤ cap
    · have hr := run_append_room_cells (P := Tryz.prog) w 121 121 5 i0 Tryz.underlying121 hi g 0 l.length cap a news.length c (bys news) (by rw [hlb, hz1]) hnews (bys_one news) hroom
        (fun j hj => by rw [hb.cell, hz1]; obtain ⟨_, _, hs, _⟩ := hb; rw [bys_length] at hj; simp; omega)
        (fun j hj => hb.free _ (by rw [bys_length] at hj; rw [hz1]; omega))
      rw [hz1, Nat.zero_add, Nat.mul_one] at hr
      obtain ⟨fz, hh, hs, hf⟩ := hb
      obtain ⟨cs', k1, k2, k3⟩ := setCells_heap g (bys news) l.length w cs hh (by rw [bys_length]; omega)
      refine ⟨_, _, hr, .inr ⟨g, cap, cs', by rw [List.length_append], by rw [List.length_append]; exact hroom, h2, ⟨fz, k1, by omega, hf⟩, ?_⟩, .inl ⟨rfl, rfl, grown_setCells g _ _ _⟩⟩
      rw [List.length_append, ← bys_length news, k3, ht, bys_append]
    · obtain ⟨v', w', hr, ho, hg⟩ := run_append_arg_grows (P := Tryz.prog) w 121 121 5 i0 (.int .u8 0) 1 1 Tryz.underlying121 hi hz0 hz1 hz2 rfl (by decide) ⟨g, 0, none⟩ l.length cap (bys l) (by rw [bys_length, Nat.mul_one])
        (fun j u hj => by
          rw [Addr.add_lit, Nat.zero_add, hb.cell, ← Array.getElem?_toList]
          rw [← ht, List.getElem?_take] at hj
          split at hj
          · exact hj
          · cases hj) a news.length c (bys news) hlb hnews (by omega) (by unfold maxLen; omega) (by omega)
      rw [← bys_append, ← List.length_append] at ho
      refine ⟨v', w', hr, brow_of_owns ho, .inr ⟨?_, hg⟩⟩
      rcases ho.2 with ⟨_, h0⟩ | ⟨g', cap', cur, rfl, hge, _⟩
      · rw [List.length_append] at h0; omega
      · exact ⟨g', rfl, hge⟩
end Go.Proofs.YtmmoilmfpiclgaaGreat
namespace Go.Proofs.YtmmoilmfpiclgaaGreat
open Go.RowKit Go.Shelf

/-- Only blocks of M have turned. -/
structure Kept (M : Nat → Prop) (w w' : World) : Prop where
  os : w'.os = w.os
  tape : w'.tape = w.tape
  output : w'.output = w.output
  size : w.heap.size ≤ w'.heap.size
  block : ∀ k, k < w.heap.size → ¬ M k → w'.heap[k]? = w.heap[k]?

theorem Kept.refl (M : Nat → Prop) (w : World) : Kept M w w := ⟨rfl, rfl, rfl, Nat.le_refl _, fun _ _ _ => rfl⟩
theorem Kept.trans {M N : Nat → Prop} {w a b : World} (h : Kept M w a) (k : Kept N a b) (hn : ∀ g, N g → M g ∨ w.heap.size ≤ g) : Kept M w b :=
  ⟨k.os.trans h.os, k.tape.trans h.tape, k.output.trans h.output, Nat.le_trans h.size k.size, fun g hg hm => (k.block g (Nat.lt_of_lt_of_le hg h.size) (fun e => by
    rcases hn g e with h' | h'
    · exact hm h'
    · omega)).trans (h.block g hg hm)⟩
theorem Kept.below {M : Nat → Prop} {w w' : World} (h : Below w.heap.size w w') : Kept M w w' := ⟨h.os, h.tape, h.output, h.size, fun k hk _ => h.block k hk⟩
theorem Kept.grown {M : Nat → Prop} {w w' : World} {row : Option Nat} (h : w.grownBy w' row) (hm : ∀ g, row = some g → M g) : Kept M w w' := ⟨h.os, h.tape, h.output, h.size, fun k hk hn => h.block k hk (fun e => hn (hm k e.symm))⟩
theorem Kept.mono {M N : Nat → Prop} {w w' : World} (h : Kept M w w') (hm : ∀ g, M g → N g ∨ w.heap.size ≤ g) : Kept N w w' := ⟨h.os, h.tape, h.output, h.size, fun k hk hn => h.block k hk (fun e => by
  rcases hm k e with h' | h'
  · exact hn h'
  · omega)⟩
theorem Kept.to {M : Nat → Prop} {base : Nat} {w w' : World} (h : Kept M w w') (hb : base ≤ w.heap.size) (hm : ∀ g, M g → base ≤ g) : Below base w w' := ⟨h.os, h.tape, h.output, h.size, fun k hk => h.block k (by omega) (fun e => by have := hm k e; omega)⟩

theorem Block.same {w w' : World} {g cap : Nat} {cs : Array Value} (h : Block w g cap cs) (he : w'.heap[g]? = w.heap[g]?) : Block w' g cap cs := by
  obtain ⟨fz, h1, h2⟩ := h
  exact ⟨fz, he.trans h1, h2⟩
theorem BRow.same {w w' : World} {v : Value} {l : List UInt8} (h : BRow w v l) (he : ∀ g, v.ownBlock = some g → w'.heap[g]? = w.heap[g]?) : BRow w' v l := by
  rcases h with h | ⟨g, cap, cs, rfl, h1, h2, hb, h3⟩
  · exact .inl h
  · exact .inr ⟨g, cap, cs, rfl, h1, h2, hb.same (he g rfl), h3⟩
theorem BRow.below {w w' : World} {v : Value} {l : List UInt8} (h : BRow w v l) (hb : Below w.heap.size w w') : BRow w' v l := h.same fun g hg => hb.block g (h.own_lt g hg)
theorem BRow.mem {w : World} {v : Value} {l : List UInt8} (h : BRow w v l) {g : Nat} (hg : v.ownBlock = some g) : ∃ cs fz, w.heap[g]? = some (.cells cs 5 fz) := by
  rcases h with ⟨rfl, _⟩ | ⟨g', cap, cs, rfl, _, _, ⟨fz, hh, _⟩, _⟩
  · cases hg
  · cases hg; exact ⟨cs, fz, hh⟩
theorem owns_same {w w' : World} {base size n : Nat} {e : TypeId} {v : Value} {xs : List Value} (h : w.ownsRow base e size v n xs) (he : ∀ g, v.ownBlock = some g → w'.heap[g]? = w.heap[g]?) : w'.ownsRow base e size v n xs := by
  refine ⟨h.1, ?_⟩
  rcases h.2 with h' | ⟨g, cap, cur, rfl, h2, h3, h4⟩
  · exact .inl h'
  · exact .inr ⟨g, cap, cur, rfl, h2, (he g rfl).trans h3, h4⟩

/-- An act, as the closure that it is. -/
def ActAt (w : World) (f : Value) (a : Do) (I : Nat → Prop) : Prop :=
  match a with
  | .app b => ∃ c v, f = .func (.func 114) #[] #[.pointer (some ⟨c, 0, none⟩)] ∧ w.heap[c]? = some (.cells #[v] 121 (0, 0)) ∧ BRow w v b ∧ I c ∧ ∀ g, v.ownBlock = some g → I g
  | .cut n => ∃ c, f = .func (.func 132) #[] #[.pointer (some ⟨c, 0, none⟩)] ∧ w.heap[c]? = some (.cells #[.int .i64 (n : Int)] 3 (0, 0)) ∧ I c

theorem ActAt.same {w w' : World} {f : Value} {a : Do} {I J : Nat → Prop} (h : ActAt w f a I) (he : ∀ g, I g → w'.heap[g]? = w.heap[g]?) (hj : ∀ g, I g → J g) : ActAt w' f a J := by
  cases a with
  | app b =>
    obtain ⟨c, v, h1, h2, h3, h4, h5⟩ := h
    exact ⟨c, v, h1, (he c h4).trans h2, h3.same fun g hg => he g (h5 g hg), hj c h4, fun g hg => hj g (h5 g hg)⟩
  | cut n =>
    obtain ⟨c, h1, h2, h3⟩ := h
    exact ⟨c, h1, (he c h3).trans h2, hj c h3⟩

/-- The acts of a row. -/
def ActsAt (w : World) (fs : List Value) (A : List Do) (I : Nat → Prop) : Prop := fs.length = A.length ∧ ∀ k (h : k < A.length), ∃ f, fs[k]? = some f ∧ ActAt w f A[k] I

theorem ActsAt.same {w w' : World} {fs : List Value} {A : List Do} {I J : Nat → Prop} (h : ActsAt w fs A I) (he : ∀ g, I g → w'.heap[g]? = w.heap[g]?) (hj : ∀ g, I g → J g) : ActsAt w' fs A J :=
  ⟨h.1, fun k hk => by
    obtain ⟨f, h1, h2⟩ := h.2 k hk
    exact ⟨f, h1, h2.same he hj⟩⟩

/-- A file: M: the blocks that it writes; I: what its acts have caught. -/
structure FileAt (w : World) (p : Nat) (D : List UInt8) (A : List Do) (M I : Nat → Prop) : Prop where
  it : ∃ dv av rv fs, w.heap[p]? = some (.cells #[dv, av, rv] 124 (0, 0)) ∧ BRow w dv D ∧ BRow w rv (reads D A) ∧ w.ownsRow 0 140 1 av A.length fs ∧ ActsAt w fs A I ∧
    (dv.ownBlock = rv.ownBlock → capOf dv = capOf rv ∧ D <+: reads D A) ∧ M p ∧ (∀ g, dv.ownBlock = some g → M g) ∧ (∀ g, rv.ownBlock = some g → M g) ∧ (∀ g, av.ownBlock = some g → M g)
  fits : Fits D A
  small : bulk D A ≤ 100000
  mem : ∀ g, M g ∨ I g → g < w.heap.size
  apart : ∀ g, I g → ¬ M g

theorem FileAt.same {w w' : World} {p : Nat} {D : List UInt8} {A : List Do} {M I : Nat → Prop} (h : FileAt w p D A M I) (he : ∀ g, M g ∨ I g → w'.heap[g]? = w.heap[g]?) (hs : w.heap.size ≤ w'.heap.size) : FileAt w' p D A M I := by
  obtain ⟨dv, av, rv, fs, h1, h2, h3, h4, h5, h6, h7, h8, h9, h10⟩ := h.it
  exact ⟨⟨dv, av, rv, fs, (he p (.inl h7)).trans h1, h2.same fun g hg => he g (.inl (h8 g hg)), h3.same fun g hg => he g (.inl (h9 g hg)), owns_same h4 fun g hg => he g (.inl (h10 g hg)), h5.same (fun g hg => he g (.inr hg)) (fun _ h => h), h6, h7, h8, h9, h10⟩,
    h.fits, h.small, fun g hg => Nat.lt_of_lt_of_le (h.mem g hg) hs, h.apart⟩
theorem FileAt.kept {w w' : World} {p : Nat} {D : List UInt8} {A : List Do} {M I N : Nat → Prop} (h : FileAt w p D A M I) (hk : Kept N w w') (hn : ∀ g, M g ∨ I g → ¬ N g) : FileAt w' p D A M I :=
  h.same (fun g hg => hk.block g (h.mem g hg) (hn g hg)) hk.size
theorem FileAt.below {w w' : World} {p : Nat} {D : List UInt8} {A : List Do} {M I : Nat → Prop} (h : FileAt w p D A M I) (hb : Below w.heap.size w w') : FileAt w' p D A M I :=
  h.same (fun g hg => hb.block g (h.mem g hg)) hb.size

set_option maxRecDepth 100000 in
theorem conv_str {w : World} {v : Value} {l : List UInt8} (h : BRow w v l) : (convert 121 9 v).run Tryz.prog w = .ok (.string ⟨l.toArray⟩) w := by
  rcases h with ⟨rfl, rfl⟩ | ⟨g, cap, cs, rfl, h1, h2, hb, ht⟩
  · kernel_rfl
  · refine rowOf_str (c := cap) ⟨fun i hi => ?_, fun i hi => hb.free i (by omega)⟩
    rw [hb.cell, ← Array.getElem?_toList]
    have hx : (bys l)[i]? = some (.int .u8 ((l.getD i 0).toNat : Int)) := by simp [bys, hi]
    rw [← ht, List.getElem?_take, if_pos hi] at hx
    exact hx

set_option maxHeartbeats 1000000 in
set_option maxRecDepth 100000 in
theorem len_any {w : World} {p : Nat} {D : List UInt8} {A : List Do} {M I : Nat → Prop} (h : FileAt w p D A M I) :
    Calls Tryz.prog 91 #[.pointer (some ⟨p, 0, none⟩)] w fun e w' => e = .returned (.int .i64 ((reads D A).length : Nat)) ∧ w = w' := by
  obtain ⟨dv, av, rv, fs, h1, h2, h3, h4, h5, h6, h7, h8, h9, h10⟩ := h.it
  have k2 : w.cell? ⟨p, 2, none⟩ = some rv := by rw [cell_of_row w p 2 _ _ _ h1]; rfl
  obtain ⟨ad, c, rfl, _, _⟩ := h3.shape
  clear h1 h2 h3 h4 h5 h6 h7 h8 h9 h10 h
  go_enter Tryz.func91, Tryz.ntmps91
  go_wp2
  go_ret
  exact ⟨rfl, rfl⟩


set_option maxHeartbeats 1000000 in
set_option maxRecDepth 100000 in
theorem bytes_any {w : World} {p : Nat} {D : List UInt8} {A : List Do} {M I : Nat → Prop} (h : FileAt w p D A M I) :
    Calls Tryz.prog 88 #[.pointer (some ⟨p, 0, none⟩)] w fun e w' => e = .returned (.string ⟨(reads D A).toArray⟩) ∧ w = w' := by
  obtain ⟨dv, av, rv, fs, h1, h2, h3, h4, h5, h6, h7, h8, h9, h10⟩ := h.it
  have k2 : w.cell? ⟨p, 2, none⟩ = some rv := by rw [cell_of_row w p 2 _ _ _ h1]; rfl
  have hcv := conv_str h3
  obtain ⟨R, hR⟩ : ∃ R : ByteArray, ⟨(reads D A).toArray⟩ = R := ⟨_, rfl⟩
  rw [hR] at hcv ⊢
  obtain ⟨ad, c, rfl, _, _⟩ := h3.shape
  clear h1 h2 h3 h4 h5 h6 h7 h8 h9 h10 h hR
  go_enter Tryz.func88, Tryz.ntmps88
  go_wp2
  go_ret
  exact ⟨rfl, rfl⟩

end Go.Proofs.YtmmoilmfpiclgaaGreat
namespace Go.Proofs.YtmmoilmfpiclgaaGreat
open Go.RowKit Go.Shelf

/-- The blocks of the parts: which ones part k writes, which ones it only reads. -/
structure Parts (w : World) (M I : Nat → Nat → Prop) : Prop where
  mem : ∀ k g, M k g ∨ I k g → g < w.heap.size
  apart : ∀ k l g, k ≠ l → M k g → ¬ M l g
  read : ∀ k l g, I k g → ¬ M l g

def pput (X : Nat → Nat → Prop) (k : Nat) (Y : Nat → Prop) : Nat → Nat → Prop := fun l => if l = k then Y else X l
theorem pput_same (X : Nat → Nat → Prop) (k : Nat) (Y : Nat → Prop) : pput X k Y k = Y := if_pos rfl
theorem pput_other (X : Nat → Nat → Prop) {k l : Nat} (Y : Nat → Prop) (h : l ≠ k) : pput X k Y l = X l := if_neg h

def All (X : Nat → Nat → Prop) (g : Nat) : Prop := ∃ k, X k g

theorem all_pput {X : Nat → Nat → Prop} {k n : Nat} {Y : Nat → Prop} (h : ∀ g, Y g → X k g ∨ n ≤ g) : ∀ g, All (pput X k Y) g → All X g ∨ n ≤ g := fun g ⟨l, hl⟩ => by
  by_cases e : l = k
  · subst e
    rw [pput_same] at hl
    exact (h g hl).imp (fun h => ⟨l, h⟩) id
  · rw [pput_other _ _ e] at hl
    exact .inl ⟨l, hl⟩
theorem Kept.all {M : Nat → Nat → Prop} {k : Nat} {w w' : World} (h : Kept (M k) w w') : Kept (All M) w w' := h.mono fun _ hg => .inl ⟨k, hg⟩

theorem Parts.grow {w w' : World} {M I : Nat → Nat → Prop} (h : Parts w M I) (hs : w.heap.size ≤ w'.heap.size) : Parts w' M I := ⟨fun k g hg => Nat.lt_of_lt_of_le (h.mem k g hg) hs, h.apart, h.read⟩
theorem Parts.kept {w w' : World} {M I : Nat → Nat → Prop} (h : Parts w M I) {j : Nat} (hk : Kept (M j) w w') {k : Nat} (hn : k ≠ j) (g : Nat) (hg : M k g ∨ I k g) : w'.heap[g]? = w.heap[g]? :=
  hk.block g (h.mem k g hg) fun hm => by
    rcases hg with hg | hg
    · exact h.apart k j g hn hg hm
    · exact h.read k j g hg hm
theorem Parts.step {w w' : World} {M I : Nat → Nat → Prop} (h : Parts w M I) (k : Nat) {M' I' : Nat → Prop} (hs : w.heap.size ≤ w'.heap.size) (hM : ∀ g, M' g → M k g ∨ w.heap.size ≤ g) (hI : ∀ g, I' g → I k g ∨ w.heap.size ≤ g)
    (hm : ∀ g, M' g ∨ I' g → g < w'.heap.size) (ha : ∀ g, I' g → ¬ M' g) : Parts w' (pput M k M') (pput I k I') where
  mem := fun l g hg => by
    by_cases e : l = k
    · subst e
      rw [pput_same, pput_same] at hg
      exact hm g hg
    · rw [pput_other _ _ e, pput_other _ _ e] at hg
      exact Nat.lt_of_lt_of_le (h.mem l g hg) hs
  apart := fun a b g hab h1 h2 => by
    by_cases e : a = k
    · subst e
      have e2 : b ≠ a := fun e => hab e.symm
      rw [pput_same] at h1
      rw [pput_other _ _ e2] at h2
      rcases hM g h1 with k1 | k1
      · exact h.apart a b g hab k1 h2
      · have := h.mem b g (.inl h2)
        omega
    · rw [pput_other _ _ e] at h1
      by_cases e2 : b = k
      · subst e2
        rw [pput_same] at h2
        rcases hM g h2 with k1 | k1
        · exact h.apart a b g hab h1 k1
        · have := h.mem a g (.inl h1)
          omega
      · rw [pput_other _ _ e2] at h2
        exact h.apart a b g hab h1 h2
  read := fun a b g h1 h2 => by
    by_cases e : a = k
    · subst e
      rw [pput_same] at h1
      by_cases e2 : b = a
      · subst e2
        rw [pput_same] at h2
        exact ha g h1 h2
      · rw [pput_other _ _ e2] at h2
        rcases hI g h1 with k1 | k1
        · exact h.read a b g k1 h2
        · have := h.mem b g (.inl h2)
          omega
    · rw [pput_other _ _ e] at h1
      by_cases e2 : b = k
      · subst e2
        rw [pput_same] at h2
        rcases hM g h2 with k1 | k1
        · exact h.read a b g h1 k1
        · have := h.mem a g (.inr h1)
          omega
      · rw [pput_other _ _ e2] at h2
        exact h.read a b g h1 h2
end Go.Proofs.YtmmoilmfpiclgaaGreat
namespace Go.Proofs.YtmmoilmfpiclgaaGreat
open Go.RowKit Go.Shelf

theorem below_alloc' {w0 w : World} {o : Obj} (h : Below w0.heap.size w0 w) : Below w0.heap.size w0 (w.alloc o) := h.alloc h.size _

/-- Behind an append's run: what a walk goes on with. -/
theorem wpList_append_brow {w : World} {ops : Array Oper} {rest : List Oper} {o : Oper} {a : Act} {Q : Exit → Act → World → Prop} (hgd : o.guard = none) (s x : Operand)
    (hop : o.op = Op.call { callee := Callee.builtin Builtin.append, args := #[s, x], argTypes := #[121, 121] }) (ht : o.type = 121) (v : Value) (l : List UInt8) (ad : Addr) (m c : Nat) (news : List UInt8)
    (hs : a.eval s = v) (hx : a.eval x = .slice (some ad) m c) (hl : news.length = m) (hnews : ∀ j u, (bys news)[j]? = some u → w.cell? (ad.add j) = some u) (hv : BRow w v l) (hlen : l.length + m ≤ 1000000)
    (h : ∀ v' w', BRow w' v' (l ++ news) → Onto w w' v v' → wpList Tryz.prog ops Q rest (a.put o.dst v') w') : wpList Tryz.prog ops Q (o :: rest) a w := by
  obtain ⟨v', w1, h1, h2, h3⟩ := run_append_brow w v l ad m c news hl hnews hv hlen
  refine wpList_plain hgd fun _ hK => ?_
  unfold Oper.wp execOp
  simp only [hop, ht, resolve, invoke, builtin, Sem.run_bind, Sem.run_pure, Result.andThen_ok, List.map_toArray, List.map_cons, List.map_nil, hs, hx, h1]
  exact hK _ _ (h v' w1 h2 h3)

theorem nil_is (w : World) : Sem.run Tryz.prog (binOp .eql 121 (.slice none 0 0) (.slice none 0 0)) w = .ok (.bool true) w := by kernel_rfl
theorem nil_no (w : World) (a : Addr) (n c : Nat) : Sem.run Tryz.prog (binOp .eql 121 (.slice (some a) n c) (.slice none 0 0)) w = .ok (.bool false) w := by kernel_rfl

/-- An empty row, just made. -/
theorem brow_made (w : World) : BRow (w.alloc (.cells #[] 5)) (.slice (some ⟨w.heap.size, 0, none⟩) 0 0) [] :=
  .inr ⟨w.heap.size, 0, #[], rfl, Nat.le_refl _, by omega, ⟨(0, 0), heap_alloc_new w _, rfl, fun j h => by omega⟩, rfl⟩

set_option maxHeartbeats 1000000 in
set_option maxRecDepth 100000 in
theorem clone_any {w : World} {v : Value} {l : List UInt8} (h : BRow w v l) (hl : l.length ≤ 900000) :
    Calls Tryz.prog 105 #[v] w fun e w' => ∃ v', e = .returned v' ∧ BRow w' v' l ∧ Below w.heap.size w w' ∧ (∀ g, v'.ownBlock = some g → w.heap.size ≤ g) ∧ (v'.ownBlock = none → v.ownBlock = none) := by
  rcases id h with ⟨rfl, rfl⟩ | ⟨g, cap, cs, rfl, h1, h2, hb, ht⟩
  · go_enter Tryz.func105, Tryz.ntmps105
    have hnil := nil_is w
    go_wp2
    go_ret
    exact ⟨_, rfl, brow_nil _, Below.refl _ _, (fun g hg => by cases hg), fun _ => rfl⟩
  · have hc := h.cells.2
    have hlt := hb.lt
    have HC : Hid (∀ j u, (bys l)[j]? = some u → (w.alloc (.cells #[] 5)).cell? ((⟨g, 0, none⟩ : Addr).add j) = some u) := Lib.hid fun j u hj => by
      rw [Addr.add_lit, Nat.zero_add, (below_alloc' (Below.refl _ w)).cell (p := ⟨g, j, none⟩) hlt]
      exact hc j u hj
    clear hc ht hb h
    have hnil := nil_no w ⟨g, 0, none⟩ l.length cap
    go_enter Tryz.func105, Tryz.ntmps105
    go_wp2_with (at_builtin; refine wpList_append_brow rfl _ _ rfl rfl (.slice (some ⟨w.heap.size, 0, none⟩) 0 0) [] ⟨g, 0, none⟩ l.length cap l rfl rfl rfl HC.out (brow_made w) (by simp; omega) ?_; intro v' w1 hr ho; have HR := Lib.hid hr; have HO := Lib.hid ho; clear hr ho)
    go_ret
    have hr := HR.out
    have ho := HO.out
    rw [List.nil_append] at hr
    refine ⟨v', rfl, hr, ?_, ?_, ?_⟩
    · have hg := ho.grown
      exact (below_alloc' (Below.refl _ w)).grown hg (by simp) (fun k hk => by cases hk; exact Nat.le_refl _)
    · intro k hk
      rcases ho with ⟨h1, _, _⟩ | ⟨⟨g', h1, h2⟩, _⟩
      · rw [hk] at h1; cases h1; exact Nat.le_refl _
      · rw [hk] at h1; cases h1; simp at h2; omega
    · intro hk
      rcases ho with ⟨h1, _, _⟩ | ⟨⟨g', h1, h2⟩, _⟩
      · rw [hk] at h1; cases h1
      · rw [hk] at h1; cases h1

set_option maxHeartbeats 1000000 in
set_option maxRecDepth 100000 in
theorem app_any {w : World} {v va : Value} {c : Nat} {l b : List UInt8} (h : BRow w v l) (hc : w.heap[c]? = some (.cells #[va] 121 (0, 0))) (ha : BRow w va b) (hb0 : b ≠ []) (hl : l.length + b.length ≤ 1000000) :
    Calls Tryz.prog 114 #[v, .pointer (some ⟨c, 0, none⟩)] w fun e w' => ∃ v', e = .returned v' ∧ BRow w' v' (l ++ b) ∧ Onto w w' v v' := by
  have k0 : w.cell? ⟨c, 0, none⟩ = some va := by rw [cell_of_row w c 0 _ _ _ hc]; rfl
  rcases id ha with ⟨_, rfl⟩ | ⟨g, cap, cs, rfl, h1, h2, hb, ht⟩
  · exact absurd rfl hb0
  · have HC : Hid (∀ j u, (bys b)[j]? = some u → w.cell? ((⟨g, 0, none⟩ : Addr).add j) = some u) := Lib.hid fun j u hj => by
      rw [Addr.add_lit, Nat.zero_add]
      exact ha.cells.2 j u hj
    have HV := Lib.hid h
    clear hc ht hb ha h
    go_enter Tryz.func114, Tryz.ntmps114
    go_wp2_with (at_builtin; refine wpList_append_brow rfl _ _ rfl rfl v l ⟨g, 0, none⟩ b.length cap b rfl rfl rfl HC.out HV.out (by omega) ?_; intro v' w1 hr ho; have HR := Lib.hid hr; have HO := Lib.hid ho; clear hr ho)
    go_ret
    exact ⟨v', rfl, HR.out, HO.out⟩

/-- A beginning of a row is a row. -/
theorem BRow.take {w : World} {ad : Option Addr} {c n : Nat} {l : List UInt8} (h : BRow w (.slice ad l.length c) l) (hn : n ≤ l.length) : BRow w (.slice ad n c) (l.take n) := by
  have hlen : (l.take n).length = n := by rw [List.length_take]; omega
  rcases id h with ⟨hv, rfl⟩ | ⟨g, cap, cs, hv, h1, h2, hb, ht⟩
  · cases hv
    obtain rfl : n = 0 := by simpa using hn
    exact .inl ⟨rfl, rfl⟩
  · cases hv
    have := h.pre (g := g) (c := c) rfl rfl (List.take_prefix n l)
    rw [hlen] at this
    exact this

theorem cut_onto {w w' : World} {v v' : Value} (hb : Below w.heap.size w w') (hg : ∀ g, v'.ownBlock = some g → w.heap.size ≤ g) (hr : ∃ g, v'.ownBlock = some g) : Onto w w' v v' := by
  obtain ⟨g, h⟩ := hr
  exact .inr ⟨⟨g, h, hg g h⟩, ⟨hb.os, hb.tape, hb.output, hb.size, fun k hk _ => hb.block k hk⟩⟩

set_option maxHeartbeats 1000000 in
set_option maxRecDepth 100000 in
theorem cut_act {w : World} {v : Value} {c n : Nat} {l : List UInt8} (h : BRow w v l) (hc : w.heap[c]? = some (.cells #[.int .i64 (n : Int)] 3 (0, 0))) (hn : n < l.length) (hl : l.length ≤ 900000) :
    Calls Tryz.prog 132 #[v, .pointer (some ⟨c, 0, none⟩)] w fun e w' => ∃ v', e = .returned v' ∧ BRow w' v' (l.take n) ∧ Onto w w' v v' ∧ v'.ownBlock ≠ v.ownBlock := by
  have k0 : w.cell? ⟨c, 0, none⟩ = some (.int .i64 (n : Int)) := by rw [cell_of_row w c 0 _ _ _ hc]; rfl
  obtain ⟨ad, cp, rfl, h1, h2⟩ := h.shape
  have HNIL : Hid (ad ≠ none) := Lib.hid (by
    rintro rfl
    rcases h with ⟨_, rfl⟩ | ⟨g, cap, cs, hv, _⟩
    · simp at hn
    · cases hv)
  have HLT := Lib.hid h.own_lt
  have q24 := clone_any (h.take (Nat.le_of_lt hn)) (by rw [List.length_take]; omega)
  have Q24 := Lib.hid q24
  have hnc : n ≤ cp := by omega
  clear hc h q24
  go_enter Tryz.func132, Tryz.ntmps132
  go_wp2_with (go_at_call 105; (with_reducible refine Q24.out.mono ?_); rintro e w1 ⟨v1, rfl, r1, hb1, hg1, hn1⟩; have HR := Lib.hid r1; have HG := Lib.hid (And.intro hg1 hn1); clear r1 hg1 hn1)
  go_ret
  have hsome : ∃ g, v1.ownBlock = some g := by
    cases hob : v1.ownBlock with
    | some g => exact ⟨g, rfl⟩
    | none =>
      have := HG.out.2 hob
      cases ad with
      | none => exact absurd rfl HNIL.out
      | some a => cases this
  refine ⟨v1, rfl, HR.out, cut_onto hb1 HG.out.1 hsome, fun e => ?_⟩
  obtain ⟨g, hg⟩ := hsome
  have h1 := HG.out.1 g hg
  have h2 := HLT.out g (by rw [← e]; exact hg)
  omega

/-- What an act leaves of a row, as a call. -/
def Acted (w : World) (v : Value) (r : List UInt8) (e : Ending) (w' : World) : Prop := ∃ v', e = .returned v' ∧ BRow w' v' r ∧ Onto w w' v v'

/-- Block p holds a file's three cells. -/
def Trio (w : World) (p : Nat) (a b c : Value) : Prop := w.heap[p]? = some (.cells #[a, b, c] 124 (0, 0))
theorem Trio.at0 {w : World} {p : Nat} {a b c : Value} (h : Trio w p a b c) : w.cell? ⟨p, 0, none⟩ = some a := by rw [cell_of_row w p 0 _ _ _ h]; rfl
theorem Trio.at1 {w : World} {p : Nat} {a b c : Value} (h : Trio w p a b c) : w.cell? ⟨p, 1, none⟩ = some b := by rw [cell_of_row w p 1 _ _ _ h]; rfl
theorem Trio.at2 {w : World} {p : Nat} {a b c : Value} (h : Trio w p a b c) : w.cell? ⟨p, 2, none⟩ = some c := by rw [cell_of_row w p 2 _ _ _ h]; rfl
theorem Trio.free {w : World} {p : Nat} {a b c : Value} (h : Trio w p a b c) (o : Nat) : w.frozen? ⟨p, o, none⟩ = false := by
  unfold Trio at h
  simp [World.frozen?, h]
theorem Trio.lt {w : World} {p : Nat} {a b c : Value} (h : Trio w p a b c) : p < w.heap.size := (Array.getElem?_eq_some_iff.1 h).1
theorem Trio.set0 {w : World} {p : Nat} {a b c : Value} (h : Trio w p a b c) (v : Value) : Trio (w.setCell ⟨p, 0, none⟩ v) p v b c := cells_setCell h 0 v
theorem Trio.set1 {w : World} {p : Nat} {a b c : Value} (h : Trio w p a b c) (v : Value) : Trio (w.setCell ⟨p, 1, none⟩ v) p a v c := cells_setCell h 1 v
theorem Trio.set2 {w : World} {p : Nat} {a b c : Value} (h : Trio w p a b c) (v : Value) : Trio (w.setCell ⟨p, 2, none⟩ v) p a b v := cells_setCell h 2 v

theorem grownBy_trans {w a b : World} {row : Option Nat} (h : w.grownBy a row) (k : a.grownBy b row) : w.grownBy b row :=
  ⟨k.os.trans h.os, k.tape.trans h.tape, k.output.trans h.output, Nat.le_trans h.size k.size, fun g hg hn => (k.block g (Nat.lt_of_lt_of_le hg h.size) hn).trans (h.block g hg hn)⟩

set_option maxHeartbeats 1000000 in
set_option maxRecDepth 100000 in
theorem settle_any {w : World} {p : Nat} {a b c : Value} {ad : Option Addr} {n m : Nat} (h : Trio w p a b c) :
    Calls Tryz.prog 95 #[.pointer (some ⟨p, 0, none⟩), .slice ad n m] w fun e w' => e = .returned (.tuple #[]) ∧ Trio w' p (.slice ad n m) (.slice none 0 0) (.slice ad n m) ∧ w.grownBy w' (some p) := by
  have k0 := h.at0
  have k1 := h.at1
  have k2 := h.at2
  have f0 := h.free 0
  have f1 := h.free 1
  have f2 := h.free 2
  have H := Lib.hid h
  clear h
  go_enter Tryz.func95, Tryz.ntmps95
  go_wp2
  refine bodyPost_end (v := .tuple #[]) (by simp [results, Tryz.results95, go_sem]) rfl ⟨rfl, ((H.out.set0 _).set1 _).set2 _, ?_⟩
  exact grownBy_trans (grownBy_trans (grown_setCell _ _ _ _) (grown_setCell _ _ _ _)) (grown_setCell _ _ _ _)

/-- A closure in a row of acts. -/
theorem i61 : (Tryz.prog.info? 140).map (fun i => (i.zero, i.size, i.bytes)) = some (some .nilFunc, 1, 8) := by kernel_rfl

theorem wpList_append_act {w : World} {ops : Array Oper} {rest : List Oper} {o : Oper} {a : Act} {Q : Exit → Act → World → Prop} (hgd : o.guard = none) (s x : Operand)
    (hop : o.op = Op.call { callee := Callee.builtin Builtin.append, args := #[s, x], argTypes := #[122, 122] }) (ht : o.type = 122) (v : Value) (n : Nat) (fs : List Value) (g : Nat) (f : Value)
    (hs : a.eval s = v) (hx : a.eval x = .slice (some ⟨g, 0, none⟩) 1 1) (hc : w.cell? ⟨g, 0, none⟩ = some f) (hf : f.oneCell' = true) (hv : w.ownsRow 0 140 1 v n fs) (hlen : n ≤ 1000000)
    (h : ∀ v' w', w'.ownsRow 0 140 1 v' (n + 1) (fs ++ [f]) → w.grownBy w' v.ownBlock → (v'.ownBlock = v.ownBlock ∨ v'.ownBlock = some w.heap.size) → wpList Tryz.prog ops Q rest (a.put o.dst v') w') : wpList Tryz.prog ops Q (o :: rest) a w := by
  obtain ⟨i0, hi, hz0, hz1, hz2⟩ := info_parts i61
  obtain ⟨v', w1, h1, h2, h3, _, h5⟩ := run_append_own_at (P := Tryz.prog) w 0 122 122 140 i0 .nilFunc 1 8 Tryz.underlying122 hi hz0 hz1 hz2 rfl (by decide) v n fs hv ⟨g, 0, none⟩ 1 1 [f] rfl
    (fun j u hj => by
      have : j = 0 := by have := (List.getElem?_eq_some_iff.1 hj).1; simpa using this
      subst this
      cases hj
      exact hc) (by simpa using hf) (by unfold maxLen; omega) (by omega) (Nat.zero_le _)
  refine wpList_plain hgd fun _ hK => ?_
  unfold Oper.wp execOp
  simp only [hop, ht, resolve, invoke, builtin, Sem.run_bind, Sem.run_pure, Result.andThen_ok, List.map_toArray, List.map_cons, List.map_nil, hs, hx, h1]
  exact hK _ _ (h v' w1 h2 h3 h5)

theorem owns_mem {w : World} {base size n : Nat} {e : TypeId} {v : Value} {xs : List Value} (h : w.ownsRow base e size v n xs) {g : Nat} (hg : v.ownBlock = some g) : ∃ cs, w.heap[g]? = some (.cells cs e (0, 0)) := by
  rcases h.2 with ⟨rfl, _⟩ | ⟨g', cap, cur, rfl, _, hh, _⟩
  · cases hg
  · cases hg; exact ⟨cur, hh⟩

/-- Blocks of two types are two. -/
theorem two_types {w : World} {g k : Nat} {cs ds : Array Value} {S T : TypeId} {fz gz : Nat × Nat} (h : w.heap[g]? = some (.cells cs S fz)) (k' : w.heap[k]? = some (.cells ds T gz)) (hne : S ≠ T) : g ≠ k := fun e => by
  subst e
  rw [h] at k'
  cases k'
  exact hne rfl
end Go.Proofs.YtmmoilmfpiclgaaGreat
namespace Go.Proofs.YtmmoilmfpiclgaaGreat
open Go.RowKit Go.Shelf

theorem heap_setCell_ne {w : World} {p o g : Nat} {v : Value} (h : g ≠ p) : (w.setCell ⟨p, o, none⟩ v).heap[g]? = w.heap[g]? := Below.heap_setCell w ⟨p, o, none⟩ v g h

theorem BRow.form {w : World} {v : Value} {l : List UInt8} (h : BRow w v l) {g : Nat} (hg : v.ownBlock = some g) : v = .slice (some ⟨g, 0, none⟩) l.length (capOf v) := by
  rcases h with ⟨rfl, _⟩ | ⟨g', cap, cs, rfl, _⟩
  · cases hg
  · cases hg; rfl

/-- The blocks that a file writes, told by its three values. -/
def Of3 (p : Nat) (dv av rv : Value) (g : Nat) : Prop := g = p ∨ dv.ownBlock = some g ∨ av.ownBlock = some g ∨ rv.ownBlock = some g

/-- Behind an act, on the way of the call: w the file's world, wa the closure's row made, w1 it appended, w3 the act done. -/
theorem done_file {w wa w1 w3 : World} {p : Nat} {D : List UInt8} {A : List Do} {M I J : Nat → Prop} {dv av av' rv rv' f : Value} {fs : List Value} {a : Do} (h : FileAt w p D A M I)
    (ht : Trio w p dv av rv) (hd : BRow w dv D) (hr : BRow w rv (reads D A)) (ha : w.ownsRow 0 140 1 av A.length fs) (hA : ActsAt w fs A I) (hs : dv.ownBlock = rv.ownBlock → capOf dv = capOf rv ∧ D <+: reads D A)
    (m0 : M p) (m1 : ∀ g, dv.ownBlock = some g → M g) (m2 : ∀ g, rv.ownBlock = some g → M g) (m3 : ∀ g, av.ownBlock = some g → M g)
    (hf : ActAt w f a J) (hJ : ∀ g, J g → g < w.heap.size ∧ ¬ M g) (hfit : Fits (reads D A) [a]) (hbulk : bulk D (A ++ [a]) ≤ 100000)
    (g0 : Below w.heap.size w wa) (g1 : wa.grownBy w1 av.ownBlock) (o1 : w1.ownsRow 0 140 1 av' (A.length + 1) (fs ++ [f])) (l1 : av'.ownBlock = av.ownBlock ∨ av'.ownBlock = some wa.heap.size)
    (hr' : BRow w3 rv' (a.on (reads D A))) (ho : Onto (w1.setCell ⟨p, 1, none⟩ av') w3 rv rv') (hpre : rv'.ownBlock = rv.ownBlock → reads D A <+: a.on (reads D A)) :
    FileAt (w3.setCell ⟨p, 2, none⟩ rv') p D (A ++ [a]) (Of3 p dv av' rv') (fun g => I g ∨ J g) ∧ (∀ g, Of3 p dv av' rv' g → M g ∨ w.heap.size ≤ g) ∧ Kept M w (w3.setCell ⟨p, 2, none⟩ rv') := by
  -- types part blocks
  have pa : ∀ g, av.ownBlock = some g → g ≠ p := fun g hg => by
    obtain ⟨cs, hc⟩ := owns_mem ha hg
    exact two_types hc ht (by decide)
  have pr : ∀ g, rv.ownBlock = some g → g ≠ p := fun g hg => by
    obtain ⟨cs, fz, hc⟩ := hr.mem hg
    exact two_types hc ht (by decide)
  have pd : ∀ g, dv.ownBlock = some g → g ≠ p := fun g hg => by
    obtain ⟨cs, fz, hc⟩ := hd.mem hg
    exact two_types hc ht (by decide)
  have ra : ∀ g, rv.ownBlock = some g → av.ownBlock ≠ some g := fun g hg e => by
    obtain ⟨cs, fz, hc⟩ := hr.mem hg
    obtain ⟨ds, hd'⟩ := owns_mem ha e
    exact two_types hc hd' (by decide) rfl
  have da : ∀ g, dv.ownBlock = some g → av.ownBlock ≠ some g := fun g hg e => by
    obtain ⟨cs, fz, hc⟩ := hd.mem hg
    obtain ⟨ds, hd'⟩ := owns_mem ha e
    exact two_types hc hd' (by decide) rfl
  have hz0 := g0.size
  have hz1 := g1.size
  have hpl := ht.lt
  -- up to the row of acts
  have e1 : ∀ g, g < w.heap.size → av.ownBlock ≠ some g → w1.heap[g]? = w.heap[g]? := fun g hg hn => (g1.block g (by omega) (fun e => hn e.symm)).trans (g0.block g hg)
  have t1 : Trio w1 p dv av rv := (e1 p hpl (fun e => pa p e rfl)).trans ht
  have hav : ∀ g, av'.ownBlock = some g → g ≠ p := fun g hg => by
    obtain ⟨cs, hc⟩ := owns_mem o1 hg
    exact two_types hc t1 (by decide)
  have t2 := t1.set1 av'
  have e2 : ∀ g, g < w.heap.size → av.ownBlock ≠ some g → g ≠ p → (w1.setCell ⟨p, 1, none⟩ av').heap[g]? = w.heap[g]? := fun g hg hn hp => (heap_setCell_ne hp).trans (e1 g hg hn)
  have o2 : (w1.setCell ⟨p, 1, none⟩ av').ownsRow 0 140 1 av' (A.length + 1) (fs ++ [f]) := owns_same o1 fun g hg => heap_setCell_ne (hav g hg)
  have hz2 : (w1.setCell ⟨p, 1, none⟩ av').heap.size = w1.heap.size := by simp
  have gk := grown_setCell w1 p 1 av'
  generalize w1.setCell ⟨p, 1, none⟩ av' = w2 at t2 e2 o2 hz2 ho gk
  have hr2 : BRow w2 rv (reads D A) := hr.same fun g hg => e2 g (hr.own_lt g hg) (ra g hg) (pr g hg)
  have hd2 : BRow w2 dv D := hd.same fun g hg => e2 g (hd.own_lt g hg) (da g hg) (pd g hg)
  -- the act
  have g3 := ho.grown
  have hz3 := g3.size
  have e3 : ∀ g, g < w2.heap.size → rv.ownBlock ≠ some g → w3.heap[g]? = w2.heap[g]? := fun g hg hn => g3.block g hg (fun e => hn e.symm)
  have t3 : Trio w3 p dv av' rv := (e3 p (by omega) (fun e => pr p e rfl)).trans t2
  have hra' : ∀ g, av'.ownBlock = some g → rv.ownBlock ≠ some g := fun g hg e => by
    obtain ⟨cs, fz, hc⟩ := hr2.mem e
    obtain ⟨ds, hd'⟩ := owns_mem o2 hg
    exact two_types hc hd' (by decide) rfl
  have o3 : w3.ownsRow 0 140 1 av' (A.length + 1) (fs ++ [f]) := owns_same o2 fun g hg => e3 g (o2.lt g hg).2 (hra' g hg)
  have hd3 : BRow w3 dv D := by
    rcases ho with ⟨q1, q2, q3⟩ | ⟨_, q3⟩
    · by_cases hdr : dv.ownBlock = rv.ownBlock
      · obtain ⟨k1, k2⟩ := hs hdr
        cases hb : dv.ownBlock with
        | none =>
          exact hd2.same fun g hg => by rw [hb] at hg; cases hg
        | some g =>
          rw [hd2.form hb]
          exact hr'.pre (by rw [q1, ← hdr]; exact hb) (by rw [q2, ← k1]) (k2.trans (hpre q1))
      · exact hd2.same fun g hg => q3.block g (hd2.own_lt g hg) (fun e => hdr (by rw [hg, e]))
    · exact hd2.same fun g hg => q3.block g (hd2.own_lt g hg) (by simp)
  -- what is caught
  have hI : ∀ g, I g ∨ J g → g < w.heap.size ∧ ¬ M g := fun g hg => by
    rcases hg with hg | hg
    · exact ⟨h.mem g (.inr hg), h.apart g hg⟩
    · exact hJ g hg
  have eI : ∀ g, I g ∨ J g → w3.heap[g]? = w.heap[g]? := fun g hg => by
    obtain ⟨k1, k2⟩ := hI g hg
    rw [e3 g (by omega) (fun e => k2 (m2 g e)), e2 g k1 (fun e => k2 (m3 g e)) (fun e => k2 (by rw [e]; exact m0))]
  have pr' : ∀ g, rv'.ownBlock = some g → g ≠ p := fun g hg => by
    obtain ⟨cs, fz, hc⟩ := hr'.mem hg
    exact two_types hc t3 (by decide)
  have pd' : ∀ g, dv.ownBlock = some g → g ≠ p := pd
  have eI4 : ∀ g, I g ∨ J g → (w3.setCell ⟨p, 2, none⟩ rv').heap[g]? = w.heap[g]? := fun g hg => by
    rw [heap_setCell_ne (fun e => (hI g hg).2 (by rw [e]; exact m0)), eI g hg]
  have hw4 : (w3.setCell ⟨p, 2, none⟩ rv').heap.size = w3.heap.size := by simp
  have hM' : ∀ g, Of3 p dv av' rv' g → M g ∨ w.heap.size ≤ g := fun g hg => by
    rcases hg with rfl | hg | hg | hg
    · exact .inl m0
    · exact .inl (m1 g hg)
    · rcases l1 with e | e
      · exact .inl (m3 g (by rw [← e]; exact hg))
      · rw [e] at hg; cases hg; exact .inr hz0
    · rcases ho with ⟨q1, _, _⟩ | ⟨⟨g', q1, q2⟩, _⟩
      · exact .inl (m2 g (by rw [← q1]; exact hg))
      · rw [q1] at hg; cases hg; exact .inr (by omega)
  refine ⟨⟨⟨dv, av', rv', fs ++ [f], t3.set2 rv', hd3.same fun g hg => heap_setCell_ne (pd' g hg), ?_, ?_, ?_, ?_, .inl rfl, fun g hg => .inr (.inl hg), fun g hg => .inr (.inr (.inr hg)), fun g hg => .inr (.inr (.inl hg))⟩, ?_, hbulk, ?_, ?_⟩, hM', ?_⟩
  · rw [reads_snoc]
    exact hr'.same fun g hg => heap_setCell_ne (pr' g hg)
  · rw [List.length_append]
    exact owns_same o3 fun g hg => heap_setCell_ne (hav g hg)
  · refine ⟨by rw [List.length_append, List.length_append, hA.1]; rfl, fun k hk => ?_⟩
    by_cases hlt : k < A.length
    · obtain ⟨f', k1, k2⟩ := hA.2 k hlt
      refine ⟨f', by rw [List.getElem?_append_left (by rw [hA.1]; exact hlt)]; exact k1, ?_⟩
      rw [List.getElem_append_left hlt]
      exact k2.same (fun g hg => eI4 g (.inl hg)) (fun g hg => .inl hg)
    · have hk' : k = A.length := by rw [List.length_append] at hk; simp at hk; omega
      subst hk'
      refine ⟨f, by rw [← hA.1]; simp, ?_⟩
      rw [List.getElem_concat_length rfl]
      exact hf.same (fun g hg => eI4 g (.inr hg)) (fun g hg => .inr hg)
  · intro e
    rcases ho with ⟨q1, q2, _⟩ | ⟨⟨g', q1, q2⟩, _⟩
    · obtain ⟨k1, k2⟩ := hs (by rw [e, q1])
      exact ⟨k1.trans q2.symm, by rw [reads_snoc]; exact k2.trans (hpre q1)⟩
    · rw [q1] at e
      have := hd2.own_lt g' e
      omega
  · rw [fits_append]
    exact ⟨h.fits, hfit⟩
  · intro g hg
    rw [hw4]
    rcases hg with hg | hg
    · rcases hg with rfl | hg | hg | hg
      · omega
      · have := hd.own_lt g hg; omega
      · have := (o3.lt g hg).2; omega
      · exact hr'.own_lt g hg
    · have := (hI g hg).1; omega
  · intro g hg hm
    obtain ⟨k1, k2⟩ := hI g hg
    rcases hM' g hm with h' | h'
    · exact k2 h'
    · omega
  · refine ⟨?_, ?_, ?_, ?_, fun g hg hm => ?_⟩
    · exact (grown_setCell w3 p 2 rv').os.trans (g3.os.trans (gk.os.trans (g1.os.trans g0.os)))
    · exact (grown_setCell w3 p 2 rv').tape.trans (g3.tape.trans (gk.tape.trans (g1.tape.trans g0.tape)))
    · exact (grown_setCell w3 p 2 rv').output.trans (g3.output.trans (gk.output.trans (g1.output.trans g0.output)))
    · omega
    · rw [heap_setCell_ne (fun e => hm (by rw [e]; exact m0)), e3 g (by omega) (fun e => hm (m2 g e)), e2 g hg (fun e => hm (m3 g e)) (fun e => hm (by rw [e]; exact m0))]

theorem pre_act {w wa w1 : World} {p : Nat} {R : List UInt8} {n : Nat} {M J : Nat → Prop} {dv av av' rv f : Value} {fs : List Value} {a : Do}
    (ht : Trio w p dv av rv) (hr : BRow w rv R) (ha : w.ownsRow 0 140 1 av n fs) (m0 : M p) (m3 : ∀ g, av.ownBlock = some g → M g)
    (hf : ActAt w f a J) (hJ : ∀ g, J g → g < w.heap.size ∧ ¬ M g) (g0 : Below w.heap.size w wa) (g1 : wa.grownBy w1 av.ownBlock) :
    Trio w1 p dv av rv ∧ Trio (w1.setCell ⟨p, 1, none⟩ av') p dv av' rv ∧ BRow (w1.setCell ⟨p, 1, none⟩ av') rv R ∧ ActAt (w1.setCell ⟨p, 1, none⟩ av') f a J := by
  have pa : ∀ g, av.ownBlock = some g → g ≠ p := fun g hg => by
    obtain ⟨cs, hc⟩ := owns_mem ha hg
    exact two_types hc ht (by decide)
  have pr : ∀ g, rv.ownBlock = some g → g ≠ p := fun g hg => by
    obtain ⟨cs, fz, hc⟩ := hr.mem hg
    exact two_types hc ht (by decide)
  have ra : ∀ g, rv.ownBlock = some g → av.ownBlock ≠ some g := fun g hg e => by
    obtain ⟨cs, fz, hc⟩ := hr.mem hg
    obtain ⟨ds, hd'⟩ := owns_mem ha e
    exact two_types hc hd' (by decide) rfl
  have hz0 := g0.size
  have hpl := ht.lt
  have e1 : ∀ g, g < w.heap.size → av.ownBlock ≠ some g → w1.heap[g]? = w.heap[g]? := fun g hg hn => (g1.block g (by omega) (fun e => hn e.symm)).trans (g0.block g hg)
  have t1 : Trio w1 p dv av rv := (e1 p hpl (fun e => pa p e rfl)).trans ht
  refine ⟨t1, t1.set1 av', hr.same fun g hg => (heap_setCell_ne (pr g hg)).trans (e1 g (hr.own_lt g hg) (ra g hg)), hf.same (fun g hg => ?_) (fun _ h => h)⟩
  obtain ⟨k1, k2⟩ := hJ g hg
  exact (heap_setCell_ne (fun e => k2 (by rw [e]; exact m0))).trans (e1 g k1 (fun e => k2 (m3 g e)))

theorem post_act {w w3 : World} {p : Nat} {dv av rv rv' : Value} {R : List UInt8} (ht : Trio w p dv av rv) (hr : BRow w rv R) (ho : Onto w w3 rv rv') : Trio w3 p dv av rv := by
  refine (ho.grown.block p ht.lt (fun e => ?_)).trans ht
  obtain ⟨cs, fz, hc⟩ := hr.mem e.symm
  exact two_types hc ht (by decide) rfl

theorem owns_slice {w : World} {n : Nat} {v : Value} {xs : List Value} (h : w.ownsRow 0 140 1 v n xs) : ∃ ad c, v = .slice ad n c := by
  rcases h.2 with ⟨rfl, h0⟩ | ⟨g, cap, cur, rfl, _⟩
  · exact ⟨none, 0, by rw [h0]⟩
  · exact ⟨_, cap, rfl⟩

/-- What a call that does an act leaves. -/
def DoneF (w : World) (p : Nat) (D : List UInt8) (A : List Do) (a : Do) (M I J : Nat → Prop) (e : Ending) (w' : World) : Prop :=
  e = .returned (.tuple #[]) ∧ ∃ M' : Nat → Prop, FileAt w' p D (A ++ [a]) M' (fun g => I g ∨ J g) ∧ (∀ g, M' g → M g ∨ w.heap.size ≤ g) ∧ Kept M w w'

set_option maxHeartbeats 1000000 in
set_option maxRecDepth 100000 in
theorem do_app {w : World} {p : Nat} {D : List UInt8} {A : List Do} {M I J : Nat → Prop} {b : List UInt8} {f : Value} (h : FileAt w p D A M I) (hf : ActAt w f (.app b) J) (hJ : ∀ g, J g → g < w.heap.size ∧ ¬ M g) (hb0 : b ≠ []) (hbulk : bulk D (A ++ [.app b]) ≤ 100000) (hlen : A.length ≤ 1000) :
    Calls Tryz.prog 113 #[.pointer (some ⟨p, 0, none⟩), f] w (DoneF w p D A (.app b) M I J) := by
  obtain ⟨dv, av, rv, fs, ht, hd, hr, ha, hA, hs, m0, m1, m2, m3⟩ := h.it
  obtain ⟨c, va, rfl, hc, hva, hJc, hJv⟩ := id hf
  have HF : Hid (FileAt w p D A M I ∧ Trio w p dv av rv ∧ BRow w dv D ∧ BRow w rv (reads D A) ∧ w.ownsRow 0 140 1 av A.length fs ∧ ActsAt w fs A I ∧ (dv.ownBlock = rv.ownBlock → capOf dv = capOf rv ∧ D <+: reads D A) ∧ M p ∧ (∀ g, dv.ownBlock = some g → M g) ∧ (∀ g, rv.ownBlock = some g → M g) ∧ (∀ g, av.ownBlock = some g → M g) ∧ ActAt w (.func (.func 114) #[] #[.pointer (some ⟨c, 0, none⟩)]) (.app b) J ∧ (∀ g, J g → g < w.heap.size ∧ ¬ M g) ∧ bulk D (A ++ [.app b]) ≤ 100000) :=
    Lib.hid ⟨h, ht, hd, hr, ha, hA, hs, m0, m1, m2, m3, hf, hJ, hbulk⟩
  have k1 := (show Trio w p dv av rv from ht).at1
  have k2 := (show Trio w p dv av rv from ht).at2
  have hpl := (show Trio w p dv av rv from ht).lt
  have hrb := reads_length D A
  rw [bulk_app] at hbulk
  have HA := Lib.hid ha
  have HB0 := Lib.hid hb0
  have HLEN := hlen
  have hlb : (reads D A).length + b.length ≤ 1000000 := by omega
  obtain ⟨ada, ca, rfl⟩ : ∃ ad c, av = .slice ad A.length c := by
    rcases ha.2 with ⟨rfl, h0⟩ | ⟨g, cap, cur, rfl, _⟩
    · exact ⟨none, 0, by rw [h0]⟩
    · exact ⟨_, cap, rfl⟩
  obtain ⟨adr, cr, rfl, _, _⟩ := hr.shape
  clear h ht hd hr ha hA hs m0 m1 m2 m3 hf hJ hc hva hJc hJv hb0 hbulk hlen hrb
  go_enter Tryz.func113, Tryz.ntmps113
  go_wp2_with (first
    | (at_builtin; refine wpList_append_act rfl _ _ rfl rfl (.slice ada A.length ca) A.length fs w.heap.size (.func (.func 114) #[] #[.pointer (some ⟨c, 0, none⟩)]) rfl rfl (by simp) rfl (HA.out.alloc _) (by omega) ?_; intro av' w1 o1 g1 l1;
        obtain ⟨ada', ca', rfl⟩ := owns_slice o1;
        obtain ⟨t1, t2, r2, f2⟩ := (pre_act (av' := .slice ada' (A.length + 1) ca') HF.out.2.1 HF.out.2.2.2.1 HF.out.2.2.2.2.1 HF.out.2.2.2.2.2.2.2.1 HF.out.2.2.2.2.2.2.2.2.2.2.1 HF.out.2.2.2.2.2.2.2.2.2.2.2.1 HF.out.2.2.2.2.2.2.2.2.2.2.2.2.1 (below_alloc' (Below.refl _ w)) g1);
        have y1 := t1.at1; have z1 := t1.free 1; have y2 := t2.at2; have HT2 := Lib.hid t2; have HR2 := Lib.hid r2; obtain ⟨c0, va0, hfe, hcc, hvv, _, _⟩ := f2; cases hfe; have HCC := Lib.hid hcc; have HVV := Lib.hid hvv; have HO1 := Lib.hid o1; have HG1 := Lib.hid g1; have HL1 := Lib.hid l1; clear t1 t2 r2 hcc hvv o1 g1 l1)
    | (go_at_call 114; (with_reducible refine Calls.mono (app_any (b := b) HR2.out HCC.out HVV.out HB0.out hlb) ?_); rintro e w3 ⟨rv', rfl, r3, o3⟩;
        have t3 := post_act HT2.out HR2.out o3; obtain ⟨adr', cr', hv3, _, _⟩ := r3.shape; rw [List.length_append] at hv3; subst hv3; have y3 := t3.at2; have z3 := t3.free 2; have HR3 := Lib.hid r3; have HO3 := Lib.hid o3; clear t3 r3 o3))
  obtain ⟨h, ht, hd, hr, ha, hA, hs, m0, m1, m2, m3, hf, hJ, hbulk⟩ := HF.out
  have hpost := done_file h ht hd hr ha hA hs m0 m1 m2 m3 hf hJ ⟨HB0.out, trivial⟩ hbulk (below_alloc' (Below.refl _ w)) HG1.out HO1.out HL1.out HR3.out HO3.out (fun _ => List.prefix_append _ _)
  exact bodyPost_end (v := .tuple #[]) (by simp [results, Tryz.results113, go_sem]) rfl ⟨rfl, _, hpost⟩
set_option maxHeartbeats 1000000 in
set_option maxRecDepth 100000 in
theorem do_cut {w : World} {p : Nat} {D : List UInt8} {A : List Do} {M I J : Nat → Prop} {n : Nat} {f : Value} (h : FileAt w p D A M I) (hf : ActAt w f (.cut n) J) (hJ : ∀ g, J g → g < w.heap.size ∧ ¬ M g) (hb0 : n < (reads D A).length) (hbulk : bulk D A ≤ 100000) (hlen : A.length ≤ 1000) :
    Calls Tryz.prog 113 #[.pointer (some ⟨p, 0, none⟩), f] w (DoneF w p D A (.cut n) M I J) := by
  obtain ⟨dv, av, rv, fs, ht, hd, hr, ha, hA, hs, m0, m1, m2, m3⟩ := h.it
  obtain ⟨c, rfl, hc, hJc⟩ := id hf
  rw [← bulk_cut D A n] at hbulk
  have HF : Hid (FileAt w p D A M I ∧ Trio w p dv av rv ∧ BRow w dv D ∧ BRow w rv (reads D A) ∧ w.ownsRow 0 140 1 av A.length fs ∧ ActsAt w fs A I ∧ (dv.ownBlock = rv.ownBlock → capOf dv = capOf rv ∧ D <+: reads D A) ∧ M p ∧ (∀ g, dv.ownBlock = some g → M g) ∧ (∀ g, rv.ownBlock = some g → M g) ∧ (∀ g, av.ownBlock = some g → M g) ∧ ActAt w (.func (.func 132) #[] #[.pointer (some ⟨c, 0, none⟩)]) (.cut n) J ∧ (∀ g, J g → g < w.heap.size ∧ ¬ M g) ∧ bulk D (A ++ [.cut n]) ≤ 100000) :=
    Lib.hid ⟨h, ht, hd, hr, ha, hA, hs, m0, m1, m2, m3, hf, hJ, hbulk⟩
  have k1 := (show Trio w p dv av rv from ht).at1
  have k2 := (show Trio w p dv av rv from ht).at2
  have hpl := (show Trio w p dv av rv from ht).lt
  have hrb := reads_length D A
  have HA := Lib.hid ha
  have HB0 := Lib.hid hb0
  have HLEN := hlen
  have hlb : (reads D A).length ≤ 900000 := by rw [bulk_cut] at hbulk; omega
  obtain ⟨ada, ca, rfl⟩ : ∃ ad c, av = .slice ad A.length c := by
    rcases ha.2 with ⟨rfl, h0⟩ | ⟨g, cap, cur, rfl, _⟩
    · exact ⟨none, 0, by rw [h0]⟩
    · exact ⟨_, cap, rfl⟩
  obtain ⟨adr, cr, rfl, _, _⟩ := hr.shape
  clear h ht hd hr ha hA hs m0 m1 m2 m3 hf hJ hc hJc hb0 hbulk hlen hrb
  go_enter Tryz.func113, Tryz.ntmps113
  go_wp2_with (first
    | (at_builtin; refine wpList_append_act rfl _ _ rfl rfl (.slice ada A.length ca) A.length fs w.heap.size (.func (.func 132) #[] #[.pointer (some ⟨c, 0, none⟩)]) rfl rfl (by simp) rfl (HA.out.alloc _) (by omega) ?_; intro av' w1 o1 g1 l1;
        obtain ⟨ada', ca', rfl⟩ := owns_slice o1;
        obtain ⟨t1, t2, r2, f2⟩ := (pre_act (av' := .slice ada' (A.length + 1) ca') HF.out.2.1 HF.out.2.2.2.1 HF.out.2.2.2.2.1 HF.out.2.2.2.2.2.2.2.1 HF.out.2.2.2.2.2.2.2.2.2.2.1 HF.out.2.2.2.2.2.2.2.2.2.2.2.1 HF.out.2.2.2.2.2.2.2.2.2.2.2.2.1 (below_alloc' (Below.refl _ w)) g1);
        have y1 := t1.at1; have z1 := t1.free 1; have y2 := t2.at2; have HT2 := Lib.hid t2; have HR2 := Lib.hid r2; obtain ⟨c0, hfe, hcc, _⟩ := f2; cases hfe; have HCC := Lib.hid hcc; have HO1 := Lib.hid o1; have HG1 := Lib.hid g1; have HL1 := Lib.hid l1; clear t1 t2 r2 hcc o1 g1 l1)
    | (go_at_call 132; (with_reducible refine Calls.mono (cut_act HR2.out HCC.out HB0.out hlb) ?_); rintro e w3 ⟨rv', rfl, r3, o3, n3⟩;
        have t3 := post_act HT2.out HR2.out o3; obtain ⟨adr', cr', hv3, _, _⟩ := r3.shape; obtain ⟨nn, hnn⟩ : ∃ nn, (List.take n (reads D A)).length = nn := ⟨_, rfl⟩; rw [hnn] at hv3; clear hnn; subst hv3; have y3 := t3.at2; have z3 := t3.free 2; have HR3 := Lib.hid r3; have HNE := Lib.hid n3; have HO3 := Lib.hid o3;  clear t3 r3 o3))
  obtain ⟨h, ht, hd, hr, ha, hA, hs, m0, m1, m2, m3, hf, hJ, hbulk⟩ := HF.out
  have hpost := done_file h ht hd hr ha hA hs m0 m1 m2 m3 hf hJ ⟨HB0.out, trivial⟩ hbulk (below_alloc' (Below.refl _ w)) HG1.out HO1.out HL1.out HR3.out HO3.out (fun e => absurd e HNE.out)
  exact bodyPost_end (v := .tuple #[]) (by simp [results, Tryz.results113, go_sem]) rfl ⟨rfl, _, hpost⟩
end Go.Proofs.YtmmoilmfpiclgaaGreat
namespace Go.Proofs.YtmmoilmfpiclgaaGreat
open Go.RowKit Go.Shelf

/-- Where a row of bytes has come to: its block is the old one, or a new one; of the old blocks just that one may have turned. -/
def Trail (w w' : World) (v v' : Value) : Prop := (v'.ownBlock = v.ownBlock ∨ ∃ g, v'.ownBlock = some g ∧ w.heap.size ≤ g) ∧ w.grownBy w' v.ownBlock

theorem Trail.refl (w : World) (v : Value) : Trail w w v v := ⟨.inl rfl, rfl, rfl, rfl, Nat.le_refl _, fun _ _ _ => rfl⟩
theorem Trail.next {w w1 w2 : World} {v v1 v2 : Value} (h : Trail w w1 v v1) (ho : Onto w1 w2 v1 v2) : Trail w w2 v v2 := by
  obtain ⟨h1, h2⟩ := h
  have hg := ho.grown
  refine ⟨?_, hg.os.trans h2.os, hg.tape.trans h2.tape, hg.output.trans h2.output, Nat.le_trans h2.size hg.size, fun k hk hn => ?_⟩
  · rcases ho with ⟨q1, _, _⟩ | ⟨⟨g, q1, q2⟩, _⟩
    · rw [q1]; exact h1
    · exact .inr ⟨g, q1, Nat.le_trans h2.size q2⟩
  · refine (hg.block k (Nat.lt_of_lt_of_le hk h2.size) (fun e => ?_)).trans (h2.block k hk hn)
    rcases h1 with h1 | ⟨g, h1, h3⟩
    · exact hn (e.trans h1)
    · rw [h1] at e; cases e; omega

set_option maxHeartbeats 1000000 in
set_option maxRecDepth 100000 in
theorem behind_any {w : World} {v : Value} {R : List UInt8} {fs : List Value} {A : List Do} {I : Nat → Prop} {ad : Option Addr} {c : Nat} (hv : BRow w v R) (hA : ActsAt w fs A I) (hfit : Fits R A) (hbulk : bulk R A ≤ 900000) (hlen : A.length ≤ 1000)
    (hrow : ∀ k, k < A.length → ∃ b o, ad = some ⟨b, o, none⟩ ∧ w.cell? ⟨b, o + k, none⟩ = fs[k]? ∧ v.ownBlock ≠ some b) (hI : ∀ g, I g → g < w.heap.size ∧ v.ownBlock ≠ some g) :
    Calls Tryz.prog 118 #[v, .slice ad A.length c] w fun e w' => ∃ v', e = .returned v' ∧ BRow w' v' (reads R A) ∧ Trail w w' v v' := by
  have HV := Lib.hid hv
  have HA := Lib.hid hA
  have HF := Lib.hid hfit
  have HR := Lib.hid hrow
  have HI := Lib.hid hI
  clear hv hA hfit hrow hI
  go_enter Tryz.func118, Tryz.ntmps118
  go_wp2
  go_loopw [0, 9] (fun s0 s9 wr => ∃ k : Nat, k ≤ A.length ∧ s9 = .int .i64 k ∧ BRow wr s0 (reads R (A.take k)) ∧ Trail w wr v s0) (fun _ s9 _ => A.length - (intOf s9).toNat)
  case atStart => exact ⟨0, Nat.zero_le _, rfl, HV.out, Trail.refl w v⟩
  case round =>
    obtain ⟨k, hk, rfl, hb, ht⟩ := hrel
    by_cases hlt : k < A.length
    · obtain ⟨b, o, rfl, hc, hnb⟩ := HR.out k hlt
      obtain ⟨f, hf, hact⟩ := HA.out.2 k hlt
      rw [hf] at hc
      have hcr : wr.cell? ⟨b, o + k, none⟩ = some f := by
        rw [World.cell?_of_block (a := ⟨b, o + k, none⟩) (ht.2.block b (block_lt_of_cell hc) (fun e => hnb e.symm))]
        exact hc
      have hact' : ActAt wr f A[k] I := hact.same (fun g hg => ht.2.block g (HI.out g hg).1 (fun e => (HI.out g hg).2 e.symm)) (fun _ h => h)
      have hft := fits_at HF.out k hlt
      have hsn : reads R (A.take (k + 1)) = A[k].on (reads R (A.take k)) := by rw [List.take_succ_eq_append_getElem hlt, reads_snoc]
      have hbk := Nat.le_trans (reads_length R (A.take (k + 1))) (bulk_take R A (k + 1))
      have hbk0 := Nat.le_trans (reads_length R (A.take k)) (bulk_take R A k)
      rw [hsn] at hbk
      have HT := Lib.hid ht
      obtain ⟨L, hL⟩ : ∃ L, reads R (A.take k) = L := ⟨_, rfl⟩
      rw [hL] at hb hft hsn hbk hbk0
      have HB := Lib.hid hb
      have HSN := Lib.hid hsn
      cases ha : A[k] with
      | app bb =>
        rw [ha] at hact' hft hbk
        obtain ⟨cc, va, rfl, q1, q2, _, _⟩ := hact'
        have hlb : L.length + bb.length ≤ 1000000 := by
          have : ((Do.app bb).on L).length = L.length + bb.length := List.length_append
          omega
        have Q27 : Hid (Calls Tryz.prog 114 #[u0, .pointer (some ⟨cc, 0, none⟩)] wr fun e w' => ∃ v', e = .returned v' ∧ BRow w' v' (L ++ bb) ∧ Onto wr w' u0 v') := Lib.hid (app_any hb q1 q2 hft.1 hlb)
        have HSN2 : Hid (reads R (A.take (k + 1)) = L ++ bb) := Lib.hid (by rw [hsn, ha]; rfl)
        clear q1 q2 hact hc hf ht hb hft hsn hL hbk hbk0 ha
        go_wp2_with (go_at_call 114; (with_reducible refine Q27.out.mono ?_); rintro e w1 ⟨v1, rfl, r1, o1⟩; have HR1 := Lib.hid r1; have HO1 := Lib.hid o1; clear r1 o1)
        exact ⟨⟨k + 1, by omega, by go_num, by rw [HSN2.out]; exact HR1.out, HT.out.next HO1.out⟩, by simp [intOf]; omega⟩
      | cut n =>
        rw [ha] at hact' hft hbk
        obtain ⟨cc, rfl, q1, _⟩ := hact'
        have Q36 : Hid (Calls Tryz.prog 132 #[u0, .pointer (some ⟨cc, 0, none⟩)] wr fun e w' => ∃ v', e = .returned v' ∧ BRow w' v' (L.take n) ∧ Onto wr w' u0 v' ∧ v'.ownBlock ≠ u0.ownBlock) := Lib.hid (cut_act hb q1 hft.1 (by omega))
        have HSN2 : Hid (reads R (A.take (k + 1)) = L.take n) := Lib.hid (by rw [hsn, ha]; rfl)
        clear q1 hact hc hf ht hb hft hsn hL hbk hbk0 ha
        go_wp2_with (go_at_call 132; (with_reducible refine Q36.out.mono ?_); rintro e w1 ⟨v1, rfl, r1, o1, _⟩; have HR1 := Lib.hid r1; have HO1 := Lib.hid o1; clear r1 o1)
        exact ⟨⟨k + 1, by omega, by go_num, by rw [HSN2.out]; exact HR1.out, HT.out.next HO1.out⟩, by simp [intOf]; omega⟩
    · obtain rfl : k = A.length := by omega
      rw [List.take_length] at hb
      have HB := Lib.hid hb
      have HT := Lib.hid ht
      clear hb ht
      go_wp2
      go_ret
      exact ⟨_, rfl, HB.out, HT.out⟩

set_option maxHeartbeats 1000000 in
set_option maxRecDepth 100000 in
theorem first_acts {w : World} {ad : Option Addr} {n c : Nat} {m : Int} (hnc : n ≤ c) (hc : c ≤ 9223372036854775807) (h1 : -9223372036854775808 ≤ m) (h2 : m ≤ 9223372036854775807) :
    Calls Tryz.prog 117 #[.slice ad n c, .int .i64 m] w fun e w' => e = .returned (.slice ad (upTo m n) c) ∧ w = w' := by
  go_enter Tryz.func117, Tryz.ntmps117
  go_wp2
  all_goals
    go_ret
    refine ⟨?_, rfl⟩
    show Ending.returned (.slice ad _ c) = _
    congr 2
    unfold upTo
    omega

set_option maxHeartbeats 1000000 in
set_option maxRecDepth 100000 in
theorem first_bytes {w : World} {ad : Option Addr} {n c : Nat} {m : Int} (hnc : n ≤ c) (hc : c ≤ 9223372036854775807) (h1 : -9223372036854775808 ≤ m) (h2 : m ≤ 9223372036854775807) :
    Calls Tryz.prog 119 #[.slice ad n c, .int .i64 m] w fun e w' => e = .returned (.slice ad (upTo m n) c) ∧ w = w' := by
  go_enter Tryz.func119, Tryz.ntmps119
  go_wp2
  all_goals
    go_ret
    refine ⟨?_, rfl⟩
    show Ending.returned (.slice ad _ c) = _
    congr 2
    unfold upTo
    omega
end Go.Proofs.YtmmoilmfpiclgaaGreat

/-
  Rows of bytes in blocks of their own: what append leaves of them, in their own block or in a new one, and what stays beside it.
-/
import Derived.Test.YtmfchlbafpkgaaaD21
import Derived.Lib.AppendStr
import Derived.Lib.ConvBytes
import Derived.ArgAppend
import Derived.Laws.IdiomCopy
set_option linter.unusedVariables false
set_option linter.unusedSimpArgs false
namespace Go.Proofs.Ytmfchlbafpkgaaa
open Go.RowKit Go.Shelf

theorem i5' : (Try.prog.info? 5).map (fun i => (i.zero, i.size, i.bytes)) = some (some (.int .u8 0), 1, 1) := by kernel_rfl

/-- Bytes as cells. -/
def bys (l : List UInt8) : List Value := l.map fun x => Value.int .u8 (x.toNat : Int)
theorem bys_length (l : List UInt8) : (bys l).length = l.length := List.length_map ..
theorem bys_append (a b : List UInt8) : bys (a ++ b) = bys a ++ bys b := List.map_append
theorem bys_take (l : List UInt8) (n : Nat) : bys (l.take n) = (bys l).take n := List.map_take ..
theorem bys_drop (l : List UInt8) (n : Nat) : bys (l.drop n) = (bys l).drop n := List.map_drop ..
theorem bys_one (l : List UInt8) : ∀ u ∈ bys l, u.oneCell' = true := by
  intro u hu
  obtain ⟨x, _, rfl⟩ := List.mem_map.1 hu
  rfl

def capOf : Value → Nat
  | .slice _ _ c => c
  | _ => 0

/-- A block of bytes, none of which a string shares. -/
def Block (w : World) (g cap : Nat) (cs : Array Value) : Prop := ∃ fz : Nat × Nat, w.heap[g]? = some (.cells cs 5 fz) ∧ cs.size = cap ∧ ∀ j, j < cap → ¬ (fz.1 ≤ j ∧ j < fz.2)

/-- v is a slice that begins with its block, and holds these bytes. -/
def BRow (w : World) (v : Value) (l : List UInt8) : Prop :=
  (v = .slice none 0 0 ∧ l = []) ∨ ∃ g cap cs, v = .slice (some ⟨g, 0, none⟩) l.length cap ∧ l.length ≤ cap ∧ cap ≤ 9223372036854775807 ∧ Block w g cap cs ∧ cs.toList.take l.length = bys l

theorem Block.lt {w : World} {g cap : Nat} {cs : Array Value} (h : Block w g cap cs) : g < w.heap.size := by
  obtain ⟨fz, h, _⟩ := h
  exact (Array.getElem?_eq_some_iff.1 h).1
theorem Block.kept {w w' : World} {g cap : Nat} {cs : Array Value} {row : Option Nat} (h : Block w g cap cs) (hg : w.grownBy w' row) (hne : some g ≠ row) : Block w' g cap cs := by
  have hl := h.lt
  obtain ⟨fz, h1, h2⟩ := h
  exact ⟨fz, (hg.block g hl hne).trans h1, h2⟩
theorem Block.cell {w : World} {g cap : Nat} {cs : Array Value} (h : Block w g cap cs) (j : Nat) : w.cell? ⟨g, j, none⟩ = cs[j]? := by
  obtain ⟨fz, h, _⟩ := h
  exact cell_of_row w g j cs 5 fz h
theorem Block.free {w : World} {g cap : Nat} {cs : Array Value} (h : Block w g cap cs) (j : Nat) (hj : j < cap) : w.frozen? ⟨g, j, none⟩ = false := by
  obtain ⟨fz, h, _, hf⟩ := h
  have := hf j hj
  simp only [World.frozen?, h]
  simpa using this

theorem brow_nil (w : World) : BRow w (.slice none 0 0) [] := .inl ⟨rfl, rfl⟩

theorem BRow.own_lt {w : World} {v : Value} {l : List UInt8} (h : BRow w v l) : ∀ g, v.ownBlock = some g → g < w.heap.size := by
  intro g hg
  rcases h with ⟨rfl, _⟩ | ⟨g', cap, cs, rfl, _, _, hb, _⟩
  · cases hg
  · cases hg; exact hb.lt
theorem BRow.kept {w w' : World} {v : Value} {l : List UInt8} {row : Option Nat} (h : BRow w v l) (hg : w.grownBy w' row) (hne : ∀ g, v.ownBlock = some g → some g ≠ row) : BRow w' v l := by
  rcases h with h | ⟨g, cap, cs, rfl, h1, h2, hb, h3⟩
  · exact .inl h
  · exact .inr ⟨g, cap, cs, rfl, h1, h2, hb.kept hg (hne g rfl), h3⟩
theorem BRow.shape {w : World} {v : Value} {l : List UInt8} (h : BRow w v l) : ∃ ad c, v = .slice ad l.length c ∧ l.length ≤ c ∧ c ≤ 9223372036854775807 := by
  rcases h with ⟨rfl, rfl⟩ | ⟨g, cap, cs, rfl, h1, h2, _⟩
  · exact ⟨none, 0, rfl, Nat.le_refl _, by omega⟩
  · exact ⟨_, cap, rfl, h1, h2⟩
theorem BRow.cells {w : World} {b o n c : Nat} {l : List UInt8} (h : BRow w (.slice (some ⟨b, o, none⟩) n c) l) : o = 0 ∧ ∀ j u, (bys l)[j]? = some u → w.cell? ⟨b, j, none⟩ = some u := by
  rcases h with ⟨h, _⟩ | ⟨g, cap, cs, hv, _, _, hb, ht⟩
  · cases h
  · cases hv
    refine ⟨rfl, fun j u hj => ?_⟩
    rw [hb.cell, ← Array.getElem?_toList]
    rw [← ht, List.getElem?_take] at hj
    split at hj
    · exact hj
    · cases hj

/-- Another slice of the same block, that holds a beginning of its bytes. -/
theorem BRow.pre {w : World} {v : Value} {l m : List UInt8} {g : Nat} {c : Nat} (h : BRow w v l) (hg : v.ownBlock = some g) (hc : capOf v = c) (hm : m <+: l) : BRow w (.slice (some ⟨g, 0, none⟩) m.length c) m := by
  rcases h with ⟨rfl, _⟩ | ⟨g', cap, cs, rfl, h1, h2, hb, ht⟩
  · cases hg
  · cases hg
    have hc' : cap = c := hc
    subst hc'
    have hle := hm.length_le
    refine .inr ⟨g', cap, cs, rfl, by omega, h2, hb, ?_⟩
    obtain ⟨r, rfl⟩ := hm
    have := congrArg (List.take m.length) ht
    rw [List.take_take, Nat.min_eq_left hle, bys_append, ← bys_length m, List.take_left] at this
    rw [← bys_length m]; exact this

theorem brow_of_owns {w : World} {base : Nat} {v : Value} {l : List UInt8} (h : w.ownsRow base 5 1 v l.length (bys l)) : BRow w v l := by
  rcases h.2 with ⟨rfl, h0⟩ | ⟨g, cap, cur, rfl, _, hg, h1, h2, h3, ht⟩
  · exact .inl ⟨rfl, List.length_eq_zero_iff.1 h0⟩
  · exact .inr ⟨g, cap, cur, rfl, h1, by unfold maxLen at h2; exact h2, ⟨(0, 0), hg, by omega, fun j _ h => by omega⟩, by rw [← ht, Nat.mul_one]⟩

theorem grown_setCells (b : Nat) : ∀ (vs : List Value) (o : Nat) (w : World), w.grownBy (w.setCells b o vs) (some b)
  | [], _, _ => ⟨rfl, rfl, rfl, Nat.le_refl _, fun _ _ _ => rfl⟩
  | v :: r, o, w => by
    have h1 := grown_setCell w b o v
    have h2 := grown_setCells b r (o + 1) (w.setCell ⟨b, o, none⟩ v)
    exact ⟨h2.os.trans h1.os, h2.tape.trans h1.tape, h2.output.trans h1.output, Nat.le_trans h1.size h2.size, fun k hk hn => (h2.block k (Nat.lt_of_lt_of_le hk h1.size) hn).trans (h1.block k hk hn)⟩

theorem setCell_heap {w : World} {b : Nat} {cs : Array Value} {T : TypeId} {fz : Nat × Nat} (h : w.heap[b]? = some (.cells cs T fz)) (i : Nat) (v : Value) : (w.setCell ⟨b, i, none⟩ v).heap[b]? = some (.cells (cs.setIfInBounds i v) T fz) := by
  obtain ⟨hlt, hk⟩ := Array.getElem?_eq_some_iff.1 h
  show (w.heap.modify b _)[b]? = _
  rw [Array.getElem?_eq_getElem (by rw [Array.size_modify]; exact hlt), Array.getElem_modify_self, hk]
  rfl

theorem setCells_heap {T : TypeId} {fz : Nat × Nat} (b : Nat) : ∀ (vs : List Value) (o : Nat) (w : World) (cs : Array Value), w.heap[b]? = some (.cells cs T fz) → o + vs.length ≤ cs.size →
    ∃ cs', (w.setCells b o vs).heap[b]? = some (.cells cs' T fz) ∧ cs'.size = cs.size ∧ cs'.toList.take (o + vs.length) = cs.toList.take o ++ vs
  | [], o, w, cs, h, _ => ⟨cs, h, rfl, by simp⟩
  | v :: r, o, w, cs, h, hl => by
    simp only [List.length_cons] at hl
    obtain ⟨cs', h1, h2, h3⟩ := setCells_heap b r (o + 1) (w.setCell ⟨b, o, none⟩ v) (cs.setIfInBounds o v) (setCell_heap h o v) (by simp; omega)
    refine ⟨cs', h1, by rw [h2]; simp, ?_⟩
    rw [List.length_cons, show o + (r.length + 1) = o + 1 + r.length by omega, h3]
    rw [Array.toList_setIfInBounds, List.take_succ_eq_append_getElem (by simp; omega), List.getElem_set_self]
    rw [List.take_set_of_le (by omega)]
    simp

/-- What an append to v leaves: in its own block, with as much room, or a new one. -/
def Onto (w w' : World) (v v' : Value) : Prop :=
  (v'.ownBlock = v.ownBlock ∧ capOf v' = capOf v ∧ w.grownBy w' v.ownBlock) ∨ ((∃ g, v'.ownBlock = some g ∧ w.heap.size ≤ g) ∧ w.grownBy w' none)

theorem grownBy_none {w w' : World} {row : Option Nat} (h : w.grownBy w' none) : w.grownBy w' row := ⟨h.os, h.tape, h.output, h.size, fun k hk _ => h.block k hk (by simp)⟩
theorem Onto.grown {w w' : World} {v v' : Value} (h : Onto w w' v v') : w.grownBy w' v.ownBlock := by
  rcases h with ⟨_, _, h⟩ | ⟨_, h⟩
  · exact h
  · exact grownBy_none h

theorem run_append_brow (w : World) (v : Value) (l : List UInt8) (a : Addr) (m c : Nat) (news : List UInt8) (hl : news.length = m) (hnews : ∀ j u, (bys news)[j]? = some u → w.cell? (a.add j) = some u) (hv : BRow w v l) (hlen : l.length + m ≤ 1000000) :
    ∃ v' w', (Builtin.append_ #[58, 58] 58 #[v, .slice (some a) m c]).run Try.prog w = .ok v' w' ∧ BRow w' v' (l ++ news) ∧ Onto w w' v v' := by
  obtain ⟨i0, hi, hz0, hz1, hz2⟩ := info_parts i5'
  subst hl
  have hlb : (bys news).length = news.length * 1 := by rw [bys_length, Nat.mul_one]
  rcases hv with ⟨rfl, rfl⟩ | ⟨g, cap, cs, rfl, h1, h2, hb, ht⟩
  · obtain ⟨v', w', hr, ho, hg, hnil⟩ := run_append_own (P := Try.prog) w w.heap.size 58 58 5 i0 (.int .u8 0) 1 1 Try.underlying58 hi hz0 hz1 hz2 rfl (by decide) (.slice none 0 0) 0 [] (World.ownsRow_nil w _ 5 1) a news.length c (bys news) hlb hnews (bys_one news) (by unfold maxLen; omega) (by omega) (Nat.le_refl _)
    rw [Nat.zero_add, List.nil_append] at ho
    refine ⟨v', w', hr, brow_of_owns ho, ?_⟩
    cases hob : v'.ownBlock with
    | none =>
      refine .inl ⟨by rw [hob]; rfl, ?_, hg⟩
      rcases ho.2 with ⟨rfl, _⟩ | ⟨g, cap, cur, rfl, _⟩
      · rfl
      · cases hob
    | some g => exact .inr ⟨⟨g, hob, (ho.lt g hob).1⟩, hg⟩
  · by_cases hroom : l.length + news.length ≤ cap
    · have hr := run_append_room_cells (P := Try.prog) w 58 58 5 i0 Try.underlying58 hi g 0 l.length cap a news.length c (bys news) (by rw [hlb, hz1]) hnews (bys_one news) hroom
        (fun j hj => by rw [hb.cell, hz1]; obtain ⟨_, _, hs, _⟩ := hb; rw [bys_length] at hj; simp; omega)
        (fun j hj => hb.free _ (by rw [bys_length] at hj; rw [hz1]; omega))
      rw [hz1, Nat.zero_add, Nat.mul_one] at hr
      obtain ⟨fz, hh, hs, hf⟩ := hb
      obtain ⟨cs', k1, k2, k3⟩ := setCells_heap g (bys news) l.length w cs hh (by rw [bys_length]; omega)
      refine ⟨_, _, hr, .inr ⟨g, cap, cs', by rw [List.length_append], by rw [List.length_append]; exact hroom, h2, ⟨fz, k1, by omega, hf⟩, ?_⟩, .inl ⟨rfl, rfl, grown_setCells g _ _ _⟩⟩
      rw [List.length_append, ← bys_length news, k3, ht, bys_append]
    · obtain ⟨v', w', hr, ho, hg⟩ := run_append_arg_grows (P := Try.prog) w 58 58 5 i0 (.int .u8 0) 1 1 Try.underlying58 hi hz0 hz1 hz2 rfl (by decide) ⟨g, 0, none⟩ l.length cap (bys l) (by rw [bys_length, Nat.mul_one])
        (fun j u hj => by
          rw [Addr.add_lit, Nat.zero_add, hb.cell, ← Array.getElem?_toList]
          rw [← ht, List.getElem?_take] at hj
          split at hj
          · exact hj
          · cases hj) a news.length c (bys news) hlb hnews (by omega) (by unfold maxLen; omega) (by omega)
      rw [← bys_append, ← List.length_append] at ho
      refine ⟨v', w', hr, brow_of_owns ho, .inr ⟨?_, hg⟩⟩
      rcases ho.2 with ⟨_, h0⟩ | ⟨g', cap', cur, rfl, hge, _⟩
      · rw [List.length_append] at h0; omega
      · exact ⟨g', rfl, hge⟩

theorem Block.same {w w' : World} {g cap : Nat} {cs : Array Value} (h : Block w g cap cs) (he : w'.heap[g]? = w.heap[g]?) : Block w' g cap cs := by
  obtain ⟨fz, h1, h2⟩ := h
  exact ⟨fz, he.trans h1, h2⟩
theorem BRow.same {w w' : World} {v : Value} {l : List UInt8} (h : BRow w v l) (he : ∀ g, v.ownBlock = some g → w'.heap[g]? = w.heap[g]?) : BRow w' v l := by
  rcases h with h | ⟨g, cap, cs, rfl, h1, h2, hb, h3⟩
  · exact .inl h
  · exact .inr ⟨g, cap, cs, rfl, h1, h2, hb.same (he g rfl), h3⟩
theorem BRow.below {w w' : World} {v : Value} {l : List UInt8} (h : BRow w v l) (hb : Below w.heap.size w w') : BRow w' v l := h.same fun g hg => hb.block g (h.own_lt g hg)
theorem BRow.mem {w : World} {v : Value} {l : List UInt8} (h : BRow w v l) {g : Nat} (hg : v.ownBlock = some g) : ∃ cs fz, w.heap[g]? = some (.cells cs 5 fz) := by
  rcases h with ⟨rfl, _⟩ | ⟨g', cap, cs, rfl, _, _, ⟨fz, hh, _⟩, _⟩
  · cases hg
  · cases hg; exact ⟨cs, fz, hh⟩
theorem owns_same {w w' : World} {base size n : Nat} {e : TypeId} {v : Value} {xs : List Value} (h : w.ownsRow base e size v n xs) (he : ∀ g, v.ownBlock = some g → w'.heap[g]? = w.heap[g]?) : w'.ownsRow base e size v n xs := by
  refine ⟨h.1, ?_⟩
  rcases h.2 with h' | ⟨g, cap, cur, rfl, h2, h3, h4⟩
  · exact .inl h'
  · exact .inr ⟨g, cap, cur, rfl, h2, (he g rfl).trans h3, h4⟩

set_option maxRecDepth 100000 in
theorem conv_str {w : World} {v : Value} {l : List UInt8} (h : BRow w v l) : (convert 58 9 v).run Try.prog w = .ok (.string ⟨l.toArray⟩) w := by
  rcases h with ⟨rfl, rfl⟩ | ⟨g, cap, cs, rfl, h1, h2, hb, ht⟩
  · kernel_rfl
  · refine rowOf_str (c := cap) ⟨fun i hi => ?_, fun i hi => hb.free i (by omega)⟩
    rw [hb.cell, ← Array.getElem?_toList]
    have hx : (bys l)[i]? = some (.int .u8 ((l.getD i 0).toNat : Int)) := by simp [bys, hi]
    rw [← ht, List.getElem?_take, if_pos hi] at hx
    exact hx

theorem conv_brow (W : World) (s : ByteArray) (hs : s.size ≤ 9223372036854775807) : BRow (Lib.bytesWorld W 5 s) (.slice (some ⟨W.heap.size, 0, none⟩) s.size (grownCap W s.size 0 5)) s.data.toList := by
  have hge := grownCap_ge W s.size 0 5
  have hle := grownCap_le_maxLen W s.size 0 5 (by unfold maxLen; exact hs)
  have hsz : (Lib.bytesCells W 5 s).size = grownCap W s.size 0 5 := by
    unfold Lib.bytesCells
    rw [Array.size_append, Array.size_map, Array.size_replicate]
    show s.size + _ = _
    omega
  have hl : s.data.toList.length = s.size := ba_length s
  unfold maxLen at hle
  refine .inr ⟨W.heap.size, _, _, by rw [hl], by rw [hl]; exact hge, hle, ⟨_, Lib.bytesWorld_at_new W 5 s, hsz, fun j hj h => ?_⟩, ?_⟩
  · rw [hsz] at h
    have h1 : grownCap W s.size 0 5 ≤ j := h.1
    omega
  · unfold Lib.bytesCells bys
    rw [Array.toList_append, hl, List.take_append_of_le_length (by simp), List.take_of_length_le (by simp)]
    simp

end Go.Proofs.Ytmfchlbafpkgaaa

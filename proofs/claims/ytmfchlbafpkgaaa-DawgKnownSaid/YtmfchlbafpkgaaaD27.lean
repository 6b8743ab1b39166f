/-
  The key of a state. The map of keys with their numbers. A state's number. Rows of states of one's own: the last one, without it, with another one. Small calls of the making: the deepest open state, an entry's value, how far words begin alike. What is being made, in memory. A state numbered, in what is being made. What a round of shutting leaves, told in memory: facts. A part more behind a row of one's own, as a step of a region that draws its order: an arc, a state. A way that goes one byte deeper, told in memory: facts. Shutting, in plain words, beside what stands in memory. A word added, in plain words, beside what stands in memory. Open states shut, down to a depth. A word added. Transducers that are read: their states and arcs; Size; unlike. The whole, once all was added. formed. The walk down from the root: plain mathematics.
-/
import Derived.Test.YtmfchlbafpkgaaaD25
import Derived.Test.YtmfchlbafpkgaaaD26
import Derived.Maps.AppendAt
import Derived.Laws.IdiomStrings
import Derived.Test.YtmfchlbafpkgaaaD07
import Derived.Deep.RegionLaw
import Derived.Test.YtmfchlbafpkgaaaD03
import Derived.BigQuiet
import Derived.Lib.QuietBelow
set_option linter.unusedVariables false
set_option linter.unusedSimpArgs false
namespace Go.Proofs.Ytmfchlbafpkgaaa
open Go.RowKit Go.Shelf Said

/-- Bytes as cells. -/
def bysD (l : List UInt8) : List Value := l.map fun b => .int .u8 (b.toNat : Int)

/-- A box of bytes that grow. -/
def BytesB (w : World) (base c : Nat) (L : List UInt8) : Prop := ∃ v, w.heap[c]? = some (.cells #[v] 58 (0, 0)) ∧ w.ownsRow base 5 1 v L.length (bysD L)

theorem iByte5 : (Try.prog.info? 5).map (fun i => (i.zero, i.size, i.bytes)) = some (some (.int .u8 0), 1, 1) := by kernel_rfl
theorem info_parts5 : ∃ i, Try.prog.info? 5 = some i ∧ i.zero = some (.int .u8 0) ∧ i.size = 1 ∧ i.bytes = 1 := by
  have h := iByte5
  cases hi : Try.prog.info? 5 with
  | none => rw [hi] at h; cases h
  | some i =>
    rw [hi] at h
    simp only [Option.map_some, Option.some.injEq, Prod.mk.injEq] at h
    exact ⟨i, rfl, h.1, h.2.1, h.2.2⟩

/-- One byte more behind a row of bytes. -/
theorem wpList_append_u8 {w : World} {ops : Array Oper} {rest : List Oper} {o : Oper} {a : Act} {Q : Exit → Act → World → Prop} (hgd : o.guard = none) (s x : Operand)
    (hop : o.op = Op.call { callee := Callee.builtin Builtin.append, args := #[s, x], argTypes := #[58, 58] }) (ht : o.type = 58) (base : Nat) (v : Value) (n : Nat) (fs : List Value) (ad : Addr) (c : Nat) (b : Int)
    (hs : a.eval s = v) (hx : a.eval x = .slice (some ad) 1 c) (hc : w.cell? ad = some (.int .u8 b)) (hv : w.ownsRow base 5 1 v n fs) (hlen : n ≤ 100000000) (hbw : base ≤ w.heap.size)
    (h : ∀ v' w', w'.ownsRow base 5 1 v' (n + 1) (fs ++ [.int .u8 b]) → w.grownBy w' v.ownBlock → (v'.ownBlock = v.ownBlock ∨ v'.ownBlock = some w.heap.size) → wpList Try.prog ops Q rest (a.put o.dst v') w') : wpList Try.prog ops Q (o :: rest) a w := by
  obtain ⟨i0, hi, hz0, hz1, hz2⟩ := info_parts5
  obtain ⟨v', w1, h1, h2, h3, _, h5⟩ := run_append_own_at (P := Try.prog) w base 58 58 5 i0 _ 1 1 Try.underlying58 hi hz0 hz1 hz2 rfl (by decide) v n fs hv ad 1 c [.int .u8 b] rfl
    (by
      intro j u hj
      match j, hj with
      | 0, hj => simp at hj; subst hj; exact hc) (by simp [Value.oneCell']) (by unfold maxLen; omega) (by omega) hbw
  refine wpList_plain hgd fun _ hK => ?_
  unfold Oper.wp execOp
  simp only [hop, ht, resolve, invoke, builtin, Sem.run_bind, Sem.run_pure, Result.andThen_ok, List.map_toArray, List.map_cons, List.map_nil, hs, hx, h1]
  exact hK _ _ (h v' w1 h2 h3 h5)

theorem bysD_snoc (L : List UInt8) (b : UInt8) : bysD (L ++ [b]) = bysD L ++ [.int .u8 (b.toNat : Int)] := by simp [bysD]

theorem bytes8_at (n : Nat) {k : Nat} (h : k < 8) : ∃ x, (bytes8 n)[k]? = some x ∧ x.toNat = n / 2 ^ (8 * k) % 256 := by
  refine ⟨UInt8.ofNat (n / 2 ^ (8 * k) % 256), ?_, ?_⟩
  · unfold bytes8
    rw [List.getElem?_map, List.getElem?_range h]; rfl
  · rw [UInt8.toNat_ofNat']; omega

/-- Only box c and rows of bytes have turned. -/
def Kb (c : Nat) (w w' : World) : Prop := Kp (fun g => g = c ∨ ∃ cs fz, w.heap[g]? = some (.cells cs 5 fz)) w w'
theorem Kb.refl (c : Nat) (w : World) : Kb c w w := Kp.refl _ _
theorem Kb.below {c : Nat} {w w' : World} (h : Below w.heap.size w w') : Kb c w w' := Kp.below h
theorem Kb.trans {c : Nat} {w a b : World} (h : Kb c w a) (k : Kb c a b) : Kb c w b :=
  ⟨k.os.trans h.os, k.tape.trans h.tape, k.output.trans h.output, Nat.le_trans h.size k.size, fun g hg hm => (k.block g (Nat.lt_of_lt_of_le hg h.size) (fun e => by
    rcases e with h' | ⟨cs, fz, h'⟩
    · exact hm (.inl h')
    · rw [h.block g hg hm] at h'
      exact hm (.inr ⟨cs, fz, h'⟩))).trans (h.block g hg hm)⟩
theorem Kb.grown {c : Nat} {w w' : World} {row : Option Nat} (h : w.grownBy w' row) (hm : ∀ g, row = some g → g = c ∨ ∃ cs fz, w.heap[g]? = some (.cells cs 5 fz)) : Kb c w w' := Kp.grown h hm

/-- What key's little function leaves. -/
def Keyed (w : World) (base c : Nat) (L : List UInt8) (e : Ending) (w' : World) : Prop := e = .returned (.tuple #[]) ∧ BytesB w' base c L ∧ Below base w w' ∧ Kb c w w'

set_option maxHeartbeats 2000000 in
set_option maxRecDepth 100000 in
theorem key1_any {w : World} {base c n : Nat} {L : List UInt8} (hb : BytesB w base c L) (hc : base ≤ c) (hn : n < 18446744073709551616) (hl : L.length ≤ 90000000) :
    Calls Try.prog 113 #[.int .u64 (n : Int), .pointer (some ⟨c, 0, none⟩)] w (Keyed w base c (L ++ bytes8 n)) := by
  have HB := Lib.hid hb
  clear hb
  go_enter Try.func113, Try.ntmps113
  go_wp2
  go_loopw [4] (fun s4 wr => ∃ k : Nat, k ≤ 8 ∧ s4 = .int .i64 k ∧ Hid (BytesB wr base c (L ++ (bytes8 n).take k) ∧ Below base w wr ∧ Kb c w wr)) (fun s4 _ => 8 - (intOf s4).toNat)
  case atStart => exact ⟨0, Nat.zero_le _, rfl, Lib.hid ⟨by simpa using HB.out, Below.refl _ _, Kb.refl _ _⟩⟩
  case round =>
    obtain ⟨k, hk, rfl, HR⟩ := hrel
    by_cases hlt : k < 8
    · obtain ⟨v, hv, hrow⟩ := HR.out.1
      have hsl := bytes8_at n hlt
      obtain ⟨x, hx1, hx2⟩ := hsl
      have HV : Hid (∀ W, Below wr.heap.size wr W → W.cell? ⟨c, 0, none⟩ = some v) := Lib.hid fun W h => by
        rw [h.cell (p := ⟨c, 0, none⟩) (Array.getElem?_eq_some_iff.1 hv).1, cell_of_row wr c 0 _ _ _ hv]; rfl
      have HROW := Lib.hid (And.intro hv hrow)
      have HX := Lib.hid (And.intro hx1 hx2)
      have e0 : IntKind.i64.wrap (8 * (k : Int)) = ((8 * k : Nat) : Int) := by rw [IntWalk.i64_in _ (by omega)]; omega
      have hMN : Mono (fun v W => ∃ bb, v = .slice (some ⟨bb, 0, none⟩) 1 1 ∧ W.cell? ⟨bb, 0, none⟩ = some (.int .u8 (x.toNat : Int))) := by
        rintro v W W' hb ⟨bb, e, n1⟩
        exact ⟨bb, e, by rw [hb.cell (p := ⟨bb, 0, none⟩) (block_lt_of_cell n1)]; exact n1⟩
      clear hv hrow hx1 hx2
      go_wp2
      refine Said.region_tail (by kernel_rfl) 7 (by kernel_rfl) (by kernel_rfl) (by kernel_rfl) [.is v, .is (.int .u64 (n : Int)), .is (.int .i64 (k : Int)), .is (.int .i64 ((8 * k : Nat) : Int)), .is (.int .u64 ((n / 2 ^ (8 * k) : Nat) : Int)), .is (.int .u8 (x.toNat : Int)),
        .has (fun v W => ∃ bb, v = .slice (some ⟨bb, 0, none⟩) 1 1 ∧ W.cell? ⟨bb, 0, none⟩ = some (.int .u8 (x.toNat : Int)))] ?_
      simp only [List.toList_toArray, List.take_succ_cons, List.take_zero, List.drop_succ_cons, List.drop_zero]
      iterate 4 (
        refine sq_pure (by rfl) (fun W hb _ => ?_) ?_
        · have y1 := HV.out W hb
          go_simp
        simp only [Act.put, List.setIfInBounds_toArray, List.set_cons_zero, List.set_cons_succ])
      refine sq_pure (by rfl) (fun W hb _ => ?_) ?_
      · go_simp
        rw [show (8 * (k : Int)).toNat = 8 * k by omega]
      simp only [Act.put, List.setIfInBounds_toArray, List.set_cons_zero, List.set_cons_succ]
      refine sq_pure (by rfl) (fun W hb _ => ?_) ?_
      · go_simp
        rw [show (n : Int) / 2 ^ (8 * k) = ((n / 2 ^ (8 * k) : Nat) : Int) by simp, IntKind.wrap_u8, HX.out.2]
        omega
      simp only [Act.put, List.setIfInBounds_toArray, List.set_cons_zero, List.set_cons_succ]
      refine sq_has hMN (fun W hb _ => step_value (v := .slice (some ⟨W.heap.size, 0, none⟩) 1 1) (W' := W.alloc (.cells #[.int .u8 (x.toNat : Int)] 5)) (by rfl) (by go_simp) (below_alloc W _) ⟨W.heap.size, rfl, by simp⟩) (fun v13 => ?_)
      simp only [Act.put, List.setIfInBounds_toArray, List.set_cons_zero, List.set_cons_succ]
      refine sq_end (fun W hb hK => ?_)
      obtain ⟨bb, rfl, n1⟩ := hK _ (List.mem_cons_self ..)
      have hrowW := owns_same HROW.out.2 fun g hg => hb.block g (HROW.out.2.lt g hg).2
      have hB := Lib.hid (hb.block c (Array.getElem?_eq_some_iff.1 HROW.out.1).1)
      have hwb : base ≤ wr.heap.size := by have := (Array.getElem?_eq_some_iff.1 HROW.out.1).1; omega
      have HKW := Lib.hid (Kb.trans HR.out.2.2 (Kb.below hb))
      have HBW := Lib.hid (Below.trans HR.out.2.1 (hb.mono hwb))
      have hbw : base ≤ W.heap.size := by
        have h1 := HBW.out.size
        have h2 := (Array.getElem?_eq_some_iff.1 HROW.out.1).1
        have h3 := hb.size
        omega
      have hlb : (L ++ (bytes8 n).take k).length ≤ 100000000 := by simp [bytes8]; omega
      have HVC := Lib.hid (fun g (hg : v.ownBlock = some g) => (HROW.out.2.lt g hg).1)
      have HNC : Hid (v.ownBlock ≠ some c) := Lib.hid fun e => by
        obtain ⟨_, cs, fz, h1⟩ := owns_cells HROW.out.2 c e
        have := h1.symm.trans HROW.out.1
        cases this
      clear hK hb
      refine wpList_append_u8 rfl (.tmp 7) (.tmp 13) rfl rfl base v _ _ ⟨bb, 0, none⟩ 1 (x.toNat : Int) rfl rfl n1 hrowW hlb hbw (fun v' w' hown hg hor => ?_)
      have hc' : w'.heap[c]? = some (.cells #[v] 58 (0, 0)) := by
        rw [hg.block c (Array.getElem?_eq_some_iff.1 (hB.out.trans HROW.out.1)).1 (fun e => HNC.out e.symm), hB.out]
        exact HROW.out.1
      have HN : Hid (BytesB (w'.setCell ⟨c, 0, none⟩ v') base c (L ++ (bytes8 n).take (k + 1)) ∧ Below base w (w'.setCell ⟨c, 0, none⟩ v') ∧ Kb c w (w'.setCell ⟨c, 0, none⟩ v')) := Lib.hid (by
        have hnc' : v'.ownBlock ≠ some c := fun e => by
          obtain ⟨_, cs, fz, h1⟩ := owns_cells hown c e
          have := h1.symm.trans hc'
          cases this
        refine ⟨⟨v', cells_setCell hc' 0 v', ?_⟩, (HBW.out.grown hg hbw (fun r hr => HVC.out r hr)).grown (grown_setCell w' c 0 v') (by have := hg.size; omega) (fun r hr => by cases hr; exact hc), (HKW.out.trans (Kb.grown hg (fun g hg' => .inr (owns_cells hrowW g hg').2))).trans (Kb.grown (grown_setCell w' c 0 v') (fun g hg' => by cases hg'; exact .inl rfl))⟩
        rw [List.take_add_one, HX.out.1, ← List.append_assoc, Option.toList_some, bysD_snoc, List.length_append, List.length_singleton]
        exact owns_same hown fun g hg' => (grown_setCell w' c 0 v').block g (hown.lt g hg').2 (fun e => hnc' (by rw [hg', Option.some.inj e])))
      obtain ⟨ad', n', c', rfl⟩ : ∃ ad n c, v' = .slice ad n c := by
        rcases hown.2 with ⟨rfl, _⟩ | ⟨g, cap, cur, rfl, _⟩
        · exact ⟨_, _, _, rfl⟩
        · exact ⟨_, _, _, rfl⟩
      have k9 : w'.cell? ⟨c, 0, none⟩ = some v := by rw [cell_of_row w' c 0 _ _ _ hc']; rfl
      have f9 : w'.frozen? ⟨c, 0, none⟩ = false := by simp [World.frozen?, hc']
      clear hown hg hor hrowW n1 hc'
      go_wp2_with fail
      exact ⟨⟨k + 1, by omega, by go_num, HN⟩, by simp [intOf]; omega⟩
    · obtain rfl : k = 8 := by omega
      go_wp2
      go_end0
      have := HR.out
      rw [List.take_of_length_le (by simp [bytes8])] at this
      exact ⟨rfl, this.1, this.2.1, this.2.2⟩

/-- One byte more in a box of bytes. -/
theorem bytesB_put {W Wx w' : World} {base c : Nat} {L : List UInt8} {v v' : Value} {b : UInt8} (hc : W.heap[c]? = some (.cells #[v] 58 (0, 0))) (hrow : W.ownsRow base 5 1 v L.length (bysD L)) (hbc : base ≤ c) (hx : Below W.heap.size W Wx)
    (hown : w'.ownsRow base 5 1 v' (L.length + 1) (bysD L ++ [.int .u8 (b.toNat : Int)])) (hg : Wx.grownBy w' v.ownBlock) :
    (∃ ad n cp, v' = .slice ad n cp) ∧ w'.cell? ⟨c, 0, none⟩ = some v ∧ w'.frozen? ⟨c, 0, none⟩ = false ∧ BytesB (w'.setCell ⟨c, 0, none⟩ v') base c (L ++ [b]) ∧ Below base W (w'.setCell ⟨c, 0, none⟩ v') ∧ Kb c W (w'.setCell ⟨c, 0, none⟩ v') := by
  have hlt := (Array.getElem?_eq_some_iff.1 hc).1
  have hnc : v.ownBlock ≠ some c := fun e => by
    obtain ⟨_, cs, fz, h1⟩ := owns_cells hrow c e
    have := h1.symm.trans hc
    cases this
  have hcx : Wx.heap[c]? = some (.cells #[v] 58 (0, 0)) := (hx.block c hlt).trans hc
  have hc' : w'.heap[c]? = some (.cells #[v] 58 (0, 0)) := (hg.block c (Array.getElem?_eq_some_iff.1 hcx).1 (fun e => hnc e.symm)).trans hcx
  have hnc' : v'.ownBlock ≠ some c := fun e => by
    obtain ⟨_, cs, fz, h1⟩ := owns_cells hown c e
    have := h1.symm.trans hc'
    cases this
  have hz := hx.size
  refine ⟨?_, by rw [cell_of_row w' c 0 _ _ _ hc']; rfl, by simp [World.frozen?, hc'], ⟨v', cells_setCell hc' 0 v', ?_⟩, ?_, ?_⟩
  · rcases hown.2 with ⟨rfl, _⟩ | ⟨g, cap, cur, rfl, _⟩
    · exact ⟨_, _, _, rfl⟩
    · exact ⟨_, _, _, rfl⟩
  · rw [bysD_snoc, List.length_append, List.length_singleton]
    exact owns_same hown fun g hg' => (grown_setCell w' c 0 v').block g (hown.lt g hg').2 (fun e => hnc' (by rw [hg', Option.some.inj e]))
  · exact ((hx.mono (by omega)).grown hg (by omega) (fun r hr => (hrow.lt r hr).1)).grown (grown_setCell w' c 0 v') (by have := hg.size; omega) (fun r hr => by cases hr; exact hbc)
  · exact ((Kb.below hx).trans (Kb.grown hg (fun g hg' => .inr (by obtain ⟨_, cs, fz, h1⟩ := owns_cells hrow g hg'; exact ⟨cs, fz, (hx.block g (hrow.lt g hg').2).trans h1⟩)))).trans (Kb.grown (grown_setCell w' c 0 v') (fun g hg' => by cases hg'; exact .inl rfl))

/-- The bytes of a key so far. -/
def keyTo (s : DSt) (k : Nat) : List UInt8 := (if s.fin then 1 else 0) :: (bytes8 s.out ++ (s.arcs.take k).flatMap arcK)
theorem keyTo_all (s : DSt) : keyTo s s.arcs.length = s.key := by simp [keyTo, DSt.key]
theorem keyTo_succ (s : DSt) {k : Nat} (h : k < s.arcs.length) : keyTo s (k + 1) = keyTo s k ++ arcK (arcAt s.arcs k) := by
  unfold keyTo
  rw [List.take_add_one, List.getElem?_eq_getElem h, arcAt_lt h, Option.toList_some, List.flatMap_append, List.flatMap_singleton, ← List.append_assoc]
  rfl

theorem bytesB_kb {W W' : World} {c b : Nat} {o : Obj} (hk : Kb c W W') (hb : W.heap[b]? = some o) (hne : b ≠ c) (ho : ∀ cs fz, o ≠ .cells cs 5 fz) : W'.heap[b]? = some o :=
  (hk.block b (Array.getElem?_eq_some_iff.1 hb).1 (fun e => by
    rcases e with e | ⟨cs, fz, e⟩
    · exact hne e
    · rw [hb] at e
      exact ho cs fz (Option.some.inj e))).trans hb

theorem key_start {w w1 : World} {x y z : Value} (hg : (w.alloc (.cells #[x, y, z] 91)).grownBy w1 none) : w1.heap[w.heap.size]? = some (.cells #[x, y, z] 91 (0, 0)) ∧ w.heap.size + 1 ≤ w1.heap.size ∧ Below (w.heap.size + 1) (w.alloc (.cells #[x, y, z] 91)) w1 ∧ ∀ o, (w1.alloc o).cell? ⟨w.heap.size, 1, none⟩ = some y := by
  have hz := hg.size
  rw [show (w.alloc (.cells #[x, y, z] 91)).heap.size = w.heap.size + 1 by simp] at hz
  have hb : w1.heap[w.heap.size]? = some (.cells #[x, y, z] 91 (0, 0)) := by
    rw [hg.block _ (by simp) (by simp)]; exact heap_alloc_new w _
  refine ⟨hb, hz, (Below.refl _ _).grown hg (by simp) (by simp), fun o => ?_⟩
  rw [(below_alloc w1 o).cell (p := ⟨w.heap.size, 1, none⟩) (show w.heap.size < _ by omega), cell_of_row w1 _ 1 _ _ _ hb]
  rfl

theorem box_cells {w W : World} {x y z : Value} (h : Below (w.heap.size + 1) (w.alloc (.cells #[x, y, z] 91)) W) : W.cell? ⟨w.heap.size, 0, none⟩ = some x ∧ W.cell? ⟨w.heap.size, 2, none⟩ = some z := by
  have hb : W.heap[w.heap.size]? = some (.cells #[x, y, z] 91 (0, 0)) := by
    rw [h.block _ (by omega)]; exact heap_alloc_new w _
  exact ⟨by rw [cell_of_row W _ 0 _ _ _ hb]; rfl, by rw [cell_of_row W _ 2 _ _ _ hb]; rfl⟩

theorem key_two {w w1 : World} {x y z v : Value} {m : Nat} (hr : w1.ownsRow (w.heap.size + 1) 5 1 (.slice (some ⟨(w.alloc (.cells #[x, y, z] 91)).heap.size, 0, none⟩) 0 m) 0 []) (hg : (w.alloc (.cells #[x, y, z] 91)).grownBy w1 none) (hv : v = .slice (some ⟨w.heap.size + 1, 0, none⟩) 0 m) :
    ((w1.alloc (.cells #[v] 58)).heap[w1.heap.size]? = some (.cells #[v] 58 (0, 0)) ∧ (w1.alloc (.cells #[v] 58)).ownsRow (w.heap.size + 1) 5 1 v 0 []) ∧ w.heap.size + 1 ≤ w1.heap.size ∧ Below (w.heap.size + 1) (w.alloc (.cells #[x, y, z] 91)) (w1.alloc (.cells #[v] 58)) := by
  rw [show (w.alloc (.cells #[x, y, z] 91)).heap.size = w.heap.size + 1 by simp] at hr
  obtain ⟨-, h2, h3, -⟩ := key_start hg
  exact ⟨⟨heap_alloc_new w1 _, by subst hv; exact hr.alloc _⟩, h2, h3.alloc h2 _⟩

/-- What a round keeps. -/
def KeyI (w : World) (x y z : Value) (c : Nat) (L : List UInt8) (W : World) : Prop := BytesB W (w.heap.size + 1) c L ∧ Below (w.heap.size + 1) (w.alloc (.cells #[x, y, z] 91)) W ∧ w.heap.size + 1 ≤ c

theorem key_arc {wr W5 : World} {c : Nat} {y : DArc} (hk : Kb c (wr.alloc (.cells #[.int .u8 (y.b : Int), .int .u64 (y.out : Int), .int .i64 y.to] 93)) W5) (hc : c < wr.heap.size) :
    W5.cell? ⟨wr.heap.size, 1, none⟩ = some (.int .u64 (y.out : Int)) ∧ W5.cell? ⟨wr.heap.size, 2, none⟩ = some (.int .i64 y.to) := by
  have h := bytesB_kb hk (heap_alloc_new wr _) (by omega) (by intro cs fz e; cases e)
  exact ⟨by rw [cell_of_row W5 _ 1 _ _ _ h]; rfl, by rw [cell_of_row W5 _ 2 _ _ _ h]; rfl⟩
theorem asU_wrap (n : Int) : IntKind.u64.wrap n = ((asU n : Nat) : Int) := by
  rw [IntKind.wrap_u64]; unfold asU; omega
theorem asU_lt (n : Int) : asU n < 18446744073709551616 := by unfold asU; omega
theorem keyTo_pos (s : DSt) (k : Nat) : 0 < (keyTo s k).length := by simp [keyTo]
theorem own_some {W : World} {base n : Nat} {v : Value} {xs : List Value} (h : W.ownsRow base 5 1 v n xs) (hn : 0 < n) : ∃ g c, v = .slice (some ⟨g, 0, none⟩) n c := by
  rcases h.2 with ⟨_, h0⟩ | ⟨g, cap, cur, rfl, _⟩
  · omega
  · exact ⟨g, cap, rfl⟩
theorem conv_own {W : World} {base g c : Nat} {L : List UInt8} (h : W.ownsRow base 5 1 (.slice (some ⟨g, 0, none⟩) L.length c) L.length (bysD L)) :
    (convert 58 9 (.slice (some ⟨g, 0, none⟩) L.length c)).run Try.prog W = .ok (.string ⟨L.toArray⟩) W :=
  run_convert_bytes_back W 58 9 5 ⟨g, 0, none⟩ c L Try.underlying58 Try.underlying5 Try.underlying9 fun j hj => by
    rw [Addr.add_lit, Nat.zero_add, World.ownsRow.cellAt h j (by omega)]
    simp [bysD, hj]
theorem keyI_sz {w W : World} {x y z : Value} {c : Nat} {L : List UInt8} (h : KeyI w x y z c L W) : w.heap.size + 1 ≤ W.heap.size := by
  have := h.2.1.size
  rwa [show (w.alloc (.cells #[x, y, z] 91)).heap.size = w.heap.size + 1 by simp] at this

theorem keyI_below {w W : World} {x y z : Value} {c : Nat} {L : List UInt8} (h : KeyI w x y z c L W) : Below w.heap.size w W :=
  (below_alloc w _).trans (h.2.1.mono (by omega))
theorem keyI_size {w W : World} {x y z : Value} {c : Nat} {L : List UInt8} {o1 o2 : Obj} (h : KeyI w x y z c L W) : w.heap.size + 1 ≤ ((W.alloc o1).alloc o2).heap.size := by
  have := h.2.1.size
  rw [show (w.alloc (.cells #[x, y, z] 91)).heap.size = w.heap.size + 1 by simp] at this
  simp
  omega
theorem bytes8_len (n : Nat) : (bytes8 n).length = 8 := by simp [bytes8]
theorem arcK_len (a : DArc) : (arcK a).length = 17 := by simp [arcK, bytes8_len]
theorem keyTo_len (s : DSt) (k : Nat) (h : k ≤ 100000) : (keyTo s k).length ≤ 10000000 := by
  have h1 : ∀ l : List DArc, (l.flatMap arcK).length = l.length * 17 := fun l => by
    induction l with
    | nil => rfl
    | cons x l ih => rw [List.flatMap_cons, List.length_append, ih, arcK_len, List.length_cons]; omega
  unfold keyTo
  rw [List.length_cons, List.length_append, h1, bytes8_len, List.length_take]
  omega

set_option maxHeartbeats 4000000 in
set_option maxRecDepth 100000 in
theorem key_any {w : World} {v : Value} {s : DSt} (ha : Arcs w v s.arcs) (ho : s.ok) (hl : s.arcs.length ≤ 100000) :
    Calls Try.prog 106 #[.agg #[v, .bool s.fin, .int .u64 (s.out : Int)]] w fun e w' => e = .returned (.string s.keyB) ∧ Below w.heap.size w w' := by
  obtain ⟨ad, cp, rfl, hc⟩ := ha
  obtain ⟨i0, hi, hz0, hz1, hz2⟩ := info_parts5
  have HC : Hid (∀ W, Below w.heap.size w W → ∀ i, i < s.arcs.length → ∃ b o, ad = some ⟨b, o, none⟩ ∧ ArcIn W b (o + i * 3) (arcAt s.arcs i)) := Lib.hid fun W hg i hi => by
    obtain ⟨b, o, rfl, hE⟩ := hc i hi
    exact ⟨b, o, rfl, hE.kept (hg.block b hE.lt)⟩
  have HO := Lib.hid ho
  have HI := Lib.hid (And.intro hi (And.intro hz0 (And.intro hz1 hz2)))
  have e1 : IntKind.i64.wrap (17 * (s.arcs.length : Int)) = ((17 * s.arcs.length : Nat) : Int) := by rw [IntWalk.i64_in _ (by omega)]; omega
  have e2 : IntKind.i64.wrap (9 + ((17 * s.arcs.length : Nat) : Int)) = ((9 + 17 * s.arcs.length : Nat) : Int) := by rw [IntWalk.i64_in _ (by omega)]; omega
  clear hc ho hi hz0 hz1 hz2
  cases hf : s.fin
  · have HFIN := Lib.hid hf
    clear hf
    go_enter Try.func106, Try.ntmps106
    go_wp2_with (first
     | (refine wpList_make_own _ rfl _ _ 58 rfl (w.heap.size + 1) 5 i0 _ 1 Try.underlying58 HI.out.1 HI.out.2.1 HI.out.2.2.1 .i64 .i64 _ (9 + 17 * s.arcs.length) rfl rfl rfl (by rw [HI.out.2.2.2]; omega) (by unfold maxLen; omega) (by simp) (fun w1 hr1 hg1 => ?_)
        obtain ⟨-, -, -, k1⟩ := key_start hg1
        have HS2 := Lib.hid (key_two (v := .slice (some ⟨w.heap.size + 1, 0, none⟩) 0 (9 + 17 * s.arcs.length)) hr1 hg1 rfl)
        clear hr1 hg1)
     | (at_builtin
        refine wpList_append_u8 rfl (.tmp 19) (.tmp 20) rfl rfl (w.heap.size + 1) (.slice (some ⟨w.heap.size + 1, 0, none⟩) 0 (9 + 17 * s.arcs.length)) 0 [] ⟨w1.heap.size + 1, 0, none⟩ 1 0 rfl rfl (by simp) (HS2.out.1.2.alloc _) (by omega) (by have := HS2.out.2.1; simp; omega) (fun v' w' hown hg _ => ?_)
        obtain ⟨⟨a9, n9, c9, rfl⟩, q1, q2, q3, q4, -⟩ := bytesB_put (b := 0) (L := []) HS2.out.1.1 HS2.out.1.2 HS2.out.2.1 (below_alloc _ _) hown hg
        have HS3 := Lib.hid (show KeyI w (.slice ad s.arcs.length cp) (.bool false) (.int .u64 (s.out : Int)) w1.heap.size [0] _ from ⟨q3, HS2.out.2.2.trans q4, HS2.out.2.1⟩)
        obtain ⟨-, k2⟩ := box_cells HS3.out.2.1
        clear hown hg q3 q4))
    refine (key1_any (n := s.out) HS3.out.1 (by have := HS3.out.2.2; omega) HO.out.2 (by simp)).mono ?_
    rintro e' w4 ⟨rfl, h1, h2, -⟩
    have HS4 : Hid (KeyI w (.slice ad s.arcs.length cp) (.bool false) (.int .u64 (s.out : Int)) w1.heap.size (keyTo s 0) w4) := Lib.hid ⟨by
      rw [show keyTo s 0 = [if s.fin then 1 else 0] ++ bytes8 s.out by simp [keyTo], HFIN.out]; exact h1, HS3.out.2.1.trans h2, HS3.out.2.2⟩
    obtain ⟨k0, -⟩ := box_cells HS4.out.2.1
    clear h1 h2 HS3 HS2 q1 q2 k1 k2 e1 e2
    go_wp2
    go_loopw [29] (fun s29 wr => ∃ k : Nat, k ≤ s.arcs.length ∧ s29 = .int .i64 k ∧ Hid (KeyI w (.slice ad s.arcs.length cp) (.bool false) (.int .u64 (s.out : Int)) w1.heap.size (keyTo s k) wr)) (fun s29 _ => s.arcs.length - (intOf s29).toNat)
    case atStart => exact ⟨0, Nat.zero_le _, rfl, HS4⟩
    case round =>
      obtain ⟨k, hk, rfl, HR⟩ := hrel
      obtain ⟨vb, hvb, hrow⟩ := HR.out.1
      have HB := Lib.hid (And.intro hvb hrow)
      clear hvb hrow
      by_cases hlt : k < s.arcs.length
      · have hbW : Below w.heap.size w wr := keyI_below HR.out
        obtain ⟨b, o, rfl, hE⟩ := HC.out wr hbW k hlt
        obtain ⟨h1, h2, h3⟩ := hE
        obtain ⟨y, hy⟩ : ∃ y, arcAt s.arcs k = y := ⟨_, rfl⟩
        have HY := Lib.hid hy
        have HYO : Hid y.ok := Lib.hid (by rw [← hy, arcAt_lt hlt]; exact HO.out.1 _ (List.getElem_mem hlt))
        rw [hy] at h1 h2 h3
        have kc : ∀ ob, (wr.alloc ob).cell? ⟨w1.heap.size, 0, none⟩ = some vb := fun ob => by
          rw [(below_alloc wr ob).cell (p := ⟨w1.heap.size, 0, none⟩) (Array.getElem?_eq_some_iff.1 HB.out.1).1, cell_of_row wr _ 0 _ _ _ HB.out.1]; rfl
        have hlen : (keyTo s k).length ≤ 10000000 := keyTo_len s k (by omega)
        clear hbW hy
        have HEX : Hid (((UInt8.ofNat y.b).toNat : Int) = (y.b : Int)) := Lib.hid (by have := HYO.out.1; rw [UInt8.toNat_ofNat']; omega)
        have HCL := Lib.hid (Array.getElem?_eq_some_iff.1 HB.out.1).1
        have e7 : IntKind.u64.wrap y.to = ((asU y.to : Nat) : Int) := asU_wrap _
        go_wp2_with (at_builtin
                     refine wpList_append_u8 rfl (.tmp 33) (.tmp 36) rfl rfl (w.heap.size + 1) vb _ _ ⟨wr.heap.size + 1, 0, none⟩ 1 (y.b : Int) rfl rfl (by simp) ((HB.out.2.alloc _).alloc _) (by omega) (keyI_size HR.out) (fun v' w' hown hg _ => ?_)
                     rw [← HEX.out] at hown
                     obtain ⟨⟨a8, n8, c8, rfl⟩, q1, q2, q3, q4, q5⟩ := bytesB_put (W := wr.alloc (.cells #[.int .u8 (y.b : Int), .int .u64 (y.out : Int), .int .i64 y.to] 93)) (b := UInt8.ofNat y.b) (L := keyTo s k) (((below_alloc wr _).block _ (Array.getElem?_eq_some_iff.1 HB.out.1).1).trans HB.out.1) (HB.out.2.alloc _) (by have := HR.out.2.2; omega) (below_alloc _ _) hown hg
                     obtain ⟨m1, m2⟩ := key_arc q5 HCL.out
                     have HS5 := Lib.hid (And.intro q3 (And.intro q4 q5))
                     clear hown hg q3 q4 q5)
        refine (key1_any (n := y.out) HS5.out.1 (by have := HR.out.2.2; omega) HYO.out.2.1 (by rw [List.length_append, List.length_singleton]; omega)).mono ?_
        rintro e' w6 ⟨rfl, g1, g2, g3⟩
        have HK6 := Lib.hid (HS5.out.2.2.trans g3)
        obtain ⟨-, m2⟩ := key_arc HK6.out HCL.out
        have HS6 := Lib.hid (And.intro g1 (HS5.out.2.1.trans g2))
        clear g1 g2 g3 m1 q1 q2
        go_wp2_with fail
        refine (key1_any (n := asU y.to) HS6.out.1 (by have := HR.out.2.2; omega) (asU_lt _) (by rw [List.length_append, List.length_append, List.length_singleton, bytes8_len]; omega)).mono ?_
        rintro e' w7 ⟨rfl, g1, g2, g3⟩
        have HS7 : Hid (KeyI w (.slice (some ⟨b, o, none⟩) s.arcs.length cp) (.bool false) (.int .u64 (s.out : Int)) w1.heap.size (keyTo s (k + 1)) w7) := Lib.hid ⟨by
          rw [keyTo_succ s hlt, HY.out]
          have e : keyTo s k ++ arcK y = keyTo s k ++ [UInt8.ofNat y.b] ++ bytes8 y.out ++ bytes8 (asU y.to) := by simp [arcK]
          rw [e]; exact g1, HR.out.2.1.trans ((((below_alloc wr _).mono (keyI_sz HR.out)).trans HS6.out.2).trans g2), HR.out.2.2⟩
        clear g1 g2 g3
        go_wp2_with fail
        exact ⟨⟨k + 1, by omega, by go_num, HS7⟩, by simp [intOf]; omega⟩
      · obtain rfl : k = s.arcs.length := by omega
        obtain ⟨gb, cb, rfl⟩ := own_some HB.out.2 (keyTo_pos s _)
        have kc : wr.cell? ⟨w1.heap.size, 0, none⟩ = some (.slice (some ⟨gb, 0, none⟩) (keyTo s s.arcs.length).length cb) := by rw [cell_of_row wr _ 0 _ _ _ HB.out.1]; rfl
        have hcv := conv_own HB.out.2
        have HBF := Lib.hid (keyI_below HR.out)
        rw [keyTo_all] at hcv kc
        go_wp2
        go_ret
        exact ⟨rfl, HBF.out⟩
  · have HFIN := Lib.hid hf
    clear hf
    go_enter Try.func106, Try.ntmps106
    go_wp2_with (first
     | (refine wpList_make_own _ rfl _ _ 58 rfl (w.heap.size + 1) 5 i0 _ 1 Try.underlying58 HI.out.1 HI.out.2.1 HI.out.2.2.1 .i64 .i64 _ (9 + 17 * s.arcs.length) rfl rfl rfl (by rw [HI.out.2.2.2]; omega) (by unfold maxLen; omega) (by simp) (fun w1 hr1 hg1 => ?_)
        obtain ⟨-, -, -, k1⟩ := key_start hg1
        have HS2 := Lib.hid (key_two (v := .slice (some ⟨w.heap.size + 1, 0, none⟩) 0 (9 + 17 * s.arcs.length)) hr1 hg1 rfl)
        clear hr1 hg1)
     | (at_builtin
        refine wpList_append_u8 rfl (.tmp 16) (.tmp 17) rfl rfl (w.heap.size + 1) (.slice (some ⟨w.heap.size + 1, 0, none⟩) 0 (9 + 17 * s.arcs.length)) 0 [] ⟨w1.heap.size + 1, 0, none⟩ 1 1 rfl rfl (by simp) (HS2.out.1.2.alloc _) (by omega) (by have := HS2.out.2.1; simp; omega) (fun v' w' hown hg _ => ?_)
        obtain ⟨⟨a9, n9, c9, rfl⟩, q1, q2, q3, q4, -⟩ := bytesB_put (b := 1) (L := []) HS2.out.1.1 HS2.out.1.2 HS2.out.2.1 (below_alloc _ _) hown hg
        have HS3 := Lib.hid (show KeyI w (.slice ad s.arcs.length cp) (.bool true) (.int .u64 (s.out : Int)) w1.heap.size [1] _ from ⟨q3, HS2.out.2.2.trans q4, HS2.out.2.1⟩)
        obtain ⟨-, k2⟩ := box_cells HS3.out.2.1
        clear hown hg q3 q4))
    refine (key1_any (n := s.out) HS3.out.1 (by have := HS3.out.2.2; omega) HO.out.2 (by simp)).mono ?_
    rintro e' w4 ⟨rfl, h1, h2, -⟩
    have HS4 : Hid (KeyI w (.slice ad s.arcs.length cp) (.bool true) (.int .u64 (s.out : Int)) w1.heap.size (keyTo s 0) w4) := Lib.hid ⟨by
      rw [show keyTo s 0 = [if s.fin then 1 else 0] ++ bytes8 s.out by simp [keyTo], HFIN.out]; exact h1, HS3.out.2.1.trans h2, HS3.out.2.2⟩
    obtain ⟨k0, -⟩ := box_cells HS4.out.2.1
    clear h1 h2 HS3 HS2 q1 q2 k1 k2 e1 e2
    go_wp2
    go_loopw [29] (fun s29 wr => ∃ k : Nat, k ≤ s.arcs.length ∧ s29 = .int .i64 k ∧ Hid (KeyI w (.slice ad s.arcs.length cp) (.bool true) (.int .u64 (s.out : Int)) w1.heap.size (keyTo s k) wr)) (fun s29 _ => s.arcs.length - (intOf s29).toNat)
    case atStart => exact ⟨0, Nat.zero_le _, rfl, HS4⟩
    case round =>
      obtain ⟨k, hk, rfl, HR⟩ := hrel
      obtain ⟨vb, hvb, hrow⟩ := HR.out.1
      have HB := Lib.hid (And.intro hvb hrow)
      clear hvb hrow
      by_cases hlt : k < s.arcs.length
      · have hbW : Below w.heap.size w wr := keyI_below HR.out
        obtain ⟨b, o, rfl, hE⟩ := HC.out wr hbW k hlt
        obtain ⟨h1, h2, h3⟩ := hE
        obtain ⟨y, hy⟩ : ∃ y, arcAt s.arcs k = y := ⟨_, rfl⟩
        have HY := Lib.hid hy
        have HYO : Hid y.ok := Lib.hid (by rw [← hy, arcAt_lt hlt]; exact HO.out.1 _ (List.getElem_mem hlt))
        rw [hy] at h1 h2 h3
        have kc : ∀ ob, (wr.alloc ob).cell? ⟨w1.heap.size, 0, none⟩ = some vb := fun ob => by
          rw [(below_alloc wr ob).cell (p := ⟨w1.heap.size, 0, none⟩) (Array.getElem?_eq_some_iff.1 HB.out.1).1, cell_of_row wr _ 0 _ _ _ HB.out.1]; rfl
        have hlen : (keyTo s k).length ≤ 10000000 := keyTo_len s k (by omega)
        clear hbW hy
        have HEX : Hid (((UInt8.ofNat y.b).toNat : Int) = (y.b : Int)) := Lib.hid (by have := HYO.out.1; rw [UInt8.toNat_ofNat']; omega)
        have HCL := Lib.hid (Array.getElem?_eq_some_iff.1 HB.out.1).1
        have e7 : IntKind.u64.wrap y.to = ((asU y.to : Nat) : Int) := asU_wrap _
        go_wp2_with (at_builtin
                     refine wpList_append_u8 rfl (.tmp 33) (.tmp 36) rfl rfl (w.heap.size + 1) vb _ _ ⟨wr.heap.size + 1, 0, none⟩ 1 (y.b : Int) rfl rfl (by simp) ((HB.out.2.alloc _).alloc _) (by omega) (keyI_size HR.out) (fun v' w' hown hg _ => ?_)
                     rw [← HEX.out] at hown
                     obtain ⟨⟨a8, n8, c8, rfl⟩, q1, q2, q3, q4, q5⟩ := bytesB_put (W := wr.alloc (.cells #[.int .u8 (y.b : Int), .int .u64 (y.out : Int), .int .i64 y.to] 93)) (b := UInt8.ofNat y.b) (L := keyTo s k) (((below_alloc wr _).block _ (Array.getElem?_eq_some_iff.1 HB.out.1).1).trans HB.out.1) (HB.out.2.alloc _) (by have := HR.out.2.2; omega) (below_alloc _ _) hown hg
                     obtain ⟨m1, m2⟩ := key_arc q5 HCL.out
                     have HS5 := Lib.hid (And.intro q3 (And.intro q4 q5))
                     clear hown hg q3 q4 q5)
        refine (key1_any (n := y.out) HS5.out.1 (by have := HR.out.2.2; omega) HYO.out.2.1 (by rw [List.length_append, List.length_singleton]; omega)).mono ?_
        rintro e' w6 ⟨rfl, g1, g2, g3⟩
        have HK6 := Lib.hid (HS5.out.2.2.trans g3)
        obtain ⟨-, m2⟩ := key_arc HK6.out HCL.out
        have HS6 := Lib.hid (And.intro g1 (HS5.out.2.1.trans g2))
        clear g1 g2 g3 m1 q1 q2
        go_wp2_with fail
        refine (key1_any (n := asU y.to) HS6.out.1 (by have := HR.out.2.2; omega) (asU_lt _) (by rw [List.length_append, List.length_append, List.length_singleton, bytes8_len]; omega)).mono ?_
        rintro e' w7 ⟨rfl, g1, g2, g3⟩
        have HS7 : Hid (KeyI w (.slice (some ⟨b, o, none⟩) s.arcs.length cp) (.bool true) (.int .u64 (s.out : Int)) w1.heap.size (keyTo s (k + 1)) w7) := Lib.hid ⟨by
          rw [keyTo_succ s hlt, HY.out]
          have e : keyTo s k ++ arcK y = keyTo s k ++ [UInt8.ofNat y.b] ++ bytes8 y.out ++ bytes8 (asU y.to) := by simp [arcK]
          rw [e]; exact g1, HR.out.2.1.trans ((((below_alloc wr _).mono (keyI_sz HR.out)).trans HS6.out.2).trans g2), HR.out.2.2⟩
        clear g1 g2 g3
        go_wp2_with fail
        exact ⟨⟨k + 1, by omega, by go_num, HS7⟩, by simp [intOf]; omega⟩
      · obtain rfl : k = s.arcs.length := by omega
        obtain ⟨gb, cb, rfl⟩ := own_some HB.out.2 (keyTo_pos s _)
        have kc : wr.cell? ⟨w1.heap.size, 0, none⟩ = some (.slice (some ⟨gb, 0, none⟩) (keyTo s s.arcs.length).length cb) := by rw [cell_of_row wr _ 0 _ _ _ HB.out.1]; rfl
        have hcv := conv_own HB.out.2
        have HBF := Lib.hid (keyI_below HR.out)
        rw [keyTo_all] at hcv kc
        go_wp2
        go_ret
        exact ⟨rfl, HBF.out⟩

end Go.Proofs.Ytmfchlbafpkgaaa
namespace Go.Proofs.Ytmfchlbafpkgaaa
open Go.RowKit Go.Shelf

theorem keyS : Maps.Keyed Try.prog 9 := Maps.string_keyed Try.underlying9
theorem zeroI (w : World) : (zeroValue 3).run Try.prog w = .ok (.int .i64 0) w := by kernel_rfl
theorem key_str (k : List UInt8) (h : k.length ≤ 1000000000) : keyOf Try.prog 9 (.string ⟨k.toArray⟩) = some (.string k) := by
  rw [keyOf_string Try.underlying9]
  unfold mapKey
  rw [Try.underlying9]
  have : (⟨k.toArray⟩ : ByteArray).size ≤ maxLen := by
    show k.toArray.size ≤ maxLen
    unfold maxLen
    simp
    omega
  simp [this]

/-- One key more. -/
def addK (K : List (List UInt8)) (k : List UInt8) : List (List UInt8) := if k ∈ K then K else K ++ [k]
theorem addK_mem {K : List (List UInt8)} {k x : List UInt8} : x ∈ addK K k ↔ x ∈ K ∨ x = k := by
  unfold addK
  split
  · constructor
    · exact .inl
    · rintro (h | rfl)
      · exact h
      · assumption
  · simp

/-- Block m is a map in which just these keys stand, with these numbers. -/
def KMap (w : World) (m N : Nat) (K : List (List UInt8)) (g : List UInt8 → Nat) : Prop :=
  ∃ D : DataW Unit, w.ownsMap Try.prog 9 (plainElem Try.prog 3) m N D ∧ Maps.size D = K.length ∧
    (∀ k, Maps.has D (.string k) = decide (k ∈ K)) ∧ ∀ k ∈ K, D.atKey (.string k) (.lit (.int .i64 0)) = .lit (.int .i64 (g k : Int))

theorem kmap_made (w : World) (g : List UInt8 → Nat) : KMap (w.alloc (.map #[] 0)) w.heap.size 0 [] g := ⟨_, World.ownsMap_made _ _ _ _, rfl, fun _ => rfl, fun x h => by simp at h⟩
theorem KMap.same {w w' : World} {m N : Nat} {K : List (List UInt8)} {g : List UInt8 → Nat} (h : KMap w m N K g) (he : w'.heap[m]? = w.heap[m]?) : KMap w' m N K g := by
  obtain ⟨D, ⟨es, clock, hb, F, hs, hD⟩, h2⟩ := h
  exact ⟨D, ⟨es, clock, he.trans hb, F, hs, hD⟩, h2⟩
theorem KMap.lt {w : World} {m N : Nat} {K : List (List UInt8)} {g : List UInt8 → Nat} (h : KMap w m N K g) : m < w.heap.size := by
  obtain ⟨D, h1, _⟩ := h
  exact h1.lt
set_option maxRecDepth 100000 in
theorem KMap.look {w : World} {m N : Nat} {K : List (List UInt8)} {g : List UInt8 → Nat} (h : KMap w m N K g) (k : List UInt8) (hk : k.length ≤ 1000000000) :
    ∃ c : Int, (Instr.lookup 120 (.map (some m)) (.string ⟨k.toArray⟩) true).run Try.prog w = .ok (.tuple #[.int .i64 c, .bool (decide (k ∈ K))]) w ∧ (k ∈ K → c = (g k : Int)) := by
  obtain ⟨D, h1, -, h3, h4⟩ := h
  obtain ⟨v, ps, hrun, hv⟩ := h1.look_ok keyS Try.underlying120 (zeroI w) (plainElem_int Try.underlying3 (a := (0 : Int)) (by decide)) (key_str k hk)
  obtain ⟨c, rfl, hc, -⟩ := plainElem_int_inv Try.underlying3 hv
  refine ⟨c, by rw [hrun, h3], fun hm => ?_⟩
  have e := congrArg Prod.fst hc
  simp only at e
  have e2 := (h4 k hm).symm.trans e
  injection e2 with e2
  injection e2 with _ e2
  exact e2.symm
theorem KMap.len {w : World} {m N : Nat} {K : List (List UInt8)} {g : List UInt8 → Nat} (h : KMap w m N K g) (ty : TypeId) : (Builtin.len_ #[120] ty #[.map (some m)]).run Try.prog w = .ok (.int .i64 (K.length : Nat)) w := by
  obtain ⟨D, h1, h2, -, -⟩ := h
  rw [← h2]
  exact h1.len Try.underlying120 ty
set_option maxRecDepth 100000 in
theorem KMap.put {w : World} {m N : Nat} {K : List (List UInt8)} {g : List UInt8 → Nat} (h : KMap w m N K g) (hN : N ≤ 1000000) (k : List UInt8) (hk : k.length ≤ 1000000000) (x : Nat) (hx : x ≤ 1000000000) :
    ∃ w', (Instr.mapUpdate 120 (.map (some m)) (.string ⟨k.toArray⟩) (.int .i64 (x : Int))).run Try.prog w = .ok () w' ∧ KMap w' m (N + 1) (addK K k) (fun y => if y = k then x else g y) ∧ w.grownBy w' (some m) := by
  obtain ⟨D, h1, h2, h3, h4⟩ := h
  obtain ⟨w', k1, k2, k3⟩ := h1.update keyS Try.underlying120 (by unfold maxLen; omega) (key_str k hk) (plainElem_int Try.underlying3 (a := (x : Int)) (WalkArith.wf_i64 (by omega)))
  have hkl : WideAt.IsKeyLit (Lit.string k) := trivial
  refine ⟨w', k1, ⟨_, k2, ?_, ?_, ?_⟩, k3⟩
  · rw [Maps.size_put (h1.tidy keyS), h3, h2]
    unfold addK
    by_cases hm : k ∈ K
    · rw [if_pos (by simpa using hm), if_pos hm]
    · rw [if_neg (by simpa using hm), if_neg hm]; simp
  · intro y
    by_cases hy : y = k
    · subst hy
      rw [Maps.has_put_same h1.isMap hkl]
      simp [addK_mem]
    · rw [Maps.has_put_other (by intro e; injection e with e; exact hy e), h3]
      simp [addK_mem, hy]
  · intro y hy
    by_cases hyx : y = k
    · subst hyx
      have := Maps.atKey_put_same h1.isMap hkl (DataW.lit (Lit.int .i64 (x : Int))) (DataW.lit (Lit.int .i64 0))
      simpa using this
    · rw [Maps.atKey_put_other (by intro e; injection e with e; exact hyx e)]
      simp only [if_neg hyx]
      refine h4 y ?_
      rcases addK_mem.1 hy with h | h
      · exact h
      · exact absurd h hyx

section
variable (w : World) {ops : Array Oper} {rest : List Oper} {o : Oper} {a : Act} {Q : Exit → Act → World → Prop}
theorem wpList_put_key (hg : o.guard = none) (mm x v : Operand) (hop : o.op = Op.mapUpdate 120 mm x v) (m N : Nat) (K : List (List UInt8)) (g : List UInt8 → Nat) (k : List UInt8) (n : Nat)
    (hm : a.eval mm = .map (some m)) (hx : a.eval x = .string ⟨k.toArray⟩) (hv : a.eval v = .int .i64 (n : Int)) (h : KMap w m N K g) (hN : N ≤ 1000000) (hk : k.length ≤ 1000000000) (hn : n ≤ 1000000000)
    (hK : ∀ w', KMap w' m (N + 1) (addK K k) (fun y => if y = k then n else g y) → w.grownBy w' (some m) → wpList Try.prog ops Q rest (a.put o.dst undef) w') : wpList Try.prog ops Q (o :: rest) a w := by
  refine wpList_plain hg fun K' hK' => ?_
  obtain ⟨w', hrun, r1, r2⟩ := h.put hN k hk n hn
  unfold Oper.wp
  simp [execOp, hop, hm, hx, hv, hrun, Result.andThen]
  exact hK' _ _ (hK w' r1 r2)
end
end Go.Proofs.Ytmfchlbafpkgaaa
namespace Go.Proofs.Ytmfchlbafpkgaaa
open Go.RowKit Go.Shelf Said

/-- A state's cells: its row of arcs, and the rest. -/
def stC (x : Value × DSt) : List Value := [x.1, .bool x.2.fin, .int .u64 (x.2.out : Int)]
def stsC (l : List (Value × DSt)) : List Value := l.flatMap stC
/-- A row of states of one's own. -/
def SRow (w : World) (base : Nat) (v : Value) (l : List (Value × DSt)) : Prop := w.ownsRow base 91 3 v l.length (stsC l)

theorem iState : (Try.prog.info? 91).map (fun i => (i.zero, i.size, i.bytes)) = some (some (.agg #[.slice none 0 0, .bool false, .int .u64 0]), 3, 40) := by kernel_rfl
theorem stsC_append (A B : List (Value × DSt)) : stsC (A ++ B) = stsC A ++ stsC B := by simp [stsC]

/-- The making's block. -/
def MakB (w : World) (mb : Nat) (lw : ByteArray) (vo vs : Value) (mm : Nat) : Prop := w.heap[mb]? = some (.cells #[.string lw, vo, vs, .map (some mm)] 123 (0, 0))
theorem MakB.at0 {w : World} {mb mm : Nat} {lw : ByteArray} {vo vs : Value} (h : MakB w mb lw vo vs mm) : w.cell? ⟨mb, 0, none⟩ = some (.string lw) := by rw [cell_of_row w mb 0 _ _ _ h]; rfl
theorem MakB.at1 {w : World} {mb mm : Nat} {lw : ByteArray} {vo vs : Value} (h : MakB w mb lw vo vs mm) : w.cell? ⟨mb, 1, none⟩ = some vo := by rw [cell_of_row w mb 1 _ _ _ h]; rfl
theorem MakB.at2 {w : World} {mb mm : Nat} {lw : ByteArray} {vo vs : Value} (h : MakB w mb lw vo vs mm) : w.cell? ⟨mb, 2, none⟩ = some vs := by rw [cell_of_row w mb 2 _ _ _ h]; rfl
theorem MakB.at3 {w : World} {mb mm : Nat} {lw : ByteArray} {vo vs : Value} (h : MakB w mb lw vo vs mm) : w.cell? ⟨mb, 3, none⟩ = some (.map (some mm)) := by rw [cell_of_row w mb 3 _ _ _ h]; rfl
theorem MakB.lt {w : World} {mb mm : Nat} {lw : ByteArray} {vo vs : Value} (h : MakB w mb lw vo vs mm) : mb < w.heap.size := (Array.getElem?_eq_some_iff.1 h).1
theorem MakB.free {w : World} {mb mm : Nat} {lw : ByteArray} {vo vs : Value} (h : MakB w mb lw vo vs mm) (o : Nat) : w.frozen? ⟨mb, o, none⟩ = false := by
  unfold MakB at h
  simp [World.frozen?, h]
theorem MakB.set2 {w : World} {mb mm : Nat} {lw : ByteArray} {vo vs : Value} (h : MakB w mb lw vo vs mm) (v : Value) : MakB (w.setCell ⟨mb, 2, none⟩ v) mb lw vo v mm := cells_setCell h 2 _

theorem key_look {w : World} {m N : Nat} {K : List (List UInt8)} {g : List UInt8 → Nat} {s : DSt} (h : KMap w m N K g) (hk : s.key.length ≤ 1000000000) (hm : s.key ∈ K) :
    (Instr.lookup 120 (.map (some m)) (.string s.keyB) true).run Try.prog w = .ok (.tuple #[.int .i64 (g s.key : Int), .bool true]) w := by
  obtain ⟨c, h1, h2⟩ := h.look s.key hk
  rw [h2 hm, decide_eq_true hm] at h1
  exact h1
theorem key_look_no {w : World} {m N : Nat} {K : List (List UInt8)} {g : List UInt8 → Nat} {s : DSt} (h : KMap w m N K g) (hk : s.key.length ≤ 1000000000) (hm : s.key ∉ K) :
    ∃ c : Int, (Instr.lookup 120 (.map (some m)) (.string s.keyB) true).run Try.prog w = .ok (.tuple #[.int .i64 c, .bool false]) w := by
  obtain ⟨c, h1, -⟩ := h.look s.key hk
  rw [decide_eq_false hm] at h1
  exact ⟨c, h1⟩

set_option maxHeartbeats 2000000 in
set_option maxRecDepth 100000 in
theorem number_known {w : World} {mb mm N : Nat} {lw : ByteArray} {vo vs v : Value} {K : List (List UInt8)} {g : List UInt8 → Nat} {s : DSt} (hm : MakB w mb lw vo vs mm) (hK : KMap w mm N K g) (ha : Arcs w v s.arcs) (ho : s.ok) (hl : s.arcs.length ≤ 100000) (hk : s.key ∈ K) :
    Calls Try.prog 101 #[.pointer (some ⟨mb, 0, none⟩), .agg #[v, .bool s.fin, .int .u64 (s.out : Int)]] w fun e w' => e = .returned (.int .i64 (g s.key : Int)) ∧ Below w.heap.size w w' := by
  have hkl : s.key.length ≤ 1000000000 := by
    rw [← keyTo_all]
    have := keyTo_len s s.arcs.length hl
    omega
  obtain ⟨ad, cp, rfl, hc⟩ := ha
  have hb := below_alloc w (.cells #[.slice ad s.arcs.length cp, .bool s.fin, .int .u64 (s.out : Int)] 91)
  have Q := Lib.hid (key_any (w := w.alloc (.cells #[.slice ad s.arcs.length cp, .bool s.fin, .int .u64 (s.out : Int)] 91)) (v := .slice ad s.arcs.length cp) (s := s) ⟨ad, cp, rfl, fun i hi => by
    obtain ⟨b, o, rfl, hE⟩ := hc i hi
    exact ⟨b, o, rfl, hE.kept (hb.block b hE.lt)⟩⟩ ho hl)
  have HM : Hid (∀ W, Below w.heap.size w W → MakB W mb lw vo vs mm) := Lib.hid fun W h => (h.block mb hm.lt).trans hm
  have HK : Hid (∀ W, Below w.heap.size w W → KMap W mm N K g) := Lib.hid fun W h => hK.same (h.block mm hK.lt)
  have HB := Lib.hid hb
  clear hm hK hc ho hb
  go_enter Try.func101, Try.ntmps101
  go_wp2_with (go_at_call 106; (with_reducible refine Q.out.mono ?_); rintro e' w1 ⟨rfl, h1⟩; have H1 := Lib.hid (HB.out.trans (h1.mono HB.out.size)); have k3 := (HM.out w1 H1.out).at3; have hl9 := key_look (HK.out w1 H1.out) hkl hk; clear h1)
  go_ret
  exact ⟨rfl, H1.out⟩

/-- What a new number leaves. -/
def NumNew (w : World) (mb mm N base : Nat) (lw : ByteArray) (vo vs v : Value) (L : List (Value × DSt)) (K : List (List UInt8)) (g : List UInt8 → Nat) (s : DSt) (e : Ending) (w' : World) : Prop :=
  e = .returned (.int .i64 (L.length : Int)) ∧ (∃ vs', MakB w' mb lw vo vs' mm ∧ SRow w' base vs' (L ++ [(v, s)]) ∧ (vs'.ownBlock = vs.ownBlock ∨ ∀ b, vs'.ownBlock = some b → w.heap.size ≤ b)) ∧ KMap w' mm (N + 1) (K ++ [s.key]) (fun y => if y = s.key then L.length else g y) ∧ Kp (fun b => b = mb ∨ b = mm ∨ vs.ownBlock = some b) w w'

/-- A state more behind the numbered ones, as a step of a region that draws its order. -/
theorem step_append_st {ops : Array Oper} {o : Oper} {a : Act} {w2 w : World} {K : Act → World → Prop} {Q : Exit → Act → World → Prop} {E : Prop}
    (hg : o.guard = none) (s x : Operand) (hop : o.op = Op.call { callee := Callee.builtin Builtin.append, args := #[s, x], argTypes := #[62, 62] }) (ht : o.type = 62)
    (base mb mm : Nat) (lw : ByteArray) (vo : Value) (L : List (Value × DSt)) (v : Value) (S : DSt) (bb : Nat) {vs : Value}
    (hs : a.eval s = vs) (hx : a.eval x = .slice (some ⟨bb, 0, none⟩) 1 1) (hn : w.heap[bb]? = some (.cells #[v, .bool S.fin, .int .u64 (S.out : Int)] 91 (0, 0))) (hb : Below w2.heap.size w2 w)
    (hm : MakB w2 mb lw vo vs mm) (hr : SRow w2 base vs L) (hne : ∀ b, vs.ownBlock = some b → b ≠ mm ∧ b ≠ mb) (hL : L.length ≤ 100000) (hbs : base ≤ w2.heap.size) (hv1 : v.oneCell' = true)
    (hK : ∀ ad n c w3, (SRow w3 base (.slice ad n c) (L ++ [(v, S)]) ∧ Kp (fun b => vs.ownBlock = some b) w2 w3 ∧ MakB w3 mb lw vo vs mm ∧ ((Value.slice ad n c).ownBlock = vs.ownBlock ∨ ∀ b, (Value.slice ad n c).ownBlock = some b → w2.heap.size ≤ b)) → w3.cell? ⟨mb, 2, none⟩ = some vs → w3.frozen? ⟨mb, 2, none⟩ = false → K (a.put o.dst (.slice ad n c)) w3) :
    if Region.wanted o (yielded ops a.tmps) = true then Oper.wp Try.prog o a w K Q else E := by
  obtain ⟨i0, hi, hz0, hz1, hz2⟩ := info_parts iState
  have hr' : SRow w base vs L := owns_same hr fun b hbb => hb.block b (hr.lt b hbb).2
  have hbw : base ≤ w.heap.size := Nat.le_trans hbs hb.size
  obtain ⟨v', w3, h1, h2, h3, _, h5⟩ := run_append_own_at (P := Try.prog) w base 62 62 91 i0 _ 3 40 Try.underlying62 hi hz0 hz1 hz2 rfl (by decide) vs L.length (stsC L) hr' ⟨bb, 0, none⟩ 1 1 (stC (v, S)) rfl
    (by
      intro j u hj
      rw [Addr.add_lit, Nat.zero_add, cell_of_row w bb j _ _ _ hn]
      simpa [stC] using hj) (by
      intro u hu
      simp only [stC, List.mem_cons, List.not_mem_nil, or_false] at hu
      rcases hu with rfl | rfl | rfl
      · exact hv1
      · rfl
      · rfl) (by unfold maxLen; omega) (by omega) hbw
  have hw : Region.wanted o (yielded ops a.tmps) = true := by simp [Region.wanted, hg]
  rw [if_pos hw]
  unfold Oper.wp execOp
  simp only [hop, ht, resolve, invoke, builtin, Sem.run_bind, Sem.run_pure, Result.andThen_ok, List.map_toArray, List.map_cons, List.map_nil, hs, hx, h1]
  obtain ⟨ad, n, c, rfl⟩ : ∃ ad n c, v' = .slice ad n c := by
    rcases h2.2 with ⟨rfl, _⟩ | ⟨g, cap, cur, rfl, _⟩
    · exact ⟨_, _, _, rfl⟩
    · exact ⟨_, _, _, rfl⟩
  have hm3 : MakB w3 mb lw vo vs mm := (h3.block mb ((hb.block mb hm.lt).trans hm |> fun h => (Array.getElem?_eq_some_iff.1 h).1) (fun e => (hne mb e.symm).2 rfl)).trans ((hb.block mb hm.lt).trans hm)
  refine hK ad n c w3 ⟨?_, (Kp.below hb).trans (Kp.grown h3 (fun g e => e)) (fun g h => .inl h), hm3, ?_⟩ hm3.at2 (hm3.free 2)
  · unfold SRow
    rw [List.length_append, List.length_singleton, stsC_append]
    have e : stsC [(v, S)] = stC (v, S) := by simp [stsC]
    rw [e]
    exact h2
  · rcases h5 with e | e
    · exact .inl e
    · refine .inr fun b hb' => ?_
      have := e.symm.trans hb'
      injection this with this
      have := hb.size
      omega

theorem num_end {w w2 w3 : World} {mb mm N base : Nat} {lw : ByteArray} {vo vs v ad : Value} {L : List (Value × DSt)} {K : List (List UInt8)} {g : List UInt8 → Nat} {s : DSt} (hb : Kp (fun b => b = mm) w w2) (hk : KMap w2 mm N K g)
    (h : SRow w3 base ad (L ++ [(v, s)]) ∧ Kp (fun b => vs.ownBlock = some b) w2 w3 ∧ MakB w3 mb lw vo vs mm ∧ (ad.ownBlock = vs.ownBlock ∨ ∀ b, ad.ownBlock = some b → w2.heap.size ≤ b)) (hmm : mm ≠ mb) (hvm : ∀ b, vs.ownBlock = some b → b ≠ mm) :
    (∃ vs', MakB (w3.setCell ⟨mb, 2, none⟩ ad) mb lw vo vs' mm ∧ SRow (w3.setCell ⟨mb, 2, none⟩ ad) base vs' (L ++ [(v, s)]) ∧ (vs'.ownBlock = vs.ownBlock ∨ ∀ b, vs'.ownBlock = some b → w.heap.size ≤ b)) ∧ KMap (w3.setCell ⟨mb, 2, none⟩ ad) mm N K g ∧ Kp (fun b => b = mb ∨ b = mm ∨ vs.ownBlock = some b) w (w3.setCell ⟨mb, 2, none⟩ ad) := by
  obtain ⟨h1, h2, h3, h4⟩ := h
  have hs : Kp (fun b => b = mb) w3 (w3.setCell ⟨mb, 2, none⟩ ad) := Kp.grown (grown_setCell w3 mb 2 ad) (fun b e => (Option.some.inj e).symm)
  refine ⟨⟨ad, h3.set2 ad, owns_same h1 fun b hbb => hs.block b (h1.lt b hbb).2 (fun e => ?_), ?_⟩, ?_, ?_⟩
  · obtain ⟨_, cs, fz, hc⟩ := owns_cells h1 b hbb
    rw [e, h3] at hc
    cases hc
  · rcases h4 with h4 | h4
    · exact .inl h4
    · exact .inr fun b hbb => Nat.le_trans hb.size (h4 b hbb)
  · have e1 : w3.heap[mm]? = w2.heap[mm]? := h2.block mm hk.lt (fun e => hvm mm e rfl)
    refine hk.same ((hs.block mm ?_ hmm).trans e1)
    exact Nat.lt_of_lt_of_le hk.lt h2.size
  · exact ((hb.mono (fun b h => .inl (.inr (.inl h)))).trans h2 (fun b h => .inl (.inr (.inr h)))).trans hs (fun b h => .inl (.inl h))

set_option maxHeartbeats 2000000 in
set_option maxRecDepth 100000 in
theorem number_new {w : World} {mb mm N base : Nat} {lw : ByteArray} {vo vs v : Value} {L : List (Value × DSt)} {K : List (List UInt8)} {g : List UInt8 → Nat} {s : DSt} (hm : MakB w mb lw vo vs mm) (hK : KMap w mm N K g) (hs : SRow w base vs L) (hL : L.length ≤ 100000) (hN : N ≤ 100000) (ha : Arcs w v s.arcs) (ho : s.ok) (hl : s.arcs.length ≤ 100000) (hk : s.key ∉ K) (hbs : base ≤ w.heap.size) :
    Calls Try.prog 101 #[.pointer (some ⟨mb, 0, none⟩), .agg #[v, .bool s.fin, .int .u64 (s.out : Int)]] w (NumNew w mb mm N base lw vo vs v L K g s) := by
  have hkl : s.key.length ≤ 1000000000 := by
    rw [← keyTo_all]
    have := keyTo_len s s.arcs.length hl
    omega
  obtain ⟨ad, cp, rfl, hc⟩ := ha
  have hb := below_alloc w (.cells #[.slice ad s.arcs.length cp, .bool s.fin, .int .u64 (s.out : Int)] 91)
  have Q := Lib.hid (key_any (w := w.alloc (.cells #[.slice ad s.arcs.length cp, .bool s.fin, .int .u64 (s.out : Int)] 91)) (v := .slice ad s.arcs.length cp) (s := s) ⟨ad, cp, rfl, fun i hi => by
    obtain ⟨b, o, rfl, hE⟩ := hc i hi
    exact ⟨b, o, rfl, hE.kept (hb.block b hE.lt)⟩⟩ ho hl)
  have HM : Hid (∀ W, Below w.heap.size w W → MakB W mb lw vo vs mm) := Lib.hid fun W h => (h.block mb hm.lt).trans hm
  have HK : Hid (∀ W, Below w.heap.size w W → KMap W mm N K g) := Lib.hid fun W h => hK.same (h.block mm hK.lt)
  have HS : Hid (∀ W, Below w.heap.size w W → SRow W base vs L) := Lib.hid fun W h => owns_same hs fun b hb => h.block b (hs.lt b hb).2
  have HB := Lib.hid hb
  obtain ⟨ads, cps, rfl⟩ : ∃ ad c, vs = .slice ad L.length c := by
    rcases hs.2 with ⟨rfl, h0⟩ | ⟨g', cap, cur, rfl, _⟩
    · exact ⟨none, 0, by rw [h0]⟩
    · exact ⟨_, _, rfl⟩
  clear hm hK hc ho hb hs
  go_enter Try.func101, Try.ntmps101
  go_wp2_with (first
    | (go_at_call 106; (with_reducible refine Q.out.mono ?_); rintro e' w1 ⟨rfl, h1⟩; have H1 := Lib.hid (HB.out.trans (h1.mono HB.out.size)); have k3 := (HM.out w1 H1.out).at3; have k2 := (HM.out w1 H1.out).at2; obtain ⟨c9, hl9⟩ := key_look_no (HK.out w1 H1.out) hkl hk; have HX1 := Lib.hid ((h1.block w.heap.size (by simp)).trans (heap_alloc_new w _)); clear h1)
    | (refine wpList_put_key _ rfl _ _ _ rfl mm N K g s.key L.length rfl rfl rfl (HK.out w1 H1.out) (by omega) hkl (by omega) (fun w2 hk2 hg2 => ?_)))
  simp only [Act.put]
  have HB2 : Hid (Kp (fun b => b = mm) w w2) := Lib.hid ((Kp.below H1.out).trans (Kp.grown hg2 (fun b e => by cases e; rfl)) (fun b h => .inl h))
  have hmm : mm ≠ mb := fun e => by
    obtain ⟨D, ⟨es, clock, hb, _⟩, _⟩ := HK.out w1 H1.out
    rw [e, HM.out w1 H1.out] at hb
    cases hb
  have hsm : ∀ b, (Value.slice ads L.length cps).ownBlock = some b → b ≠ mm ∧ b ≠ mb := fun b hb => by
    obtain ⟨_, cs, fz, h1⟩ := owns_cells (HS.out w1 H1.out) b hb
    refine ⟨fun e => ?_, fun e => ?_⟩
    · obtain ⟨D, ⟨es, clock, hb, _⟩, _⟩ := HK.out w1 H1.out
      rw [e, hb] at h1
      cases h1
    · rw [e, HM.out w1 H1.out] at h1
      cases h1
  have HM2 : Hid (MakB w2 mb lw vo (.slice ads L.length cps) mm) := Lib.hid ((hg2.block mb (HM.out w1 H1.out).lt (fun e => hmm (Option.some.inj e).symm)).trans (HM.out w1 H1.out))
  have HS2 : Hid (SRow w2 base (.slice ads L.length cps) L) := Lib.hid (owns_same (HS.out w1 H1.out) fun b hb => hg2.block b ((HS.out w1 H1.out).lt b hb).2 (fun e => (hsm b hb).1 (Option.some.inj e)))
  have HX2 : Hid (w2.heap[w.heap.size]? = some (.cells #[.slice ad s.arcs.length cp, .bool s.fin, .int .u64 (s.out : Int)] 91 (0, 0))) := Lib.hid ((hg2.block _ (Array.getElem?_eq_some_iff.1 HX1.out).1 (fun e => by
      obtain ⟨D, ⟨es, clock, hb, _⟩, _⟩ := HK.out w1 H1.out
      rw [← Option.some.inj e, HX1.out] at hb
      cases hb)).trans HX1.out)
  have HK2 := Lib.hid hk2
  have HMM := Lib.hid (And.intro hmm hsm)
  clear hk2 hg2 hmm hsm
  have HBS : Hid (base ≤ w2.heap.size) := Lib.hid (Nat.le_trans hbs HB2.out.size)
  have HADD : Hid (addK K s.key = K ++ [s.key]) := Lib.hid (if_neg hk)
  have kk := HM2.out.at2
  have HL9 := Lib.hid (And.intro HMM.out.2 hL)
  obtain ⟨k0, k1, k2'⟩ : w2.cell? ⟨w.heap.size, 0, none⟩ = some (.slice ad s.arcs.length cp) ∧ w2.cell? ⟨w.heap.size, 1, none⟩ = some (.bool s.fin) ∧ w2.cell? ⟨w.heap.size, 2, none⟩ = some (.int .u64 (s.out : Int)) :=
    ⟨by rw [cell_of_row w2 _ 0 _ _ _ HX2.out]; rfl, by rw [cell_of_row w2 _ 1 _ _ _ HX2.out]; rfl, by rw [cell_of_row w2 _ 2 _ _ _ HX2.out]; rfl⟩
  have hlt2 := HM2.out.lt
  have kk2 : ∀ ob, (w2.alloc ob).cell? ⟨mb, 2, none⟩ = some (.slice ads L.length cps) := fun ob => by
    rw [(below_alloc w2 ob).cell (p := ⟨mb, 2, none⟩) hlt2]; exact kk
  clear k2 k3 hl9 hk
  go_region_law (refine step_append_st (w2 := w2) rfl (.tmp 36) (.tmp 38) rfl rfl base mb mm lw vo L (.slice ad s.arcs.length cp) s _ rfl rfl (by first | exact heap_alloc_new _ _) (by repeat (first | (with_reducible exact Below.refl _ _) | (with_reducible refine Below.drew ?_) | (with_reducible apply below_alloc'))) HM2.out HS2.out HL9.out.1 HL9.out.2 HBS.out rfl ?_; intro a8 n8 c8 w3 hst q1 q2; have HST := Lib.hid hst; clear hst)
  all_goals go_wp2
  all_goals go_ret
  all_goals exact ⟨rfl, num_end HB2.out (by rw [← HADD.out]; exact HK2.out) HST.out HMM.out.1 (fun b hb => (HMM.out.2 b hb).1)⟩
end Go.Proofs.Ytmfchlbafpkgaaa
namespace Go.Proofs.Ytmfchlbafpkgaaa
open Go.RowKit Go.Shelf

theorem stsC_length (l : List (Value × DSt)) : (stsC l).length = l.length * 3 := by
  unfold stsC
  induction l with
  | nil => rfl
  | cons x l ih => rw [List.flatMap_cons, List.length_append, ih]; simp [stC]; omega
theorem stsC_snoc (A : List (Value × DSt)) (x : Value × DSt) : stsC (A ++ [x]) = stsC A ++ stC x := by rw [stsC_append]; simp [stsC]

/-- The last state's cells. -/
theorem SRow.last {w : World} {base : Nat} {v : Value} {A : List (Value × DSt)} {x : Value × DSt} (h : SRow w base v (A ++ [x])) :
    ∃ g c, v = .slice (some ⟨g, 0, none⟩) (A.length + 1) c ∧ A.length + 1 ≤ c ∧ base ≤ g ∧ g < w.heap.size ∧ w.cell? ⟨g, A.length * 3, none⟩ = some x.1 ∧ w.cell? ⟨g, A.length * 3 + 1, none⟩ = some (.bool x.2.fin) ∧ w.cell? ⟨g, A.length * 3 + 2, none⟩ = some (.int .u64 (x.2.out : Int)) ∧ ∀ o, w.frozen? ⟨g, o, none⟩ = false := by
  have hlen : (A ++ [x]).length = A.length + 1 := by simp
  unfold SRow at h
  rw [hlen, stsC_snoc] at h
  rcases id h.2 with ⟨_, h0⟩ | ⟨g, cap, cur, rfl, hb, hg, hn, _⟩
  · omega
  · have hc : ∀ j, j < 3 → w.cell? ⟨g, A.length * 3 + j, none⟩ = (stC x)[j]? := fun j hj => by
      rw [World.ownsRow.cellAt h _ (by omega), List.getElem?_append_right (by rw [stsC_length]; omega), stsC_length]
      congr 1
      omega
    exact ⟨g, cap, rfl, hn, hb, (Array.getElem?_eq_some_iff.1 hg).1, hc 0 (by omega), hc 1 (by omega), hc 2 (by omega), fun o => World.ownsRow.frozenAt h o⟩

/-- Without the last one. -/
theorem SRow.pop {w : World} {base g c : Nat} {A : List (Value × DSt)} {x : Value × DSt} (h : SRow w base (.slice (some ⟨g, 0, none⟩) (A.length + 1) c) (A ++ [x])) : SRow w base (.slice (some ⟨g, 0, none⟩) A.length c) A := by
  have hlen : (A ++ [x]).length = A.length + 1 := by simp
  unfold SRow at h ⊢
  rw [hlen, stsC_snoc] at h
  rcases h.2 with ⟨h', _⟩ | ⟨g', cap, cur, h', hb, hg, hn, hm, hs, ht⟩
  · cases h'
  · cases h'
    refine ⟨stsC_length A, .inr ⟨g, c, cur, rfl, hb, hg, by omega, hm, hs, ?_⟩⟩
    have e : (stsC A ++ stC x).take (A.length * 3) = stsC A := by
      rw [List.take_append_of_le_length (by rw [stsC_length]; omega), List.take_of_length_le (by rw [stsC_length]; omega)]
    rw [← e, ← ht, List.take_take]
    congr 1
    omega

/-- The last one's cell is another one. -/
theorem SRow.setLast {w : World} {base g c : Nat} {A : List (Value × DSt)} {x y : Value × DSt} {j : Nat} {u : Value} (h : SRow w base (.slice (some ⟨g, 0, none⟩) (A.length + 1) c) (A ++ [x])) (hj : j < 3) (hy : (stC x).set j u = stC y) :
    SRow (w.setCell ⟨g, A.length * 3 + j, none⟩ u) base (.slice (some ⟨g, 0, none⟩) (A.length + 1) c) (A ++ [y]) ∧ w.grownBy (w.setCell ⟨g, A.length * 3 + j, none⟩ u) (some g) := by
  have hlen : ∀ z, (A ++ [z]).length = A.length + 1 := fun z => by simp
  unfold SRow at h ⊢
  rw [hlen, stsC_snoc] at h
  have hst := World.ownsRow.stored h (A.length * 3 + j) u
  refine ⟨?_, hst.2⟩
  rw [hlen, stsC_snoc, ← hy]
  have e : (stsC A ++ stC x).set (A.length * 3 + j) u = stsC A ++ (stC x).set j u := by
    rw [List.set_append_right _ _ (by rw [stsC_length]; omega), stsC_length]
    congr 2
    omega
  rw [← e]
  exact hst.1

theorem arcsC_snoc (A : List DArc) (x : DArc) : arcsC (A ++ [x]) = arcsC A ++ arcC x := by rw [arcsC_append]; simp [arcsC]
/-- The last arc's cell is another one. -/
theorem ARow.setLast {w : World} {base g c : Nat} {A : List DArc} {x y : DArc} {j : Nat} {u : Value} (h : ARow w base (.slice (some ⟨g, 0, none⟩) (A.length + 1) c) (A ++ [x])) (hj : j < 3) (hy : (arcC x).set j u = arcC y) :
    ARow (w.setCell ⟨g, A.length * 3 + j, none⟩ u) base (.slice (some ⟨g, 0, none⟩) (A.length + 1) c) (A ++ [y]) ∧ w.grownBy (w.setCell ⟨g, A.length * 3 + j, none⟩ u) (some g) := by
  have hlen : ∀ z, (A ++ [z]).length = A.length + 1 := fun z => by simp
  unfold ARow at h ⊢
  rw [hlen, arcsC_snoc] at h
  have hst := World.ownsRow.stored h (A.length * 3 + j) u
  refine ⟨?_, hst.2⟩
  rw [hlen, arcsC_snoc, ← hy]
  have e : (arcsC A ++ arcC x).set (A.length * 3 + j) u = arcsC A ++ (arcC x).set j u := by
    rw [List.set_append_right _ _ (by rw [arcsC_length]; omega), arcsC_length]
    congr 2
    omega
  rw [← e]
  exact hst.1

end Go.Proofs.Ytmfchlbafpkgaaa
namespace Go.Proofs.Ytmfchlbafpkgaaa
open Go.RowKit Go.Shelf

set_option maxHeartbeats 1000000 in
set_option maxRecDepth 100000 in
theorem top_any {w : World} {mb mm g n c : Nat} {lw : ByteArray} {vs : Value} (hm : MakB w mb lw (.slice (some ⟨g, 0, none⟩) (n + 1) c) vs mm) (hn : n ≤ 100000) :
    Calls Try.prog 98 #[.pointer (some ⟨mb, 0, none⟩)] w fun e w' => e = .returned (.pointer (some ⟨g, n * 3, none⟩)) ∧ Below w.heap.size w w' := by
  have k1 := hm.at1
  clear hm
  have e1 : IntKind.i64.wrap (((n + 1 : Nat) : Int) - 1) = (n : Int) := by rw [IntWalk.i64_in _ (by omega)]; omega
  have e2 : (n : Int) < ((n + 1 : Nat) : Int) := by omega
  have e3 : (0 : Int) ≤ (n : Int) := by omega
  go_enter Try.func98, Try.ntmps98
  go_wp2
  go_quiet (fail)
  have HB : Hid (Below w.heap.size w (w.drewN nq)) := Lib.hid (below_drewN (Below.refl _ w) nq)
  generalize w.drewN nq = w2 at HB ⊢
  go_wp2
  go_ret
  exact ⟨rfl, HB.out⟩

set_option maxHeartbeats 1000000 in
set_option maxRecDepth 100000 in
theorem value_ent (x : Ent) (w : World) (hw : x.weight < 4294967296) :
    Calls Try.prog 99 #[.agg #[.string x.word, .int .u32 (x.weight : Int), .bool x.gone]] w fun e w' => e = .returned (.int .u64 (valT x : Int)) ∧ Below w.heap.size w w' := by
  have e1 : IntKind.u64.wrap (x.weight : Int) = (x.weight : Int) := IntWalk.u64_in _ (by omega)
  have e2 : IntKind.u64.wrap ((x.weight : Int) + 1) = ((x.weight + 1 : Nat) : Int) := by rw [IntWalk.u64_in _ (by omega)]; omega
  have HB := Lib.hid (below_alloc w (.cells #[.string x.word, .int .u32 (x.weight : Int), .bool x.gone] 33))
  cases hg : x.gone
  · rw [hg] at HB
    go_enter Try.func99, Try.ntmps99
    go_wp2
    go_ret
    exact ⟨by simp [valT, hg], HB.out⟩
  · rw [hg] at HB
    go_enter Try.func99, Try.ntmps99
    go_wp2
    go_ret
    exact ⟨by simp [valT, hg], HB.out⟩

set_option maxHeartbeats 2000000 in
set_option maxRecDepth 100000 in
theorem shared_any (a b : ByteArray) (w : World) (ha : a.size ≤ 1000000) (hb : b.size ≤ 1000000) :
    Calls Try.prog 96 #[.string a, .string b] w fun e w' => e = .returned (.int .i64 (sharedT a b : Int)) ∧ Below w.heap.size w w' := by
  go_enter Try.func96, Try.ntmps96
  go_wp2
  go_loopw [5] (fun s5 wr => ∃ k : Nat, k ≤ a.size ∧ k ≤ b.size ∧ s5 = .int .i64 k ∧ Hid (k ≤ sharedT a b ∧ Below w.heap.size w wr)) (fun s5 _ => a.size - (intOf s5).toNat)
  case atStart => exact ⟨0, Nat.zero_le _, Nat.zero_le _, rfl, Lib.hid ⟨Nat.zero_le _, Below.refl _ _⟩⟩
  case round =>
    obtain ⟨k, hk, hk2, rfl, HR⟩ := hrel
    by_cases h1 : k < a.size
    · by_cases h2 : k < b.size
      · have e0 : decide ((k : Int) < (a.size : Int)) = true := by simp; omega
        have e1 : decide ((k : Int) < (b.size : Int)) = true := by simp; omega
        have i1 : (k : Int) < (a.size : Int) := by omega
        have i2 : (k : Int) < (b.size : Int) := by omega
        by_cases he : a[k] = b[k]
        · have HS := Lib.hid (sharedT_step h1 h2 HR.out.1 he)
          have he1 : (((a[k]).toNat : Int) == ((b[k]).toNat : Int)) = true := by rw [he]; simp
          clear he
          go_wp2
          go_quiet (fail)
          have HB := Lib.hid (below_drewN HR.out.2 nq)
          generalize wr.drewN nq = w2 at HB ⊢
          go_wp2
          exact ⟨⟨k + 1, by omega, by omega, by go_num, Lib.hid ⟨HS.out, HB.out⟩⟩, by simp [intOf]; omega⟩
        · have HS := Lib.hid (sharedT_stop h1 h2 HR.out.1 he)
          have he1 := byte_nbeq he
          clear he
          go_wp2
          go_quiet (fail)
          have HB := Lib.hid (below_drewN HR.out.2 nq)
          generalize wr.drewN nq = w2 at HB ⊢
          go_wp2
          go_ret
          exact ⟨by rw [← HS.out]; rfl, HB.out⟩
      · have e0 : decide ((k : Int) < (a.size : Int)) = true := by simp; omega
        have e1 : decide ((k : Int) < (b.size : Int)) = false := by simp; omega
        have HS := Lib.hid (sharedT_end (a := a) (b := b) (k := k) (by omega) HR.out.1)
        go_wp2
        go_quiet (fail)
        have HB := Lib.hid (below_drewN HR.out.2 nq)
        generalize wr.drewN nq = w2 at HB ⊢
        go_wp2
        go_ret
        exact ⟨by rw [← HS.out]; rfl, HB.out⟩
    · have e0 : decide ((k : Int) < (a.size : Int)) = false := by simp; omega
      have HS := Lib.hid (sharedT_end (a := a) (b := b) (k := k) (by omega) HR.out.1)
      go_wp2
      go_quiet (fail)
      have HB := Lib.hid (below_drewN HR.out.2 nq)
      generalize wr.drewN nq = w2 at HB ⊢
      go_wp2
      go_ret
      exact ⟨by rw [← HS.out]; rfl, HB.out⟩

end Go.Proofs.Ytmfchlbafpkgaaa
namespace Go.Proofs.Ytmfchlbafpkgaaa
open Go.RowKit Go.Shelf

/-- The open states xo, the numbered ones xs, each with its value of arcs: all of it in blocks from base on, each arc row apart from all others. -/
structure Mk (w : World) (base mb : Nat) (lw : ByteArray) (xo xs : List (Value × DSt)) (vo vs : Value) (mm : Nat) (g : List UInt8 → Nat) : Prop where
  blk : MakB w mb lw vo vs mm
  opn : SRow w base vo xo
  sts : SRow w base vs xs
  keys : KMap w mm xs.length (xs.map fun x => x.2.key) g
  nums : ∀ i (h : i < xs.length), g (xs[i].2.key) = i
  nodup : (xs.map fun x => x.2.key).Nodup
  arcs : ∀ x ∈ xo ++ xs, ARow w base x.1 x.2.arcs
  apart : (xo ++ xs).Pairwise fun x y => ∀ b, x.1.ownBlock = some b → y.1.ownBlock ≠ some b
  rows : ∀ b, vo.ownBlock = some b → vs.ownBlock ≠ some b
  low : base ≤ mb ∧ base ≤ mm ∧ base ≤ w.heap.size
  ok : ∀ x ∈ xo ++ xs, x.2.ok ∧ x.2.arcs.length ≤ 300

/-- The same behind what only makes memory. -/
theorem Mk.below {w w' : World} {base mb mm : Nat} {lw : ByteArray} {xo xs : List (Value × DSt)} {vo vs : Value} {g : List UInt8 → Nat} (h : Mk w base mb lw xo xs vo vs mm g) (hb : Below w.heap.size w w') : Mk w' base mb lw xo xs vo vs mm g :=
  ⟨(hb.block mb h.blk.lt).trans h.blk, owns_same h.opn fun b hbb => hb.block b (h.opn.lt b hbb).2, owns_same h.sts fun b hbb => hb.block b (h.sts.lt b hbb).2,
   h.keys.same (hb.block mm h.keys.lt), h.nums, h.nodup, fun x hx => owns_same (h.arcs x hx) fun b hbb => hb.block b ((h.arcs x hx).lt b hbb).2, h.apart, h.rows, ⟨h.low.1, h.low.2.1, Nat.le_trans h.low.2.2 hb.size⟩, h.ok⟩

/-- Blocks of four types: none of one is one of another. -/
theorem Mk.types {w : World} {base mb mm : Nat} {lw : ByteArray} {xo xs : List (Value × DSt)} {vo vs : Value} {g : List UInt8 → Nat} (h : Mk w base mb lw xo xs vo vs mm g) :
    (∀ b, vo.ownBlock = some b → b ≠ mb ∧ b ≠ mm) ∧ (∀ b, vs.ownBlock = some b → b ≠ mb ∧ b ≠ mm) ∧ (∀ x ∈ xo ++ xs, ∀ b, x.1.ownBlock = some b → b ≠ mb ∧ b ≠ mm ∧ vo.ownBlock ≠ some b ∧ vs.ownBlock ≠ some b) ∧ mm ≠ mb := by
  obtain ⟨D, ⟨es, clock, hmm, _⟩, _⟩ := id h.keys
  have hmb := h.blk
  unfold MakB at hmb
  have row : ∀ v l, SRow w base v l → ∀ b, v.ownBlock = some b → b ≠ mb ∧ b ≠ mm := fun v l hr b hb => by
    obtain ⟨_, cs, fz, hc⟩ := owns_cells hr b hb
    refine ⟨fun e => ?_, fun e => ?_⟩
    · rw [e, hmb] at hc; cases hc
    · rw [e, hmm] at hc; cases hc
  refine ⟨row vo xo h.opn, row vs xs h.sts, fun x hx b hb => ?_, fun e => ?_⟩
  · obtain ⟨_, cs, fz, hc⟩ := owns_cells (h.arcs x hx) b hb
    refine ⟨fun e => ?_, fun e => ?_, fun e => ?_, fun e => ?_⟩
    · rw [e, hmb] at hc; cases hc
    · rw [e, hmm] at hc; cases hc
    · obtain ⟨_, cs', fz', hc'⟩ := owns_cells h.opn b e
      rw [hc'] at hc; cases hc
    · obtain ⟨_, cs', fz', hc'⟩ := owns_cells h.sts b e
      rw [hc'] at hc; cases hc
  · rw [e, hmb] at hmm; cases hmm

/-- Rows of bytes, and boxes of entries: none of the making's blocks. -/
def Tq (o : Obj) : Prop := ∃ cs e fz, o = .cells cs e fz ∧ (e = 5 ∨ e = 33 ∨ e = 65)
/-- These stay as they are. -/
def KeepT (w w' : World) : Prop := ∀ (b : Nat) (o : Obj), w.heap[b]? = some o → Tq o → w'.heap[b]? = some o
theorem KeepT.trans {a b c : World} (h : KeepT a b) (k : KeepT b c) : KeepT a c := fun p o ho ht => k p o (h p o ho ht) ht
theorem KeepT.refl (w : World) : KeepT w w := fun _ _ h _ => h
theorem KeepT.below {w w' : World} (h : Below w.heap.size w w') : KeepT w w' := fun b o ho _ => (h.block b (Array.getElem?_eq_some_iff.1 ho).1).trans ho
theorem KeepT.kp {w w' : World} {M : Nat → Prop} (h : Kp M w w') (hM : ∀ b, M b → ∀ o, w.heap[b]? = some o → ¬ Tq o) : KeepT w w' := fun b o ho ht => (h.block b (Array.getElem?_eq_some_iff.1 ho).1 fun e => hM b e o ho ht).trans ho
theorem tq_row {w : World} {base size n : Nat} {e : TypeId} {v : Value} {xs : List Value} (h : w.ownsRow base e size v n xs) (h1 : e ≠ 5 ∧ e ≠ 33 ∧ e ≠ 65) {b : Nat} (hb : v.ownBlock = some b) {o : Obj} (ho : w.heap[b]? = some o) : ¬ Tq o := by
  rintro ⟨cs, e', fz, rfl, he⟩
  obtain ⟨_, cs', fz', hc⟩ := owns_cells h b hb
  rw [hc] at ho
  cases ho
  rcases he with he | he | he
  · exact h1.1 he
  · exact h1.2.1 he
  · exact h1.2.2 he
theorem tq_mak {w : World} {mb mm : Nat} {lw : ByteArray} {vo vs : Value} (h : MakB w mb lw vo vs mm) {o : Obj} (ho : w.heap[mb]? = some o) : ¬ Tq o := by
  rintro ⟨cs, e', fz, rfl, he⟩
  unfold MakB at h
  rw [h] at ho
  cases ho
  rcases he with he | he | he <;> exact absurd he (by decide)
theorem tq_map {w : World} {m N : Nat} {K : List (List UInt8)} {g : List UInt8 → Nat} (h : KMap w m N K g) {o : Obj} (ho : w.heap[m]? = some o) : ¬ Tq o := by
  rintro ⟨cs, e', fz, rfl, he⟩
  obtain ⟨D, ⟨es, clock, hb, _⟩, _⟩ := h
  rw [hb] at ho
  cases ho

end Go.Proofs.Ytmfchlbafpkgaaa
namespace Go.Proofs.Ytmfchlbafpkgaaa
open Go.RowKit Go.Shelf

/-- The number of a state among these, and these with it. -/
def numT (S : List DSt) (s : DSt) : Nat := (keyAt s S).getD S.length
def numsT (S : List DSt) (s : DSt) : List DSt := if (keyAt s S).isSome then S else S ++ [s]

theorem keyAt_mem {S : List DSt} {s : DSt} (h : s.key ∈ S.map DSt.key) : ∃ i, ∃ hi : i < S.length, keyAt s S = some i ∧ S[i].key = s.key := by
  cases hk : keyAt s S with
  | none =>
    unfold keyAt at hk
    rw [List.findIdx?_eq_none_iff] at hk
    obtain ⟨x, hx, e⟩ := List.mem_map.1 h
    have := hk x hx
    rw [e] at this
    simp at this
  | some i =>
    unfold keyAt at hk
    rw [List.findIdx?_eq_some_iff_getElem] at hk
    obtain ⟨hi, h1, _⟩ := hk
    exact ⟨i, hi, rfl, by simpa using h1⟩
theorem keyAt_not {S : List DSt} {s : DSt} (h : s.key ∉ S.map DSt.key) : keyAt s S = none := by
  unfold keyAt
  rw [List.findIdx?_eq_none_iff]
  intro x hx
  cases hb : (x.key == s.key) with
  | false => rfl
  | true => exact absurd (List.mem_map.2 ⟨x, hx, by simpa using hb⟩) h

/-- What is left when a state was numbered. -/
def Numd (w : World) (base mb : Nat) (lw : ByteArray) (xo xs : List (Value × DSt)) (vo vs v : Value) (mm : Nat) (s : DSt) (e : Ending) (w' : World) : Prop :=
  e = .returned (.int .i64 (numT (xs.map (·.2)) s : Int)) ∧ ∃ xs' vs' g', Mk w' base mb lw xo xs' vo vs' mm g' ∧ xs'.map (·.2) = numsT (xs.map (·.2)) s ∧ Below base w w' ∧ KeepT w w'

theorem Mk.number {w : World} {base mb mm : Nat} {lw : ByteArray} {xo xs : List (Value × DSt)} {vo vs v : Value} {g : List UInt8 → Nat} {s : DSt} (h : Mk w base mb lw xo xs vo vs mm g) (hv : ARow w base v s.arcs) (ho : s.ok) (hl : s.arcs.length ≤ 300) (hx : ∀ x ∈ xo ++ xs, ∀ b, x.1.ownBlock = some b → v.ownBlock ≠ some b) (hn : xs.length ≤ 100000) :
    Calls Try.prog 101 #[.pointer (some ⟨mb, 0, none⟩), .agg #[v, .bool s.fin, .int .u64 (s.out : Int)]] w (Numd w base mb lw xo xs vo vs v mm s) := by
  have hm2 : xs.map (fun x => x.2.key) = (xs.map (·.2)).map DSt.key := by rw [List.map_map]; rfl
  by_cases hk : s.key ∈ xs.map fun x => x.2.key
  · refine (number_known h.blk h.keys hv.arcs ho (by omega) hk).mono ?_
    rintro e w' ⟨rfl, hb⟩
    rw [hm2] at hk
    obtain ⟨i, hi, e1, e2⟩ := keyAt_mem hk
    have hi' : i < xs.length := by simpa using hi
    have hg : g s.key = i := by
      have := h.nums i hi'
      rw [show (xs[i].2).key = s.key by simpa using e2] at this
      exact this
    refine ⟨by unfold numT; rw [e1, hg]; rfl, xs, vs, g, h.below hb, by unfold numsT; rw [e1]; rfl, hb.mono h.low.2.2, KeepT.below hb⟩
  · refine (number_new h.blk h.keys h.sts hn hn hv.arcs ho (by omega) hk h.low.2.2).mono ?_
    rintro e w' ⟨rfl, ⟨vs', h1, h2, h3⟩, h4, h5⟩
    obtain ⟨t1, t2, t3, t4⟩ := h.types
    have kpt : ∀ b, b < w.heap.size → b ≠ mb → b ≠ mm → vs.ownBlock ≠ some b → w'.heap[b]? = w.heap[b]? := fun b hb n1 n2 n3 => h5.block b hb (fun e => e.elim n1 fun e => e.elim n2 n3)
    have hvl : ∀ b, vs.ownBlock = some b → base ≤ b := fun b hb => (h.sts.lt b hb).1
    have hkey := hk
    rw [hm2] at hkey
    have hno := keyAt_not hkey
    have hvt : ∀ b, v.ownBlock = some b → b ≠ mb ∧ b ≠ mm ∧ vs.ownBlock ≠ some b := fun b hb => by
      obtain ⟨_, cs, fz, hc⟩ := owns_cells hv b hb
      obtain ⟨D, ⟨es, clock, hmm, _⟩, _⟩ := id h.keys
      have hmb := h.blk
      unfold MakB at hmb
      refine ⟨fun e => ?_, fun e => ?_, fun e => ?_⟩
      · rw [e, hmb] at hc; cases hc
      · rw [e, hmm] at hc; cases hc
      · obtain ⟨_, cs', fz', hc'⟩ := owns_cells h.sts b e
        rw [hc'] at hc; cases hc
    have hv' : ARow w' base v s.arcs := owns_same hv fun b hb => kpt b (hv.lt b hb).2 (hvt b hb).1 (hvt b hb).2.1 (hvt b hb).2.2
    have harc : ∀ x ∈ xo ++ (xs ++ [(v, s)]), ARow w' base x.1 x.2.arcs := fun x hx9 => by
      rw [← List.append_assoc] at hx9
      rcases List.mem_append.1 hx9 with hm | hm
      · exact owns_same (h.arcs x hm) fun b hb => kpt b ((h.arcs x hm).lt b hb).2 (t3 x hm b hb).1 (t3 x hm b hb).2.1 (t3 x hm b hb).2.2.2
      · rw [List.mem_singleton.1 hm]; exact hv'
    refine ⟨by unfold numT; rw [hno]; simp, xs ++ [(v, s)], vs', (fun y => if y = s.key then xs.length else g y), ⟨h1, owns_same h.opn fun b hb => kpt b (h.opn.lt b hb).2 (t1 b hb).1 (t1 b hb).2 (h.rows b hb), h2, ?_, ?_, ?_, harc, ?_, ?_, ⟨h.low.1, h.low.2.1, Nat.le_trans h.low.2.2 h5.size⟩, ?_⟩, ?_, ?_⟩
    · rw [List.length_append, List.length_singleton, List.map_append]
      exact h4
    · intro i hi
      by_cases hix : i < xs.length
      · have hne : xs[i].2.key ≠ s.key := fun e => hk (List.mem_map.2 ⟨xs[i], List.getElem_mem hix, e⟩)
        rw [List.getElem_append_left hix]
        simp only [if_neg hne]
        exact h.nums i hix
      · have hie : i = xs.length := by simp at hi; omega
        subst hie
        simp
    · rw [List.map_append, List.nodup_append]
      refine ⟨h.nodup, by simp, ?_⟩
      intro a ha b hb e
      simp only [List.map_cons, List.map_nil, List.mem_singleton] at hb
      subst hb
      subst e
      exact hk ha
    · rw [← List.append_assoc, List.pairwise_append]
      refine ⟨h.apart, by simp, fun x hx9 y hy b hb => ?_⟩
      rw [List.mem_singleton.1 hy]
      exact hx x hx9 b hb
    · intro b hb e
      rcases h3 with h3 | h3
      · exact h.rows b hb (h3 ▸ e)
      · have := h3 b e
        have := (h.opn.lt b hb).2
        omega
    · intro x hx9
      rw [← List.append_assoc] at hx9
      rcases List.mem_append.1 hx9 with hm | hm
      · exact h.ok x hm
      · rw [List.mem_singleton.1 hm]; exact ⟨ho, hl⟩
    · unfold numsT; rw [hno]; simp
    · refine ⟨h5.to h.low.2.2 fun b hb => ?_, KeepT.kp h5 fun b hb o ho => ?_⟩
      · rcases hb with e | e | e
        · rw [e]; exact h.low.1
        · rw [e]; exact h.low.2.1
        · exact hvl b e
      · rcases hb with e | e | e
        · rw [e] at ho; exact tq_mak h.blk ho
        · rw [e] at ho; exact tq_map h.keys ho
        · exact tq_row h.sts (by decide) e ho

end Go.Proofs.Ytmfchlbafpkgaaa
namespace Go.Proofs.Ytmfchlbafpkgaaa
open Go.RowKit Go.Shelf

/-- None of the making's blocks. -/
def NotIn (p : Nat) (mb mm : Nat) (vo vs : Value) (l : List (Value × DSt)) : Prop := p ≠ mb ∧ p ≠ mm ∧ vo.ownBlock ≠ some p ∧ vs.ownBlock ≠ some p ∧ ∀ y ∈ l, y.1.ownBlock ≠ some p

theorem Mk.fresh {w : World} {base mb mm p : Nat} {lw : ByteArray} {xo xs : List (Value × DSt)} {vo vs : Value} {g : List UInt8 → Nat} (h : Mk w base mb lw xo xs vo vs mm g) (hp : w.heap.size ≤ p) : NotIn p mb mm vo vs (xo ++ xs) := by
  refine ⟨?_, ?_, ?_, ?_, ?_⟩
  · have := h.blk.lt; omega
  · have := h.keys.lt; omega
  · intro e; have := (h.opn.lt p e).2; omega
  · intro e; have := (h.sts.lt p e).2; omega
  · intro y hy e; have := ((h.arcs y hy).lt p e).2; omega

/-- The same where only other blocks have turned. -/
theorem Mk.kp {w w' : World} {base mb mm : Nat} {lw : ByteArray} {xo xs : List (Value × DSt)} {vo vs : Value} {g : List UInt8 → Nat} {M : Nat → Prop} (h : Mk w base mb lw xo xs vo vs mm g) (hk : Kp M w w') (hm : ∀ b, M b → NotIn b mb mm vo vs (xo ++ xs)) : Mk w' base mb lw xo xs vo vs mm g := by
  refine ⟨(hk.block mb h.blk.lt fun e => (hm mb e).1 rfl).trans h.blk, owns_same h.opn fun b hb => hk.block b (h.opn.lt b hb).2 fun e => (hm b e).2.2.1 hb, owns_same h.sts fun b hb => hk.block b (h.sts.lt b hb).2 fun e => (hm b e).2.2.2.1 hb,
    h.keys.same (hk.block mm h.keys.lt fun e => (hm mm e).2.1 rfl), h.nums, h.nodup, fun x hx => owns_same (h.arcs x hx) fun b hb => hk.block b ((h.arcs x hx).lt b hb).2 fun e => (hm b e).2.2.2.2 x hx hb, h.apart, h.rows, ⟨h.low.1, h.low.2.1, Nat.le_trans h.low.2.2 hk.size⟩, h.ok⟩

/-- A row of arcs apart from those of the making is none of its blocks. -/
theorem Mk.notin {w : World} {base mb mm : Nat} {lw : ByteArray} {xo xs : List (Value × DSt)} {vo vs v : Value} {g : List UInt8 → Nat} {l : List DArc} (h : Mk w base mb lw xo xs vo vs mm g) (hv : ARow w base v l) (ha : ∀ y ∈ xo ++ xs, ∀ b, y.1.ownBlock = some b → v.ownBlock ≠ some b) {b : Nat} (hb : v.ownBlock = some b) : NotIn b mb mm vo vs (xo ++ xs) := by
  obtain ⟨_, cs, fz, hc⟩ := owns_cells hv b hb
  obtain ⟨D, ⟨es, clock, hmm, _⟩, _⟩ := id h.keys
  have hmb := h.blk
  unfold MakB at hmb
  refine ⟨fun e => ?_, fun e => ?_, fun e => ?_, fun e => ?_, fun y hy e => ha y hy b e hb⟩
  · rw [e, hmb] at hc; cases hc
  · rw [e, hmm] at hc; cases hc
  · obtain ⟨_, cs', fz', hc'⟩ := owns_cells h.opn b e
    rw [hc'] at hc; cases hc
  · obtain ⟨_, cs', fz', hc'⟩ := owns_cells h.sts b e
    rw [hc'] at hc; cases hc

/-- The last arc of the deepest open state turned in one cell. -/
theorem Mk.setArc {w : World} {base mb mm ga ct j : Nat} {lw : ByteArray} {A xs : List (Value × DSt)} {sf : Bool} {so : Nat} {B : List DArc} {a y : DArc} {u vo vs : Value} {g : List UInt8 → Nat}
    (h : Mk w base mb lw (A ++ [(.slice (some ⟨ga, 0, none⟩) (B.length + 1) ct, ⟨B ++ [a], sf, so⟩)]) xs vo vs mm g) (hj : j < 3) (hy : (arcC a).set j u = arcC y) (hyo : y.ok) :
    Mk (w.setCell ⟨ga, B.length * 3 + j, none⟩ u) base mb lw (A ++ [(.slice (some ⟨ga, 0, none⟩) (B.length + 1) ct, ⟨B ++ [y], sf, so⟩)]) xs vo vs mm g ∧ w.grownBy (w.setCell ⟨ga, B.length * 3 + j, none⟩ u) (some ga) ∧ base ≤ ga ∧ ga < w.heap.size ∧ w.frozen? ⟨ga, B.length * 3 + j, none⟩ = false ∧ w.cell? ⟨ga, B.length * 3 + j, none⟩ = (arcC a)[j]? ∧ KeepT w (w.setCell ⟨ga, B.length * 3 + j, none⟩ u) := by
  have hmem : ((.slice (some ⟨ga, 0, none⟩) (B.length + 1) ct, ⟨B ++ [a], sf, so⟩) : Value × DSt) ∈ (A ++ [(.slice (some ⟨ga, 0, none⟩) (B.length + 1) ct, ⟨B ++ [a], sf, so⟩)]) ++ xs := by simp
  have harc : ARow w base (.slice (some ⟨ga, 0, none⟩) (B.length + 1) ct) (B ++ [a]) := h.arcs _ hmem
  have hlt := harc.lt ga rfl
  have hfz : w.frozen? ⟨ga, B.length * 3 + j, none⟩ = false := by
    have h9 := harc
    unfold ARow at h9
    rw [show (B ++ [a]).length = B.length + 1 by simp] at h9
    exact World.ownsRow.frozenAt h9 _
  have hcl : w.cell? ⟨ga, B.length * 3 + j, none⟩ = (arcC a)[j]? := by
    have h9 := harc
    unfold ARow at h9
    rw [show (B ++ [a]).length = B.length + 1 by simp, arcsC_snoc] at h9
    rw [World.ownsRow.cellAt h9 _ (by omega), List.getElem?_append_right (by rw [arcsC_length]; omega), arcsC_length]
    congr 1
    omega
  obtain ⟨s1, s2⟩ := harc.setLast (u := u) hj hy
  obtain ⟨t1, t2, t3, t4⟩ := h.types
  have t5 := t3 _ hmem ga rfl
  have keep : ∀ b, b < w.heap.size → b ≠ ga → (w.setCell ⟨ga, B.length * 3 + j, none⟩ u).heap[b]? = w.heap[b]? := fun b hb hn => s2.block b hb (fun e => hn (Option.some.inj e))
  have hfst : ∀ z : DSt, ((A ++ [((.slice (some ⟨ga, 0, none⟩) (B.length + 1) ct, z) : Value × DSt)]) ++ xs).map Prod.fst = A.map Prod.fst ++ [.slice (some ⟨ga, 0, none⟩) (B.length + 1) ct] ++ xs.map Prod.fst := fun z => by simp
  have oth : ∀ x ∈ A ++ xs, ∀ b, x.1.ownBlock = some b → b ≠ ga := by
    intro x hx b hb e
    subst e
    have hp := h.apart
    rw [List.append_assoc, List.pairwise_append] at hp
    obtain ⟨_, hp2, hp3⟩ := hp
    rcases List.mem_append.1 hx with hx | hx
    · exact hp3 x hx _ (List.mem_append_left _ (List.mem_singleton.2 rfl)) b hb rfl
    · rw [List.singleton_append, List.pairwise_cons] at hp2
      exact hp2.1 x hx b rfl hb
  refine ⟨⟨?_, ?_, owns_same h.sts fun b hb => keep b (h.sts.lt b hb).2 fun e => t5.2.2.2 (e ▸ hb), h.keys.same (keep mm h.keys.lt (fun e => t5.2.1 e.symm)), h.nums, h.nodup, ?_, ?_, h.rows, ⟨h.low.1, h.low.2.1, Nat.le_trans h.low.2.2 s2.size⟩, ?_⟩, s2, hlt.1, hlt.2, hfz, hcl, KeepT.kp (Kp.grown (M := fun b => b = ga) s2 (fun b e => (Option.some.inj e).symm)) (fun b hb o ho => tq_row harc (by decide) (by rw [hb]; rfl) ho)⟩
  · exact (keep mb h.blk.lt (fun e => t5.1 e.symm)).trans h.blk
  · have h1 := owns_same (w' := w.setCell ⟨ga, B.length * 3 + j, none⟩ u) h.opn fun b hb => keep b (h.opn.lt b hb).2 fun e => t5.2.2.1 (e ▸ hb)
    unfold SRow
    have e1 : stsC (A ++ [((.slice (some ⟨ga, 0, none⟩) (B.length + 1) ct, ⟨B ++ [y], sf, so⟩) : Value × DSt)]) = stsC (A ++ [((.slice (some ⟨ga, 0, none⟩) (B.length + 1) ct, ⟨B ++ [a], sf, so⟩) : Value × DSt)]) := by rw [stsC_snoc, stsC_snoc]; rfl
    rw [e1]
    have e2 : (A ++ [((.slice (some ⟨ga, 0, none⟩) (B.length + 1) ct, ⟨B ++ [y], sf, so⟩) : Value × DSt)]).length = (A ++ [((.slice (some ⟨ga, 0, none⟩) (B.length + 1) ct, ⟨B ++ [a], sf, so⟩) : Value × DSt)]).length := by simp
    rw [e2]
    exact h1
  · intro x hx
    have hx' : x ∈ A ++ xs ∨ x = (.slice (some ⟨ga, 0, none⟩) (B.length + 1) ct, ⟨B ++ [y], sf, so⟩) := by
      rcases List.mem_append.1 hx with hx | hx
      · rcases List.mem_append.1 hx with hx | hx
        · exact .inl (List.mem_append_left _ hx)
        · exact .inr (List.mem_singleton.1 hx)
      · exact .inl (List.mem_append_right _ hx)
    rcases hx' with hx' | rfl
    · have hin : x ∈ (A ++ [((.slice (some ⟨ga, 0, none⟩) (B.length + 1) ct, ⟨B ++ [a], sf, so⟩) : Value × DSt)]) ++ xs := by
        rcases List.mem_append.1 hx' with hx' | hx'
        · exact List.mem_append_left _ (List.mem_append_left _ hx')
        · exact List.mem_append_right _ hx'
      exact owns_same (h.arcs x hin) fun b hb => keep b ((h.arcs x hin).lt b hb).2 (oth x hx' b hb)
    · exact s1
  · have := h.apart
    rw [← List.pairwise_map (f := Prod.fst) (R := fun x y : Value => ∀ b, x.ownBlock = some b → y.ownBlock ≠ some b)] at this ⊢
    rw [hfst] at this ⊢
    exact this
  · intro x hx
    have hx' : x ∈ A ++ xs ∨ x = (.slice (some ⟨ga, 0, none⟩) (B.length + 1) ct, ⟨B ++ [y], sf, so⟩) := by
      rcases List.mem_append.1 hx with hx | hx
      · rcases List.mem_append.1 hx with hx | hx
        · exact .inl (List.mem_append_left _ hx)
        · exact .inr (List.mem_singleton.1 hx)
      · exact .inl (List.mem_append_right _ hx)
    rcases hx' with hx' | rfl
    · refine h.ok x ?_
      rcases List.mem_append.1 hx' with hx' | hx'
      · exact List.mem_append_left _ (List.mem_append_left _ hx')
      · exact List.mem_append_right _ hx'
    · have ho := h.ok _ hmem
      refine ⟨⟨fun z hz => ?_, ho.1.2⟩, by have := ho.2; simp at this ⊢; omega⟩
      rcases List.mem_append.1 hz with hz | hz
      · exact ho.1.1 z (List.mem_append_left _ hz)
      · rw [List.mem_singleton.1 hz]; exact hyo

/-- What is pushed stays a state. -/
theorem push_ok {s : DSt} (h : s.ok) : s.push.ok := by
  refine ⟨fun a ha => ?_, ?_⟩
  · obtain ⟨b, hb, rfl⟩ := List.mem_map.1 ha
    have := h.1 b hb
    exact ⟨this.1, Nat.lt_of_le_of_lt (Nat.sub_le _ _) this.2.1, this.2.2⟩
  · have := h.2
    unfold DSt.push
    split
    · show s.out - s.least < _
      omega
    · exact this
theorem push_len (s : DSt) : s.push.arcs.length = s.arcs.length := by simp [DSt.push]

theorem numT_le {S : List DSt} {s : DSt} : numT S s ≤ S.length := by
  unfold numT
  cases hk : keyAt s S with
  | none => simp
  | some i =>
    unfold keyAt at hk
    rw [List.findIdx?_eq_some_iff_getElem] at hk
    obtain ⟨hi, _⟩ := hk
    exact Nat.le_of_lt hi
theorem numsT_len {S : List DSt} {s : DSt} : S.length ≤ (numsT S s).length ∧ (numsT S s).length ≤ S.length + 1 := by
  unfold numsT
  split
  · exact ⟨Nat.le_refl _, by omega⟩
  · simp

/-- One state shut, in plain words. -/
theorem shut1_eq (lw : ByteArray) (A S : List DSt) (B : List DArc) (a : DArc) (f : Bool) (o : Nat) (x : DSt) :
    (⟨lw, A ++ [⟨B ++ [a], f, o⟩] ++ [x], S⟩ : DMak).shut1 = ⟨lw, A ++ [⟨B ++ [⟨a.b, x.least, (numT S x.push : Int)⟩], f, o⟩], numsT S x.push⟩ := by
  have e1 : (A ++ [(⟨B ++ [a], f, o⟩ : DSt)] ++ [x]).getLast?.getD default = x := by simp
  have e2 : (A ++ [(⟨B ++ [a], f, o⟩ : DSt)] ++ [x]).dropLast = A ++ [⟨B ++ [a], f, o⟩] := List.dropLast_concat ..
  have e3 : ((⟨lw, A ++ [⟨B ++ [a], f, o⟩], S⟩ : DMak).numbered x.push) = ⟨lw, A ++ [⟨B ++ [a], f, o⟩], numsT S x.push⟩ := by
    unfold DMak.numbered numsT
    split <;> rfl
  have e4 : (A ++ [(⟨B ++ [a], f, o⟩ : DSt)]).getLast?.getD default = ⟨B ++ [a], f, o⟩ := by simp
  have e5 : (B ++ [a]).getLast?.getD default = a := by simp
  unfold DMak.shut1
  dsimp only
  rw [e1, e2, e3]
  simp only [lastSt, lastArc, List.dropLast_concat]
  rw [e4]
  simp only [e5, List.dropLast_concat]
  rfl

end Go.Proofs.Ytmfchlbafpkgaaa
namespace Go.Proofs.Ytmfchlbafpkgaaa
open Go.RowKit Go.Shelf Said

theorem iArc : (Try.prog.info? 93).map (fun i => (i.zero, i.size, i.bytes)) = some (some (.agg #[.int .u8 0, .int .u64 0, .int .i64 0]), 3, 24) := by kernel_rfl

/-- What an append leaves: the row with one part more, in its own block or in a new one. -/
def Appd (w2 : World) (base : Nat) (e : TypeId) (vs : Value) (k : Nat) (cs : List Value) (bp op_ : Nat) (v0 v : Value) (w3 : World) : Prop :=
  w3.ownsRow base e 3 v k cs ∧ Kp (fun b => vs.ownBlock = some b) w2 w3 ∧ (v.ownBlock = vs.ownBlock ∨ ∀ b, v.ownBlock = some b → w2.heap.size ≤ b) ∧ w3.cell? ⟨bp, op_, none⟩ = some v0 ∧ w3.frozen? ⟨bp, op_, none⟩ = false

theorem wpList_append_row {w2 w : World} {ops : Array Oper} {rest : List Oper} {o : Oper} {a : Act} {Q : Exit → Act → World → Prop} {t e : TypeId} {by_ : Nat}
    (hg : o.guard = none) (s x : Operand) (hop : o.op = Op.call { callee := Callee.builtin Builtin.append, args := #[s, x], argTypes := #[t, t] }) (ht : o.type = t)
    (hu : Try.prog.underlying t = some (.slice e)) {z1 : Value} (hi9 : (Try.prog.info? e).map (fun i => (i.zero, i.size, i.bytes)) = some (some z1, 3, by_)) (hz9 : z1.cells.size = 3) (hby9 : by_ ≤ 1000)
    (base bp op_ : Nat) (v0 : Value) (n : Nat) (xs cs : List Value) (bb : Nat) {vs : Value}
    (hs : a.eval s = vs) (hx : a.eval x = .slice (some ⟨bb, 0, none⟩) 1 1) (hn : w.heap[bb]? = some (.cells cs.toArray e (0, 0))) (hb : Below w2.heap.size w2 w)
    (hr : w2.ownsRow base e 3 vs n xs) (hL : n ≤ 100000) (hbs : base ≤ w2.heap.size) (hc3 : cs.length = 3) (hv1 : ∀ u ∈ cs, u.oneCell' = true)
    (hp1 : vs.ownBlock ≠ some bp) (hp2 : w2.cell? ⟨bp, op_, none⟩ = some v0) (hp3 : w2.frozen? ⟨bp, op_, none⟩ = false) (hp4 : bp < w2.heap.size)
    (hK : ∀ ad k c w3, Appd w2 base e vs (n + 1) (xs ++ cs) bp op_ v0 (.slice ad k c) w3 → w3.cell? ⟨bp, op_, none⟩ = some v0 → w3.frozen? ⟨bp, op_, none⟩ = false → wpList Try.prog ops Q rest (a.put o.dst (.slice ad k c)) w3) :
    wpList Try.prog ops Q (o :: rest) a w := by
  obtain ⟨i0, hi, hz0, hz1, hz2⟩ := info_parts hi9
  have hr' : w.ownsRow base e 3 vs n xs := owns_same hr fun b hbb => hb.block b (hr.lt b hbb).2
  have hbw : base ≤ w.heap.size := Nat.le_trans hbs hb.size
  obtain ⟨v', w3, h1, h2, h3, _, h5⟩ := run_append_own_at (P := Try.prog) w base t t e i0 _ 3 by_ hu hi hz0 hz1 hz2 hz9 (by decide) vs n xs hr' ⟨bb, 0, none⟩ 1 1 cs (by rw [hc3])
    (by
      intro j u hj
      rw [Addr.add_lit, Nat.zero_add, cell_of_row w bb j _ _ _ hn]
      simpa using hj) hv1 (by unfold maxLen; omega) (by
      have : (n + 1) * by_ ≤ 100001 * 1000 := Nat.mul_le_mul (by omega) hby9
      omega) hbw
  refine wpList_plain hg fun _ hK9 => ?_
  unfold Oper.wp execOp
  simp only [hop, ht, resolve, invoke, builtin, Sem.run_bind, Sem.run_pure, Result.andThen_ok, List.map_toArray, List.map_cons, List.map_nil, hs, hx, h1]
  refine hK9 _ _ ?_
  obtain ⟨ad, k, c, rfl⟩ : ∃ ad k c, v' = .slice ad k c := by
    rcases h2.2 with ⟨rfl, _⟩ | ⟨g, cap, cur, rfl, _⟩
    · exact ⟨_, _, _, rfl⟩
    · exact ⟨_, _, _, rfl⟩
  have hbl : w3.heap[bp]? = w2.heap[bp]? := (h3.block bp (Nat.lt_of_lt_of_le hp4 hb.size) (fun e => hp1 e.symm)).trans (hb.block bp hp4)
  have q1 : w3.cell? ⟨bp, op_, none⟩ = some v0 := by rw [World.cell?_of_block (w := w2) (a := ⟨bp, op_, none⟩) hbl]; exact hp2
  have q2 : w3.frozen? ⟨bp, op_, none⟩ = false := by
    have : w3.frozen? ⟨bp, op_, none⟩ = w2.frozen? ⟨bp, op_, none⟩ := by simp only [World.frozen?, hbl]
    rw [this]; exact hp3
  refine hK ad k c w3 ⟨h2, (Kp.below hb).trans (Kp.grown h3 (fun g e => e)) (fun g h => .inl h), ?_, q1, q2⟩ q1 q2
  rcases h5 with e | e
  · exact .inl e
  · refine .inr fun b hb' => ?_
    have := e.symm.trans hb'
    injection this with this
    have := hb.size
    omega

end Go.Proofs.Ytmfchlbafpkgaaa
namespace Go.Proofs.Ytmfchlbafpkgaaa
open Go.RowKit Go.Shelf

theorem Mk.pair_fst {w : World} {base mb mm : Nat} {lw : ByteArray} {xo xs : List (Value × DSt)} {vo vs : Value} {g : List UInt8 → Nat} (h : Mk w base mb lw xo xs vo vs mm g) :
    ((xo ++ xs).map Prod.fst).Pairwise fun x y : Value => ∀ b, x.ownBlock = some b → y.ownBlock ≠ some b := by
  rw [List.pairwise_map]
  exact h.apart

/-- The deepest open state with another row of arcs, which stands in its own block or in a new one. -/
theorem Mk.setRow {w w3 : World} {base mb mm gO c : Nat} {lw : ByteArray} {A xs : List (Value × DSt)} {vt v : Value} {st : DSt} {l : List DArc} {vs v0 : Value} {g : List UInt8 → Nat}
    (h : Mk w base mb lw (A ++ [(vt, st)]) xs (.slice (some ⟨gO, 0, none⟩) (A.length + 1) c) vs mm g) (ha : Appd w base 93 vt l.length (arcsC l) gO (A.length * 3) v0 v w3) (hl : l.length ≤ 300) (ho : ∀ a ∈ l, a.ok) :
    Mk (w3.setCell ⟨gO, A.length * 3, none⟩ v) base mb lw (A ++ [(v, ⟨l, st.fin, st.out⟩)]) xs (.slice (some ⟨gO, 0, none⟩) (A.length + 1) c) vs mm g ∧ Below base w (w3.setCell ⟨gO, A.length * 3, none⟩ v) ∧ KeepT w (w3.setCell ⟨gO, A.length * 3, none⟩ v) := by
  obtain ⟨a1, a2, a3, -, -⟩ := ha
  have hmem : ((vt, st) : Value × DSt) ∈ (A ++ [(vt, st)]) ++ xs := by simp
  have hrow := h.arcs _ hmem
  obtain ⟨t1, t2, t3, t4⟩ := h.types
  have t5 := t3 _ hmem
  have hgO := h.opn.lt gO rfl
  have keep : ∀ b, b < w.heap.size → vt.ownBlock ≠ some b → w3.heap[b]? = w.heap[b]? := fun b hb hn => a2.block b hb hn
  have hopn3 : SRow w3 base (.slice (some ⟨gO, 0, none⟩) (A.length + 1) c) (A ++ [(vt, st)]) := owns_same h.opn fun b hb => keep b (h.opn.lt b hb).2 fun e => (t5 b e).2.2.1 hb
  obtain ⟨s1, s2⟩ := hopn3.setLast (y := (v, ⟨l, st.fin, st.out⟩)) (j := 0) (u := v) (by decide) rfl
  rw [Nat.add_zero] at s1 s2
  have keep2 : ∀ b, b < w.heap.size → vt.ownBlock ≠ some b → b ≠ gO → (w3.setCell ⟨gO, A.length * 3, none⟩ v).heap[b]? = w.heap[b]? := fun b hb hn hg => (s2.block b (Nat.lt_of_lt_of_le hb a2.size) (fun e => hg (Option.some.inj e))).trans (keep b hb hn)
  have gne : gO ≠ mb ∧ gO ≠ mm := t1 gO rfl
  have hfst := h.pair_fst
  have oth : ∀ x ∈ A ++ xs, ∀ b, x.1.ownBlock = some b → vt.ownBlock ≠ some b := by
    intro x hx b hb e
    have hp := h.apart
    rw [List.append_assoc, List.pairwise_append] at hp
    obtain ⟨_, hp2, hp3⟩ := hp
    rcases List.mem_append.1 hx with hx | hx
    · exact hp3 x hx _ (List.mem_append_left _ (List.mem_singleton.2 rfl)) b hb e
    · rw [List.singleton_append, List.pairwise_cons] at hp2
      exact hp2.1 x hx b e hb
  have inA : ∀ x ∈ A ++ xs, x ∈ (A ++ [(vt, st)]) ++ xs := fun x hx => by
    rcases List.mem_append.1 hx with hx | hx
    · exact List.mem_append_left _ (List.mem_append_left _ hx)
    · exact List.mem_append_right _ hx
  have cases3 : ∀ x ∈ (A ++ [(v, (⟨l, st.fin, st.out⟩ : DSt))]) ++ xs, x ∈ A ++ xs ∨ x = (v, ⟨l, st.fin, st.out⟩) := fun x hx => by
    rcases List.mem_append.1 hx with hx | hx
    · rcases List.mem_append.1 hx with hx | hx
      · exact .inl (List.mem_append_left _ hx)
      · exact .inr (List.mem_singleton.1 hx)
    · exact .inl (List.mem_append_right _ hx)
  -- the new row's block is none of the others'
  have vne : ∀ b, v.ownBlock = some b → b ≠ gO ∧ ∀ x ∈ A ++ xs, x.1.ownBlock ≠ some b := fun b hb => by
    rcases a3 with e | e
    · rw [e] at hb
      exact ⟨fun e' => (t5 b hb).2.2.1 (by rw [e']; rfl), fun x hx e' => oth x hx b e' hb⟩
    · have hge := e b hb
      exact ⟨fun e' => by omega, fun x hx e' => by have := ((h.arcs x (inA x hx)).lt b e').2; omega⟩
  refine ⟨⟨?_, s1, owns_same h.sts fun b hb => keep2 b (h.sts.lt b hb).2 (fun e => (t5 b e).2.2.2 hb) (fun e => h.rows gO rfl (e ▸ hb)), h.keys.same (keep2 mm h.keys.lt (fun e => (t5 mm e).2.1 rfl) (fun e => gne.2 e.symm)), h.nums, h.nodup, ?_, ?_, h.rows, ⟨h.low.1, h.low.2.1, Nat.le_trans h.low.2.2 (Nat.le_trans a2.size s2.size)⟩, ?_⟩, ?_⟩
  · exact (keep2 mb h.blk.lt (fun e => (t5 mb e).1 rfl) (fun e => gne.1 e.symm)).trans h.blk
  · intro x hx
    rcases cases3 x hx with hx | rfl
    · exact owns_same (h.arcs x (inA x hx)) fun b hb => keep2 b ((h.arcs x (inA x hx)).lt b hb).2 (oth x hx b hb) fun e => (t3 x (inA x hx) b hb).2.2.1 (by rw [e]; rfl)
    · exact owns_same (show ARow w3 base v l from a1) fun b hb => s2.block b (a1.lt b hb).2 (fun e => (vne b hb).1 (Option.some.inj e))
  · have hp : ((A ++ [(v, (⟨l, st.fin, st.out⟩ : DSt))]) ++ xs).Pairwise fun x y => ∀ b, x.1.ownBlock = some b → y.1.ownBlock ≠ some b := by
      have hp := h.apart
      rw [List.append_assoc, List.pairwise_append] at hp ⊢
      obtain ⟨hp1, hp2, hp3⟩ := hp
      rw [List.singleton_append, List.pairwise_cons] at hp2 ⊢
      refine ⟨hp1, ⟨fun y hy b hb e => (vne b hb).2 y (List.mem_append_right _ hy) e, hp2.2⟩, fun x hx y hy b hb e => ?_⟩
      rcases List.mem_cons.1 hy with rfl | hy
      · exact (vne b e).2 x (List.mem_append_left _ hx) hb
      · exact hp3 x hx y (List.mem_cons_of_mem _ hy) b hb e
    exact hp
  · intro x hx
    rcases cases3 x hx with hx | rfl
    · exact h.ok x (inA x hx)
    · exact ⟨⟨ho, (h.ok _ hmem).1.2⟩, hl⟩
  · refine ⟨(a2.to h.low.2.2 fun b hb => (hrow.lt b hb).1).trans ((Kp.grown (M := fun b => b = gO) s2 (fun b e => (Option.some.inj e).symm)).to (Nat.le_trans h.low.2.2 a2.size) fun b e => ?_), (KeepT.kp a2 fun b hb o ho => tq_row hrow (by decide) hb ho).trans (KeepT.kp (Kp.grown (M := fun b => b = gO) s2 (fun b e => (Option.some.inj e).symm)) fun b hb o ho => tq_row hopn3 (by decide) (by rw [hb]; rfl) ho)⟩
    rw [e]; exact hgO.1

/-- One more open state. -/
theorem Mk.addOpen {w w3 : World} {base mb mm : Nat} {lw : ByteArray} {xo xs : List (Value × DSt)} {v vo vs v0 : Value} {g : List UInt8 → Nat}
    (h : Mk w base mb lw xo xs vo vs mm g) (ha : Appd w base 91 vo (xo.length + 1) (stsC xo ++ [.slice none 0 0, .bool false, .int .u64 0]) mb 1 v0 v w3) :
    Mk (w3.setCell ⟨mb, 1, none⟩ v) base mb lw (xo ++ [(.slice none 0 0, ⟨[], false, 0⟩)]) xs v vs mm g ∧ Below base w (w3.setCell ⟨mb, 1, none⟩ v) ∧ KeepT w (w3.setCell ⟨mb, 1, none⟩ v) := by
  obtain ⟨a1, a2, a3, -, -⟩ := ha
  obtain ⟨t1, t2, t3, t4⟩ := h.types
  have s2 := grown_setCell w3 mb 1 v
  have keep : ∀ b, b < w.heap.size → vo.ownBlock ≠ some b → w3.heap[b]? = w.heap[b]? := fun b hb hn => a2.block b hb hn
  have keep2 : ∀ b, b < w.heap.size → vo.ownBlock ≠ some b → b ≠ mb → (w3.setCell ⟨mb, 1, none⟩ v).heap[b]? = w.heap[b]? := fun b hb hn hg => (s2.block b (Nat.lt_of_lt_of_le hb a2.size) (fun e => hg (Option.some.inj e))).trans (keep b hb hn)
  have hmb3 : w3.heap[mb]? = w.heap[mb]? := keep mb h.blk.lt fun e => (t1 mb e).1 rfl
  have blk3 : MakB w3 mb lw vo vs mm := hmb3.trans h.blk
  have hsr : SRow w3 base v (xo ++ [(.slice none 0 0, ⟨[], false, 0⟩)]) := by
    unfold SRow
    rw [List.length_append, List.length_singleton, stsC_snoc]
    exact a1
  have vmb : ∀ b, v.ownBlock = some b → b ≠ mb := fun b hb e => by
    obtain ⟨_, cs, fz, hc⟩ := owns_cells a1 b hb
    rw [e, blk3] at hc
    cases hc
  refine ⟨⟨cells_setCell blk3 1 _, owns_same hsr fun b hb => s2.block b (hsr.lt b hb).2 (fun e => vmb b hb (Option.some.inj e)), owns_same h.sts fun b hb => keep2 b (h.sts.lt b hb).2 (fun e => h.rows b e hb) (t2 b hb).1, h.keys.same (keep2 mm h.keys.lt (fun e => (t1 mm e).2 rfl) t4), h.nums, h.nodup, ?_, ?_, ?_, ⟨h.low.1, h.low.2.1, Nat.le_trans h.low.2.2 (Nat.le_trans a2.size s2.size)⟩, ?_⟩, ?_⟩
  · intro x hx
    rw [List.append_assoc] at hx
    have hx' : x ∈ xo ++ xs ∨ x = (.slice none 0 0, ⟨[], false, 0⟩) := by
      rcases List.mem_append.1 hx with hx | hx
      · exact .inl (List.mem_append_left _ hx)
      · rcases List.mem_append.1 hx with hx | hx
        · exact .inr (List.mem_singleton.1 hx)
        · exact .inl (List.mem_append_right _ hx)
    rcases hx' with hx | rfl
    · exact owns_same (h.arcs x hx) fun b hb => keep2 b ((h.arcs x hx).lt b hb).2 (t3 x hx b hb).2.2.1 (t3 x hx b hb).1
    · exact ⟨rfl, .inl ⟨rfl, rfl⟩⟩
  · have hp := h.apart
    rw [List.pairwise_append] at hp
    rw [List.append_assoc, List.pairwise_append]
    refine ⟨hp.1, ?_, fun x hx y hy b hb => ?_⟩
    · rw [List.singleton_append, List.pairwise_cons]
      exact ⟨fun y hy b hb => (by cases hb), hp.2.1⟩
    · rcases List.mem_append.1 hy with hy | hy
      · rw [List.mem_singleton.1 hy]; intro e; cases e
      · exact hp.2.2 x hx y hy b hb
  · intro b hb
    rcases a3 with e | e
    · exact h.rows b (e ▸ hb)
    · intro e'
      have := (h.sts.lt b e').2
      have := e b hb
      omega
  · intro x hx
    rw [List.append_assoc] at hx
    rcases List.mem_append.1 hx with hx | hx
    · exact h.ok x (List.mem_append_left _ hx)
    · rcases List.mem_append.1 hx with hx | hx
      · rw [List.mem_singleton.1 hx]
        exact ⟨⟨fun a ha => by simp at ha, by show (0 : Nat) < _; omega⟩, by simp⟩
      · exact h.ok x (List.mem_append_right _ hx)
  · refine ⟨(a2.to h.low.2.2 fun b hb => (h.opn.lt b hb).1).trans ((Kp.grown (M := fun b => b = mb) s2 (fun b e => (Option.some.inj e).symm)).to (Nat.le_trans h.low.2.2 a2.size) fun b e => ?_), (KeepT.kp a2 fun b hb o ho => tq_row h.opn (by decide) hb ho).trans (KeepT.kp (Kp.grown (M := fun b => b = mb) s2 (fun b e => (Option.some.inj e).symm)) fun b hb o ho => tq_mak blk3 (by rw [← hb]; exact ho))⟩
    rw [e]; exact h.low.1

/-- Final, or Out, of the deepest open state. -/
theorem Mk.setTop {w : World} {base mb mm gO c j : Nat} {lw : ByteArray} {A xs : List (Value × DSt)} {vt u : Value} {st st' : DSt} {vs : Value} {g : List UInt8 → Nat}
    (h : Mk w base mb lw (A ++ [(vt, st)]) xs (.slice (some ⟨gO, 0, none⟩) (A.length + 1) c) vs mm g) (hj : j < 3) (hy : (stC (vt, st)).set j u = stC (vt, st')) (har : st'.arcs = st.arcs) (ho : st'.out < 18446744073709551616) :
    Mk (w.setCell ⟨gO, A.length * 3 + j, none⟩ u) base mb lw (A ++ [(vt, st')]) xs (.slice (some ⟨gO, 0, none⟩) (A.length + 1) c) vs mm g ∧ Below base w (w.setCell ⟨gO, A.length * 3 + j, none⟩ u) ∧ KeepT w (w.setCell ⟨gO, A.length * 3 + j, none⟩ u) := by
  have hmem : ((vt, st) : Value × DSt) ∈ (A ++ [(vt, st)]) ++ xs := by simp
  obtain ⟨t1, t2, t3, t4⟩ := h.types
  have hgO := h.opn.lt gO rfl
  have gne : gO ≠ mb ∧ gO ≠ mm := t1 gO rfl
  obtain ⟨s1, s2⟩ := h.opn.setLast (y := (vt, st')) hj hy
  have keep : ∀ b, b < w.heap.size → b ≠ gO → (w.setCell ⟨gO, A.length * 3 + j, none⟩ u).heap[b]? = w.heap[b]? := fun b hb hn => s2.block b hb (fun e => hn (Option.some.inj e))
  have inA : ∀ x ∈ A ++ xs, x ∈ (A ++ [(vt, st)]) ++ xs := fun x hx => by
    rcases List.mem_append.1 hx with hx | hx
    · exact List.mem_append_left _ (List.mem_append_left _ hx)
    · exact List.mem_append_right _ hx
  have cases3 : ∀ x ∈ (A ++ [(vt, st')]) ++ xs, x ∈ A ++ xs ∨ x = (vt, st') := fun x hx => by
    rcases List.mem_append.1 hx with hx | hx
    · rcases List.mem_append.1 hx with hx | hx
      · exact .inl (List.mem_append_left _ hx)
      · exact .inr (List.mem_singleton.1 hx)
    · exact .inl (List.mem_append_right _ hx)
  refine ⟨⟨(keep mb h.blk.lt (fun e => gne.1 e.symm)).trans h.blk, s1, owns_same h.sts fun b hb => keep b (h.sts.lt b hb).2 (fun e => h.rows gO rfl (e ▸ hb)), h.keys.same (keep mm h.keys.lt (fun e => gne.2 e.symm)), h.nums, h.nodup, ?_, ?_, h.rows, ⟨h.low.1, h.low.2.1, Nat.le_trans h.low.2.2 s2.size⟩, ?_⟩, ?_⟩
  · intro x hx
    rcases cases3 x hx with hx | rfl
    · exact owns_same (h.arcs x (inA x hx)) fun b hb => keep b ((h.arcs x (inA x hx)).lt b hb).2 fun e => (t3 x (inA x hx) b hb).2.2.1 (by rw [e]; rfl)
    · have := owns_same (h.arcs _ hmem) fun b hb => keep b ((h.arcs _ hmem).lt b hb).2 fun e => (t3 _ hmem b hb).2.2.1 (by rw [e]; rfl)
      unfold ARow
      rw [har]
      exact this
  · have hp := h.apart
    rw [List.append_assoc, List.pairwise_append] at hp ⊢
    obtain ⟨hp1, hp2, hp3⟩ := hp
    rw [List.singleton_append, List.pairwise_cons] at hp2 ⊢
    refine ⟨hp1, ⟨hp2.1, hp2.2⟩, fun x hx y hy => ?_⟩
    rcases List.mem_cons.1 hy with rfl | hy
    · exact hp3 x hx (vt, st) (List.mem_cons_self ..)
    · exact hp3 x hx y (List.mem_cons_of_mem _ hy)
  · intro x hx
    rcases cases3 x hx with hx | rfl
    · exact h.ok x (inA x hx)
    · have := h.ok _ hmem
      exact ⟨⟨by rw [har]; exact this.1.1, ho⟩, by rw [har]; exact this.2⟩
  · refine ⟨(Kp.grown (M := fun b => b = gO) s2 (fun b e => (Option.some.inj e).symm)).to h.low.2.2 fun b e => ?_, KeepT.kp (Kp.grown (M := fun b => b = gO) s2 (fun b e => (Option.some.inj e).symm)) fun b hb o ho => tq_row h.opn (by decide) (by rw [hb]; rfl) ho⟩
    rw [e]; exact hgO.1

/-- Another word is the last one. -/
theorem Mk.setWord {w : World} {base mb mm : Nat} {lw lw' : ByteArray} {xo xs : List (Value × DSt)} {vo vs : Value} {g : List UInt8 → Nat}
    (h : Mk w base mb lw xo xs vo vs mm g) : Mk (w.setCell ⟨mb, 0, none⟩ (.string lw')) base mb lw' xo xs vo vs mm g ∧ Below base w (w.setCell ⟨mb, 0, none⟩ (.string lw')) ∧ KeepT w (w.setCell ⟨mb, 0, none⟩ (.string lw')) := by
  obtain ⟨t1, t2, t3, t4⟩ := h.types
  have s2 := grown_setCell w mb 0 (.string lw')
  have keep : ∀ b, b < w.heap.size → b ≠ mb → (w.setCell ⟨mb, 0, none⟩ (.string lw')).heap[b]? = w.heap[b]? := fun b hb hn => s2.block b hb (fun e => hn (Option.some.inj e))
  refine ⟨⟨cells_setCell h.blk 0 _, owns_same h.opn fun b hb => keep b (h.opn.lt b hb).2 (t1 b hb).1, owns_same h.sts fun b hb => keep b (h.sts.lt b hb).2 (t2 b hb).1, h.keys.same (keep mm h.keys.lt t4), h.nums, h.nodup, fun x hx => owns_same (h.arcs x hx) fun b hb => keep b ((h.arcs x hx).lt b hb).2 (t3 x hx b hb).1, h.apart, h.rows, ⟨h.low.1, h.low.2.1, Nat.le_trans h.low.2.2 s2.size⟩, h.ok⟩, ?_⟩
  refine ⟨(Kp.grown (M := fun b => b = mb) s2 (fun b e => (Option.some.inj e).symm)).to h.low.2.2 fun b e => ?_, KeepT.kp (Kp.grown (M := fun b => b = mb) s2 (fun b e => (Option.some.inj e).symm)) fun b hb o ho => tq_mak h.blk (by rw [← hb]; exact ho)⟩
  rw [e]; exact h.low.1

end Go.Proofs.Ytmfchlbafpkgaaa
namespace Go.Proofs.Ytmfchlbafpkgaaa
open Go.RowKit Go.Shelf

def mkO (lw : ByteArray) (xo xs : List (Value × DSt)) : DMak := ⟨lw, xo.map (·.2), xs.map (·.2)⟩

theorem shuts_succ : ∀ (n : Nat) (m : DMak), m.shuts (n + 1) = (m.shuts n).shut1
  | 0, _ => rfl
  | n + 1, m => by
    show m.shut1.shuts (n + 1) = (m.shut1.shuts n).shut1
    exact shuts_succ n m.shut1

/-- What holds while states are shut. -/
def Shutting (lw : ByteArray) (xo xs xo' xs' : List (Value × DSt)) (K : Nat) : Prop :=
  ∃ j, xo'.length + j = xo.length ∧ xs'.length ≤ xs.length + j ∧ mkO lw xo' xs' = (mkO lw xo xs).shuts j ∧ (∀ y ∈ xo'.dropLast, y.2.arcs ≠ []) ∧ ∀ y ∈ xo', y.2.arcs.length ≤ K

theorem Shutting.step {lw : ByteArray} {xo xs A xs' xs'' : List (Value × DSt)} {vt vt' : Value} {B : List DArc} {a : DArc} {f : Bool} {o K : Nat} {x : Value × DSt}
    (h : Shutting lw xo xs (A ++ [(vt, ⟨B ++ [a], f, o⟩)] ++ [x]) xs' K) (he : xs''.map (·.2) = numsT (xs'.map (·.2)) x.2.push) :
    Shutting lw xo xs (A ++ [(vt', ⟨B ++ [⟨a.b, x.2.least, (numT (xs'.map (·.2)) x.2.push : Int)⟩], f, o⟩)]) xs'' K := by
  obtain ⟨j, h1, h2, h3, h4, h5⟩ := h
  have hl : xs''.length ≤ xs'.length + 1 := by
    have := (numsT_len (S := xs'.map (·.2)) (s := x.2.push)).2
    rw [← he] at this
    simpa using this
  refine ⟨j + 1, by simp at h1 ⊢; omega, by omega, ?_, ?_, ?_⟩
  · rw [shuts_succ, ← h3]
    unfold mkO
    rw [List.map_append, List.map_append, he]
    have := shut1_eq lw (A.map (·.2)) (xs'.map (·.2)) B a f o x.2
    simpa using this.symm
  · intro y hy
    rw [List.dropLast_concat] at hy
    refine h4 y ?_
    rw [List.dropLast_concat]
    exact List.mem_append_left _ hy
  · intro y hy
    rcases List.mem_append.1 hy with hy | hy
    · exact h5 y (List.mem_append_left _ (List.mem_append_left _ hy))
    · rw [List.mem_singleton.1 hy]
      have := h5 (vt, ⟨B ++ [a], f, o⟩) (by simp)
      simp at this ⊢
      omega

/-- What shutting leaves. -/
def Shutted (w : World) (base mb mm : Nat) (lw : ByteArray) (xo xs : List (Value × DSt)) (d K : Nat) (w' : World) : Prop :=
  ∃ xo' xs' vo' vs' g', Mk w' base mb lw xo' xs' vo' vs' mm g' ∧ xo'.length = d + 1 ∧ xs'.length ≤ xs.length + (xo.length - (d + 1)) ∧ mkO lw xo' xs' = (mkO lw xo xs).shut d ∧ (∀ y ∈ xo'.dropLast, y.2.arcs ≠ []) ∧ (∀ y ∈ xo', y.2.arcs.length ≤ K) ∧ Below base w w' ∧ KeepT w w'

theorem Shutting.done {w w' : World} {base mb mm d : Nat} {lw : ByteArray} {xo xs xo' xs' : List (Value × DSt)} {vo' vs' : Value} {g' : List UInt8 → Nat} {K : Nat}
    (h : Shutting lw xo xs xo' xs' K) (hm : Mk w' base mb lw xo' xs' vo' vs' mm g') (hb : Below base w w') (ht : KeepT w w') (hd : xo'.length = d + 1) : Shutted w base mb mm lw xo xs d K w' := by
  obtain ⟨j, h1, h2, h3, h4, h5⟩ := h
  refine ⟨xo', xs', vo', vs', g', hm, hd, by omega, ?_, h4, h5, hb, ht⟩
  rw [h3]
  unfold DMak.shut
  congr 1
  simp [mkO]
  omega

end Go.Proofs.Ytmfchlbafpkgaaa
namespace Go.Proofs.Ytmfchlbafpkgaaa
open Go.RowKit Go.Shelf

theorem more_eq (lw : ByteArray) (A S : List DSt) (s : DSt) (b : UInt8) :
    (⟨lw, A ++ [s], S⟩ : DMak).more b = ⟨lw, A ++ [⟨s.arcs ++ [⟨b.toNat, 0, 0⟩], s.fin, s.out⟩] ++ [⟨[], false, 0⟩], S⟩ := by
  unfold DMak.more lastSt
  simp only [List.dropLast_concat]
  have e4 : (A ++ [s]).getLast?.getD default = s := by simp
  rw [e4]

/-- What holds while a way goes deeper. -/
def Growing (lw : ByteArray) (m : DMak) (bs : List UInt8) (n0 K k : Nat) (A : List (Value × DSt)) (x : Value × DSt) (xs : List (Value × DSt)) : Prop :=
  mkO lw (A ++ [x]) xs = (bs.take k).foldl DMak.more m ∧ A.length + 1 = n0 + k ∧ (∀ y ∈ A, y.2.arcs ≠ [] ∧ y.2.arcs.length ≤ K + 1) ∧ x.2.arcs.length ≤ K

theorem Growing.start {lw : ByteArray} {xo xs : List (Value × DSt)} {bs : List UInt8} {K : Nat} {A : List (Value × DSt)} {x : Value × DSt} (he : xo = A ++ [x]) (h4 : ∀ y ∈ xo.dropLast, y.2.arcs ≠ []) (h5 : ∀ y ∈ xo, y.2.arcs.length ≤ K) :
    Growing lw (mkO lw xo xs) bs xo.length K 0 A x xs := by
  subst he
  rw [List.dropLast_concat] at h4
  refine ⟨by simp, by simp, fun y hy => ⟨h4 y hy, ?_⟩, h5 x (by simp)⟩
  have := h5 y (List.mem_append_left _ hy)
  omega

theorem Growing.step {lw : ByteArray} {m : DMak} {bs : List UInt8} {n0 K k : Nat} {A xs : List (Value × DSt)} {vt v' v'' : Value} {st : DSt} (h : Growing lw m bs n0 K k A (vt, st) xs) (hk : k < bs.length) :
    Growing lw m bs n0 K (k + 1) (A ++ [(v', ⟨st.arcs ++ [⟨bs[k].toNat, 0, 0⟩], st.fin, st.out⟩)]) (v'', ⟨[], false, 0⟩) xs := by
  obtain ⟨h1, h2, h3, h4⟩ := h
  refine ⟨?_, by simp; omega, fun y hy => ?_, by simp⟩
  · rw [List.take_add_one, List.foldl_append, ← h1, List.getElem?_eq_getElem hk]
    unfold mkO
    have := more_eq lw (A.map (·.2)) (xs.map (·.2)) st bs[k]
    simpa using this.symm
  · rcases List.mem_append.1 hy with hy | hy
    · exact h3 y hy
    · rw [List.mem_singleton.1 hy]
      simp at h4 ⊢
      omega

/-- What adding leaves. -/
def Added (w : World) (base mb mm : Nat) (lw : ByteArray) (xo xs : List (Value × DSt)) (e : Ent) (K : Nat) (w' : World) : Prop :=
  ∃ xo' xs' vo' vs' g', Mk w' base mb e.word xo' xs' vo' vs' mm g' ∧ xo'.length = e.word.size + 1 ∧ xs'.length ≤ xs.length + xo.length ∧ mkO e.word xo' xs' = (mkO lw xo xs).add e ∧ (∀ y ∈ xo'.dropLast, y.2.arcs ≠ []) ∧ (∀ y ∈ xo', y.2.arcs.length ≤ K + 1) ∧ Below base w w' ∧ KeepT w w'

theorem Growing.done {w w' : World} {base mb mm n0 d : Nat} {lw : ByteArray} {xo xs xs' : List (Value × DSt)} {vo' vs' : Value} {g' : List UInt8 → Nat} {K : Nat} {e : Ent} {A : List (Value × DSt)} {vt : Value} {st : DSt}
    (hd : d = sharedT lw e.word) (hds : d ≤ e.word.size) (hn0 : n0 = d + 1) (hxs : xs'.length ≤ xs.length + xo.length)
    (h : Growing lw ((mkO lw xo xs).shut d) (e.word.data.toList.drop d) n0 K (e.word.size - d) A (vt, st) xs')
    (hm : Mk w' base mb e.word (A ++ [(vt, ⟨st.arcs, true, valT e⟩)]) xs' vo' vs' mm g') (hb : Below base w w') (ht : KeepT w w') : Added w base mb mm lw xo xs e K w' := by
  obtain ⟨h1, h2, h3, h4⟩ := h
  have hlen : (e.word.data.toList.drop d).length = e.word.size - d := by rw [List.length_drop, Array.length_toList]; rfl
  refine ⟨_, xs', vo', vs', g', hm, by simp; omega, hxs, ?_, ?_, ?_, hb, ht⟩
  · unfold DMak.add
    rw [List.take_of_length_le (by omega)] at h1
    have e0 : (mkO lw xo xs).last = lw := rfl
    simp only [e0, ← hd, ← h1]
    simp [mkO, lastSt]
  · rw [List.dropLast_concat]
    exact fun y hy => (h3 y hy).1
  · intro y hy
    rcases List.mem_append.1 hy with hy | hy
    · exact (h3 y hy).2
    · rw [List.mem_singleton.1 hy]
      simp at h4 ⊢
      omega

end Go.Proofs.Ytmfchlbafpkgaaa
namespace Go.Proofs.Ytmfchlbafpkgaaa
open Go.RowKit Go.Shelf

theorem MakB.set1 {w : World} {mb mm : Nat} {lw : ByteArray} {vo vs : Value} (h : MakB w mb lw vo vs mm) (v : Value) : MakB (w.setCell ⟨mb, 1, none⟩ v) mb lw v vs mm := cells_setCell h 1 _

/-- How many open states there are, as it stands in memory. -/
def openLen (w : World) (mb : Nat) : Nat := match w.cell? ⟨mb, 1, none⟩ with
  | some (.slice _ n _) => n
  | _ => 0
theorem SRow.form {w : World} {base : Nat} {v : Value} {l : List (Value × DSt)} (h : SRow w base v l) : ∃ ad c, v = .slice ad l.length c := by
  rcases h.2 with ⟨rfl, h0⟩ | ⟨g, cap, cur, rfl, _⟩
  · exact ⟨none, 0, by rw [h0]⟩
  · exact ⟨_, _, rfl⟩
theorem ARow.form {w : World} {base : Nat} {v : Value} {l : List DArc} (h : ARow w base v l) : ∃ ad c, v = .slice ad l.length c := by
  obtain ⟨ad, c, h, -⟩ := h.arcs
  exact ⟨ad, c, h⟩
theorem two_last {α : Type} {l : List α} (h : 2 ≤ l.length) : ∃ A t x, l = A ++ [t] ++ [x] := by
  rcases List.eq_nil_or_concat l with rfl | ⟨B, x, rfl⟩
  · simp at h
  · rcases List.eq_nil_or_concat B with rfl | ⟨A, t, rfl⟩
    · simp at h
    · exact ⟨A, t, x, by simp⟩
theorem Mk.last3 {w : World} {base mb mm gO c : Nat} {lw : ByteArray} {B xs : List (Value × DSt)} {x t : Value × DSt} {vs : Value} {g : List UInt8 → Nat} (h : Mk w base mb lw (B ++ [t] ++ [x]) xs (.slice (some ⟨gO, 0, none⟩) (B.length + 1 + 1) c) vs mm g) :
    w.cell? ⟨gO, (B.length + 1) * 3, none⟩ = some x.1 ∧ w.cell? ⟨gO, (B.length + 1) * 3 + 1, none⟩ = some (.bool x.2.fin) ∧ w.cell? ⟨gO, (B.length + 1) * 3 + 2, none⟩ = some (.int .u64 (x.2.out : Int)) ∧ w.cell? ⟨mb, 1, none⟩ = some (.slice (some ⟨gO, 0, none⟩) (B.length + 1 + 1) c) := by
  obtain ⟨g', c', hv, -, -, -, p1, p2, p3, -⟩ := h.opn.last
  rw [show (B ++ [t]).length = B.length + 1 by simp] at hv p1 p2 p3
  cases hv
  exact ⟨p1, p2, p3, h.blk.at1⟩

/-- The last open state taken off. -/
theorem Mk.popOpen {w : World} {base mb mm gO c : Nat} {lw : ByteArray} {A xs : List (Value × DSt)} {x t : Value × DSt} {vs : Value} {g : List UInt8 → Nat} (h : Mk w base mb lw (A ++ [t] ++ [x]) xs (.slice (some ⟨gO, 0, none⟩) (A.length + 1 + 1) c) vs mm g) :
    Mk (w.setCell ⟨mb, 1, none⟩ (.slice (some ⟨gO, 0, none⟩) (A.length + 1) c)) base mb lw (A ++ [t]) xs (.slice (some ⟨gO, 0, none⟩) (A.length + 1) c) vs mm g ∧
    ARow (w.setCell ⟨mb, 1, none⟩ (.slice (some ⟨gO, 0, none⟩) (A.length + 1) c)) base x.1 x.2.arcs ∧ (∀ y ∈ (A ++ [t]) ++ xs, ∀ b, y.1.ownBlock = some b → x.1.ownBlock ≠ some b) ∧ (x.2.ok ∧ x.2.arcs.length ≤ 300) ∧ w.grownBy (w.setCell ⟨mb, 1, none⟩ (.slice (some ⟨gO, 0, none⟩) (A.length + 1) c)) (some mb) := by
  have hg := grown_setCell w mb 1 (.slice (some ⟨gO, 0, none⟩) (A.length + 1) c)
  obtain ⟨t1, t2, t3, t4⟩ := h.types
  have hAt : (A ++ [t]).length = A.length + 1 := by simp
  have hopn : SRow w base (.slice (some ⟨gO, 0, none⟩) (A.length + 1) c) (A ++ [t]) := by
    have := SRow.pop (A := A ++ [t]) (x := x) (g := gO) (c := c) (by rw [hAt]; exact h.opn)
    rwa [hAt] at this
  have keep : ∀ b, b < w.heap.size → b ≠ mb → (w.setCell ⟨mb, 1, none⟩ (.slice (some ⟨gO, 0, none⟩) (A.length + 1) c)).heap[b]? = w.heap[b]? := fun b hb hn => hg.block b hb (fun e => hn (Option.some.inj e))
  have sub : ∀ y ∈ (A ++ [t]) ++ xs, y ∈ (A ++ [t] ++ [x]) ++ xs := fun y hy => by
    rcases List.mem_append.1 hy with hy | hy
    · exact List.mem_append_left _ (List.mem_append_left _ hy)
    · exact List.mem_append_right _ hy
  have hx : x ∈ (A ++ [t] ++ [x]) ++ xs := by simp
  refine ⟨⟨h.blk.set1 _, owns_same hopn fun b hb => keep b (hopn.lt b hb).2 (t1 b hb).1, owns_same h.sts fun b hb => keep b (h.sts.lt b hb).2 (t2 b hb).1, h.keys.same (keep mm h.keys.lt t4), h.nums, h.nodup,
    fun y hy => owns_same (h.arcs y (sub y hy)) fun b hb => keep b ((h.arcs y (sub y hy)).lt b hb).2 (t3 y (sub y hy) b hb).1, ?_, h.rows, ⟨h.low.1, h.low.2.1, Nat.le_trans h.low.2.2 hg.size⟩, fun y hy => h.ok y (sub y hy)⟩,
    owns_same (h.arcs x hx) fun b hb => keep b ((h.arcs x hx).lt b hb).2 (t3 x hx b hb).1, ?_, h.ok x hx, hg⟩
  · refine h.apart.sublist ?_
    exact List.Sublist.append (List.sublist_append_left _ _) (List.Sublist.refl _)
  · intro y hy b hb e
    have hp := h.apart
    rw [List.append_assoc, List.pairwise_append] at hp
    obtain ⟨_, hp2, hp3⟩ := hp
    rcases List.mem_append.1 hy with hy | hy
    · exact hp3 y hy x (by simp) b hb e
    · rw [List.singleton_append, List.pairwise_cons] at hp2
      exact hp2.1 y hy b e hb

set_option maxHeartbeats 4000000 in
set_option maxRecDepth 100000 in
theorem shut_any {w : World} {base mb mm d K : Nat} {lw : ByteArray} {xo xs : List (Value × DSt)} {vo vs : Value} {g : List UInt8 → Nat} (h : Mk w base mb lw xo xs vo vs mm g) (hd : d + 1 ≤ xo.length) (hn : xo.length ≤ 300) (hs : xs.length + xo.length ≤ 100000)
    (hne : ∀ y ∈ xo.dropLast, y.2.arcs ≠ []) (hK : ∀ y ∈ xo, y.2.arcs.length ≤ K) :
    Calls Try.prog 97 #[.pointer (some ⟨mb, 0, none⟩), .int .i64 (d : Int)] w fun e w' => e = .returned (.tuple #[]) ∧ Shutted w base mb mm lw xo xs d K w' := by
  have HM := Lib.hid h
  have HS0 : Hid (Shutting lw xo xs xo xs K) := Lib.hid ⟨0, rfl, Nat.le_refl _, rfl, hne, hK⟩
  clear h hne hK
  go_enter Try.func97, Try.ntmps97
  go_wp2
  go_loopw [] (fun wr => ∃ (xo' xs' : List (Value × DSt)) (vo' vs' : Value) (g' : List UInt8 → Nat), d + 1 ≤ xo'.length ∧ xo'.length ≤ 300 ∧ Hid (Mk wr base mb lw xo' xs' vo' vs' mm g' ∧ Below base w wr ∧ Shutting lw xo xs xo' xs' K ∧ KeepT w wr)) (fun wr => openLen wr mb)
  case atStart => exact ⟨xo, xs, vo, vs, g, hd, hn, Lib.hid ⟨HM.out, Below.refl _ _, HS0.out, KeepT.refl _⟩⟩
  case round =>
    obtain ⟨xo', xs', vo', vs', g', hd', hn', HR⟩ := hrel
    obtain ⟨adO, cO, rfl⟩ := HR.out.1.opn.form
    have k1 := HR.out.1.blk.at1
    have e1 : IntKind.i64.wrap ((d : Int) + 1) = ((d + 1 : Nat) : Int) := by rw [IntWalk.i64_in _ (by omega)]; omega
    have hxs' : xs'.length ≤ 100000 := by
      obtain ⟨j, h1, h2, -⟩ := HR.out.2.2.1
      omega
    by_cases hlt : d + 1 < xo'.length
    · obtain ⟨A, ⟨vt, st⟩, ⟨vx, sx⟩, rfl⟩ := two_last (l := xo') (by omega)
      have hne : st.arcs ≠ [] := by
        obtain ⟨j, -, -, -, h4, -⟩ := HR.out.2.2.1
        refine h4 (vt, st) ?_
        rw [List.dropLast_concat]
        exact List.mem_append_right _ (List.mem_singleton.2 rfl)
      obtain ⟨starcs, sf, so⟩ := st
      rcases List.eq_nil_or_concat starcs with rfl | ⟨B, a, hBa⟩
      · exact absurd rfl hne
      rw [List.concat_eq_append] at hBa
      subst hBa
      clear hne
      have hax : ARow wr base vx sx.arcs := HR.out.1.arcs (vx, sx) (by simp)
      have hat : ARow wr base vt (B ++ [a]) := HR.out.1.arcs (vt, ⟨B ++ [a], sf, so⟩) (by simp)
      obtain ⟨adx, cx, rfl⟩ := hax.form
      obtain ⟨ga, ct, rfl⟩ : ∃ ga ct, vt = .slice (some ⟨ga, 0, none⟩) (B.length + 1) ct := by
        rcases hat.2 with ⟨-, h0⟩ | ⟨g9, cap, cur, rfl, -⟩
        · simp at h0
        · exact ⟨g9, cap, by simp⟩
      clear hax hat
      obtain ⟨gO, cO', hv, hcap, -⟩ := HR.out.1.opn.last
      have hlen : (A ++ [((Value.slice (some ⟨ga, 0, none⟩) (B.length + 1) ct, ⟨B ++ [a], sf, so⟩) : Value × DSt)] ++ [(Value.slice adx sx.arcs.length cx, sx)]).length = A.length + 2 := by simp
      have hAt : (A ++ [((Value.slice (some ⟨ga, 0, none⟩) (B.length + 1) ct, ⟨B ++ [a], sf, so⟩) : Value × DSt)]).length = A.length + 1 := by simp
      rw [hlen] at hv k1 hlt hn' hd'
      rw [hAt] at hv hcap
      cases hv
      have HV := Lib.hid (show Mk wr base mb lw (A ++ [((Value.slice (some ⟨ga, 0, none⟩) (B.length + 1) ct, ⟨B ++ [a], sf, so⟩) : Value × DSt)] ++ [(Value.slice adx sx.arcs.length cx, sx)]) xs' (.slice (some ⟨gO, 0, none⟩) (A.length + 1 + 1) cO) vs' mm g' ∧ Below base w wr ∧ Shutting lw xo xs (A ++ [((Value.slice (some ⟨ga, 0, none⟩) (B.length + 1) ct, ⟨B ++ [a], sf, so⟩) : Value × DSt)] ++ [(Value.slice adx sx.arcs.length cx, sx)]) xs' K ∧ KeepT w wr from by have := HR.out; rwa [hlen] at this)
      clear HR hlen hAt
      have hgt : ((A.length + 2 : Nat) : Int) > ((d + 1 : Nat) : Int) := by omega
      have HT1 : Hid (Calls Try.prog 98 #[.pointer (some ⟨mb, 0, none⟩)] wr fun e w' => e = .returned (.pointer (some ⟨gO, (A.length + 1) * 3, none⟩)) ∧ Below wr.heap.size wr w') := Lib.hid (top_any HV.out.1.blk (by omega))
      go_wp2_with (go_at_call 98
                   (with_reducible refine HT1.out.mono ?_)
                   rintro e' w1 ⟨rfl, hb1⟩
                   have HM1 := Lib.hid (HV.out.1.below hb1)
                   have HB1 := Lib.hid hb1
                   obtain ⟨p1, p2, p3, kb⟩ := HM1.out.last3
                   clear hb1)
      obtain ⟨w2, hw2⟩ : ∃ w2, w2 = w1.alloc (.cells #[.slice adx sx.arcs.length cx, .bool sx.fin, .int .u64 (sx.out : Int)] 91) := ⟨_, rfl⟩
      have hb2 : Below w1.heap.size w1 w2 := by rw [hw2]; exact below_alloc w1 _
      have HM2 := Lib.hid (HM1.out.below hb2)
      have HBX : Hid (StB w2 w1.heap.size (.slice adx sx.arcs.length cx) sx.fin sx.out) := Lib.hid (by rw [hw2]; exact heap_alloc_new w1 _)
      have HNI := Lib.hid (HM1.out.fresh (Nat.le_refl _))
      have kb2 := HM2.out.blk.at1
      have fb2 := HM2.out.blk.free 1
      have e2 : IntKind.i64.wrap (((A.length + 1 + 1 : Nat) : Int) - 1) = ((A.length + 1 : Nat) : Int) := by rw [IntWalk.i64_in _ (by omega)]; omega
      have i2 : ((A.length + 1 : Nat) : Int) ≤ (cO : Int) := by omega
      have HB2 := Lib.hid hb2
      rw [← hw2]
      clear hw2 hb2 kb p1 p2 p3
      go_region
      have HP := Lib.hid HM2.out.popOpen
      have HBX3 : Hid (StB ((w2.setCell ⟨mb, 1, none⟩ (.slice (some ⟨gO, 0, none⟩) (A.length + 1) cO)).drew) w1.heap.size (.slice adx sx.arcs.length cx) sx.fin sx.out) := Lib.hid ((HP.out.2.2.2.2.block _ HBX.out.lt (fun e => HNI.out.1 (Option.some.inj e))).trans HBX.out)
      obtain ⟨w3, hw3⟩ : ∃ w3, w3 = (w2.setCell ⟨mb, 1, none⟩ (.slice (some ⟨gO, 0, none⟩) (A.length + 1) cO)).drew := ⟨_, rfl⟩
      rw [← hw3] at HBX3 ⊢
      have hd3 : Below (w2.setCell ⟨mb, 1, none⟩ (.slice (some ⟨gO, 0, none⟩) (A.length + 1) cO)).heap.size (w2.setCell ⟨mb, 1, none⟩ (.slice (some ⟨gO, 0, none⟩) (A.length + 1) cO)) w3 := by rw [hw3]; exact (Below.refl _ _).drew
      have HM3 := Lib.hid (HP.out.1.below hd3)
      have HX3 : Hid (ARow w3 base (.slice adx sx.arcs.length cx) sx.arcs) := Lib.hid (owns_same HP.out.2.1 fun b hb => hd3.block b (HP.out.2.1.lt b hb).2)
      have HBB3 : Hid (Below base wr w3) := Lib.hid (((HB1.out.trans (HB2.out.mono HB1.out.size)).mono HV.out.1.low.2.2).trans (((Kp.grown (M := fun b => b = mb) HP.out.2.2.2.2 (fun b e => (Option.some.inj e).symm)).to (Nat.le_trans HV.out.1.low.2.2 (Nat.le_trans HB1.out.size HB2.out.size)) (fun b e => by rw [e]; exact HV.out.1.low.1)).trans (hd3.mono (by have := HV.out.1.low.2.2; have := HB1.out.size; have := HB2.out.size; have := HP.out.2.2.2.2.size; omega))))
      have HT03 : Hid (KeepT wr w3) := Lib.hid ((KeepT.below (HB1.out.trans (HB2.out.mono HB1.out.size))).trans ((KeepT.kp (Kp.grown (M := fun b => b = mb) HP.out.2.2.2.2 (fun b e => (Option.some.inj e).symm)) (fun b e o ho => tq_mak HM2.out.blk (by rw [← e]; exact ho))).trans (KeepT.below hd3)))
      clear hd3 hw3
      have HNX : Hid (∀ b, ((Value.slice adx sx.arcs.length cx).ownBlock = some b ∨ b = w1.heap.size) → NotIn b mb mm (.slice (some ⟨gO, 0, none⟩) (A.length + 1) cO) vs' ((A ++ [((Value.slice (some ⟨ga, 0, none⟩) (B.length + 1) ct, ⟨B ++ [a], sf, so⟩) : Value × DSt)]) ++ xs')) := Lib.hid fun b hb => by
        rcases hb with hb | rfl
        · exact HM3.out.notin HX3.out HP.out.2.2.1 hb
        · obtain ⟨n1, n2, n3, n4, n5⟩ := HNI.out
          refine ⟨n1, n2, n3, n4, fun y hy => n5 y ?_⟩
          rcases List.mem_append.1 hy with hy | hy
          · exact List.mem_append_left _ (List.mem_append_left _ hy)
          · exact List.mem_append_right _ hy
      have e3 : IntKind.i64.wrap (B.length : Int) = (B.length : Int) := IntWalk.i64_in _ (by have := (HV.out.1.ok ((Value.slice (some ⟨ga, 0, none⟩) (B.length + 1) ct, ⟨B ++ [a], sf, so⟩)) (by simp)).2; simp at this; omega)
      have i3 : (B.length : Int) < ((B.length + 1 : Nat) : Int) := by omega
      have i4 : (0 : Int) ≤ (B.length : Int) := by omega
      have HOK := Lib.hid HP.out.2.2.2.1
      have HT3 : Hid (Calls Try.prog 98 #[.pointer (some ⟨mb, 0, none⟩)] w3 fun e w' => e = .returned (.pointer (some ⟨gO, A.length * 3, none⟩)) ∧ Below w3.heap.size w3 w') := Lib.hid (top_any HM3.out.blk (by omega))
      go_wp2_with (go_at_call 98
                   (with_reducible refine HT3.out.mono ?_)
                   rintro e' w4 ⟨rfl, hb4⟩
                   have HM4 := Lib.hid (HM3.out.below hb4)
                   have HB4 := Lib.hid hb4
                   obtain ⟨g9, c9, hv9, -, -, -, q1, -⟩ := HM4.out.opn.last
                   cases hv9
                   have HX4 : Hid (ARow w4 base (.slice adx sx.arcs.length cx) sx.arcs) := Lib.hid (owns_same HX3.out fun b hb => hb4.block b (HX3.out.lt b hb).2)
                   have HBX4 : Hid (StB w4 w1.heap.size (.slice adx sx.arcs.length cx) sx.fin sx.out) := Lib.hid ((hb4.block _ HBX3.out.lt).trans HBX3.out)
                   have Q5 := Lib.hid (push_any HBX4.out HX4.out (by have := HOK.out.2; omega) HOK.out.1)
                   clear hb4)
      go_wp2_with (first
                   | (go_at_call 100
                      (with_reducible refine Q5.out.mono ?_)
                      go_loud (
                      rintro e' w5 ⟨rfl, hs5, hx5, hk5⟩
                      have HM5 := Lib.hid (HM4.out.kp hk5 HNX.out)
                      have HK5 := Lib.hid hk5
                      obtain ⟨HA6, hg6, hb6, hl6, f6, k6, t6⟩ := HM5.out.setArc (j := 1) (u := .int .u64 (sx.least : Int)) (y := ⟨a.b, sx.least, a.to⟩) (by decide) rfl (by have := ((HM5.out.ok ((Value.slice (some ⟨ga, 0, none⟩) (B.length + 1) ct, ⟨B ++ [a], sf, so⟩)) (by simp)).1.1 a (by simp)); exact ⟨this.1, least_lt _, this.2.2⟩)
                      simp only [arcC, List.getElem?_cons_succ, List.getElem?_cons_zero] at k6
                      have hpg : w1.heap.size ≠ ga := fun e => by
                        obtain ⟨_, cs, fz, hc⟩ := owns_cells (HM5.out.arcs ((Value.slice (some ⟨ga, 0, none⟩) (B.length + 1) ct, ⟨B ++ [a], sf, so⟩)) (by simp)) ga rfl
                        rw [← e, hs5] at hc
                        cases hc
                      have hS6 : StB (w5.setCell ⟨ga, B.length * 3 + 1, none⟩ (.int .u64 (sx.least : Int))) w1.heap.size (.slice adx sx.arcs.length cx) sx.push.fin sx.push.out := (hg6.block _ hs5.lt (fun e => hpg (Option.some.inj e))).trans hs5
                      have c60 := hS6.at0
                      have c61 := hS6.at1
                      have c62 := hS6.at2
                      have hX6 : ARow (w5.setCell ⟨ga, B.length * 3 + 1, none⟩ (.int .u64 (sx.least : Int))) base (.slice adx sx.arcs.length cx) sx.push.arcs := owns_same hx5 fun b hb => hg6.block b (hx5.lt b hb).2 (fun e => (HNX.out b (.inl hb)).2.2.2.2 ((Value.slice (some ⟨ga, 0, none⟩) (B.length + 1) ct, ⟨B ++ [a], sf, so⟩)) (by simp) (by rw [Option.some.inj e]; rfl))
                      have HB6 : Hid (Below base wr (w5.setCell ⟨ga, B.length * 3 + 1, none⟩ (.int .u64 (sx.least : Int)))) := Lib.hid ((HBB3.out.trans ((HB4.out.mono HM3.out.low.2.2).trans (HK5.out.to HM4.out.low.2.2 (fun b e => by
                        rcases e with e | rfl
                        · exact (HX4.out.lt b e).1
                        · exact HM1.out.low.2.2)))).trans ((Kp.grown (M := fun b => b = ga) hg6 (fun b e => (Option.some.inj e).symm)).to HM5.out.low.2.2 (fun b e => by rw [e]; exact hb6)))
                      have HT6 := Lib.hid ((KeepT.kp hk5 (fun b e o ho => by
                        rcases e with e | rfl
                        · exact tq_row HX4.out (by decide) e ho
                        · rintro ⟨cs, e9, fz, rfl, he9⟩
                          have := HBX4.out
                          unfold StB at this
                          rw [this] at ho
                          cases ho
                          rcases he9 with he9 | he9 | he9 <;> exact absurd he9 (by decide))).trans t6)
                      clear t6
                      have QN := Lib.hid (HA6.number (v := .slice adx sx.arcs.length cx) (s := sx.push) hX6 (push_ok HOK.out.1) (by rw [push_len]; exact HOK.out.2) (fun y hy b hb e => by
                        have n5 := (HNX.out b (.inl e)).2.2.2.2
                        rcases List.mem_append.1 hy with hy | hy
                        · rcases List.mem_append.1 hy with hy | hy
                          · exact n5 y (List.mem_append_left _ (List.mem_append_left _ hy)) hb
                          · rw [List.mem_singleton.1 hy] at hb
                            exact n5 ((Value.slice (some ⟨ga, 0, none⟩) (B.length + 1) ct, ⟨B ++ [a], sf, so⟩)) (by simp) hb
                        · exact n5 y (List.mem_append_right _ hy) hb) hxs')
                      clear hs5 hx5 hk5 hg6 hb6 hl6 hpg hS6 hX6 HA6))
                   | (go_at_call 101
                      (with_reducible refine QN.out.mono ?_)
                      go_loud (
                      rintro e' w7 ⟨rfl, xs7, vs7, g7, hm7, he7, hb7, t7⟩
                      have HM7 := Lib.hid hm7
                      have HE7 := Lib.hid he7
                      have HB7 := Lib.hid hb7
                      obtain ⟨HA8, hg8, hb8, hl8, f8, k8, t8⟩ := HM7.out.setArc (j := 2) (u := .int .i64 ((numT (xs'.map (·.2)) sx.push : Nat) : Int)) (y := ⟨a.b, sx.least, ((numT (xs'.map (·.2)) sx.push : Nat) : Int)⟩) (by decide) rfl (by
                        have := ((HM5.out.ok ((Value.slice (some ⟨ga, 0, none⟩) (B.length + 1) ct, ⟨B ++ [a], sf, so⟩)) (by simp)).1.1 a (by simp))
                        have hl := numT_le (S := xs'.map (·.2)) (s := sx.push)
                        rw [List.length_map] at hl
                        exact ⟨this.1, least_lt _, by show _ ≤ ((numT (xs'.map (·.2)) sx.push : Nat) : Int); omega, by show ((numT (xs'.map (·.2)) sx.push : Nat) : Int) < _; omega⟩)
                      have HB8 : Hid (Below base (w5.setCell ⟨ga, B.length * 3 + 1, none⟩ (.int .u64 (sx.least : Int))) (w7.setCell ⟨ga, B.length * 3 + 2, none⟩ (.int .i64 ((numT (xs'.map (·.2)) sx.push : Nat) : Int)))) := Lib.hid (hb7.trans ((Kp.grown (M := fun b => b = ga) hg8 (fun b e => (Option.some.inj e).symm)).to hm7.low.2.2 (fun b e => by rw [e]; exact hb8)))
                      simp only [arcC, List.getElem?_cons_succ, List.getElem?_cons_zero] at k8
                      have HA8 := Lib.hid HA8
                      have HT8 := Lib.hid (HT6.out.trans (t7.trans t8))
                      clear t7 t8
                      clear hm7 he7 hb7 hg8 hb8 hl8)))
      refine ⟨⟨_, xs7, _, vs7, g7, ?_, ?_, Lib.hid ⟨HA8.out, HV.out.2.1.trans (HB6.out.trans HB8.out), HV.out.2.2.1.step HE7.out, HV.out.2.2.2.trans (HT03.out.trans ((KeepT.below HB4.out).trans HT8.out))⟩⟩, ?_⟩
      · simp; omega
      · simp; omega
      · have q9 := HA8.out.blk.at1
        unfold openLen
        rw [q9, k1]
        show A.length + 1 < A.length + 2
        omega
    · have hle : ¬ ((xo'.length : Int) > ((d + 1 : Nat) : Int)) := by omega
      have hdn : xo'.length = d + 1 := by omega
      go_wp2
      go_end0
      exact ⟨rfl, HR.out.2.2.1.done HR.out.1 HR.out.2.1 HR.out.2.2.2 hdn⟩
end Go.Proofs.Ytmfchlbafpkgaaa
namespace Go.Proofs.Ytmfchlbafpkgaaa
open Go.RowKit Go.Shelf

theorem extract_drop (s : ByteArray) (d : Nat) : (s.extract d s.size).data.toList = s.data.toList.drop d := by
  rw [ba_extract, List.take_of_length_le]
  rw [List.length_drop, ba_length]
  omega

set_option maxHeartbeats 4000000 in
set_option maxRecDepth 100000 in
theorem add_any {w : World} {base mb mm K : Nat} {lw : ByteArray} {xo xs : List (Value × DSt)} {vo vs : Value} {g : List UInt8 → Nat} {e : Ent} (h : Mk w base mb lw xo xs vo vs mm g) (hn : xo.length = lw.size + 1) (hlw : lw.size ≤ 255) (hew : e.word.size ≤ 255) (hwt : e.weight < 4294967296) (hs : xs.length ≤ 90000)
    (hne : ∀ y ∈ xo.dropLast, y.2.arcs ≠ []) (hK : ∀ y ∈ xo, y.2.arcs.length ≤ K) (hK9 : K ≤ 299) :
    Calls Try.prog 70 #[.pointer (some ⟨mb, 0, none⟩), .agg #[.string e.word, .int .u32 (e.weight : Int), .bool e.gone]] w fun e' w' => e' = .returned (.tuple #[]) ∧ Added w base mb mm lw xo xs e K w' := by
  have HM := Lib.hid h
  have HS0 := Lib.hid (And.intro hne hK)
  clear h hne hK
  obtain ⟨w0, hw0⟩ : ∃ w0, w0 = w.alloc (.cells #[.string e.word, .int .u32 (e.weight : Int), .bool e.gone] 33) := ⟨_, rfl⟩
  have hb0 : Below w.heap.size w w0 := by rw [hw0]; exact below_alloc w _
  have hbx : w0.heap[w.heap.size]? = some (.cells #[.string e.word, .int .u32 (e.weight : Int), .bool e.gone] 33 (0, 0)) := by rw [hw0]; exact heap_alloc_new w _
  have HM0 := Lib.hid (HM.out.below hb0)
  have k0 := HM0.out.blk.at0
  have b0 : w0.cell? ⟨w.heap.size, 0, none⟩ = some (.string e.word) := by rw [cell_of_row w0 _ 0 _ _ _ hbx]; rfl
  have HBX := Lib.hid hbx
  have HB0 := Lib.hid hb0
  clear hb0 hbx
  have gk := fun d os => cell_regrown k0 d os
  have gb := fun d os => cell_regrown b0 d os
  go_enter Try.func70, Try.ntmps70
  go_upto_region 1 with fail
  rw [← hw0]
  clear hw0
  refine wp_region_quiet_below (by kernel_rfl) (by kernel_rfl) ?_
  repeat (go_big_quiet_step ((go_at_call 96; exact Calls.regrown_of (shared_any _ _ _ (by omega) (by omega)))))
  refine wpQuiet_nil ?_
  intro _ hw'
  obtain ⟨⟨dq, osq⟩, hw''⟩ := hw'
  subst hw''
  have HB1 : Hid (Below w0.heap.size w0 (Sort.grow (redrawn w0 dq) osq)) := Lib.hid (below_regrown w0 dq osq)
  generalize Sort.grow (redrawn w0 dq) osq = w1 at HB1 ⊢
  clear gk gb k0 b0
  have HM1 := Lib.hid (HM0.out.below HB1.out)
  obtain ⟨d, hd⟩ : ∃ d, d = sharedT lw e.word := ⟨_, rfl⟩
  have hd1 : d ≤ lw.size ∧ d ≤ e.word.size := by rw [hd]; exact ⟨sharedT_le_left _ _, sharedT_le_right _ _⟩
  rw [← hd]
  have HD := Lib.hid hd
  clear hd
  have QS := Lib.hid (shut_any (d := d) (K := K) HM1.out (by omega) (by omega) (by omega) HS0.out.1 HS0.out.2)
  go_wp2_with (go_at_call 97
               (with_reducible refine QS.out.mono ?_)
               go_loud (
               rintro e' w2 ⟨rfl, h2⟩
               obtain ⟨xo2, xs2, vo2, vs2, g2, hm2, hl2, hx2, he2, hn2, hk2, hb2, ht2⟩ := h2
               have HX2 : Hid (w2.heap[w.heap.size]? = some (.cells #[.string e.word, .int .u32 (e.weight : Int), .bool e.gone] 33 (0, 0))) := Lib.hid (ht2 _ _ ((HB1.out.block _ (Array.getElem?_eq_some_iff.1 HBX.out).1).trans HBX.out) ⟨_, _, _, rfl, .inr (.inl rfl)⟩)
               have b2 : w2.cell? ⟨w.heap.size, 0, none⟩ = some (.string e.word) := by rw [cell_of_row w2 _ 0 _ _ _ HX2.out]; rfl
               have HB2 := Lib.hid hb2
               have HT2 := Lib.hid ht2
               have HE2 := Lib.hid (And.intro he2 (And.intro hn2 hk2))
               have HM2 := Lib.hid hm2
               obtain ⟨tl, htl⟩ : ∃ tl, tl = e.word.extract d e.word.size := ⟨_, rfl⟩
               have hbs : tl.data.toList = e.word.data.toList.drop d := by rw [htl]; exact extract_drop _ _
               have hts : tl.size = e.word.size - d := by rw [← ba_length, hbs, List.length_drop, ba_length]
               have HTL := Lib.hid htl
               have HBS := Lib.hid hbs
               have hconv := Lib.run_convert_string_bytes (P := Try.prog) w2 9 58 5 tl Try.underlying9 Try.underlying58 Try.underlying5
               rw [htl] at hconv
               have HTS := Lib.hid hts
               clear hm2 he2 hn2 hk2 hb2 ht2 htl hbs hts))
  rw [← HTL.out]
  obtain ⟨c3, hc3⟩ : ∃ c3, c3 = grownCap w2 tl.size 0 5 := ⟨_, rfl⟩
  obtain ⟨w3, hw3⟩ : ∃ w3, w3 = Lib.bytesWorld w2 5 tl := ⟨_, rfl⟩
  rw [← HTS.out, ← hc3, ← hw3]
  have HT3 : Hid (KeepT w2 w3 ∧ Below w2.heap.size w2 w3) := Lib.hid (by
    have hb : Below w2.heap.size w2 w3 := by rw [hw3]; exact below_conv w2 tl
    exact ⟨KeepT.below hb, hb⟩)
  have hrow3 : w3.heap[w2.heap.size]? = some (.cells (Lib.bytesCells w2 5 tl) 5 ((Lib.bytesCells w2 5 tl).size, (Lib.bytesCells w2 5 tl).size + 1)) := by rw [hw3]; exact Lib.bytesWorld_at_new w2 _ tl
  have HROW : Hid (∀ wr k, KeepT w3 wr → (h : k < tl.size) → wr.cell? ⟨w2.heap.size, k, none⟩ = some (.int .u8 ((tl.data.toList[k]'(by rw [ba_length]; exact h)).toNat : Int))) := Lib.hid fun wr k hk h => by
    have h1 := hk _ _ hrow3 ⟨_, _, _, rfl, .inl rfl⟩
    rw [World.cell?_of_block (w := w3) (a := ⟨w2.heap.size, k, none⟩) (h1.trans hrow3.symm), hw3, Lib.bytesWorld_cell w2 _ tl k h]
    simp [List.getD, h]
  obtain ⟨A2, x2, hA2⟩ : ∃ A2 x2, xo2 = A2 ++ [x2] := by
    rcases List.eq_nil_or_concat xo2 with rfl | ⟨A2, x2, h⟩
    · simp at hl2
    · exact ⟨A2, x2, by rw [h]; simp⟩
  have HM3 := Lib.hid (HM2.out.below HT3.out.2)
  have HG0 : Hid (Growing lw (mkO lw xo2 xs2) tl.data.toList (d + 1) K 0 A2 x2 xs2) := Lib.hid (by
    have := Growing.start (lw := lw) (xs := xs2) (bs := tl.data.toList) (K := K) hA2 HE2.out.2.1 HE2.out.2.2
    rwa [hl2] at this)
  have htz : tl.size ≤ 255 := by have := HTS.out; omega
  clear hrow3 hconv hc3 hw3
  go_loopw [25] (fun s25 wr => ∃ (k : Nat) (A : List (Value × DSt)) (vt : Value) (st : DSt) (vo' : Value), k ≤ tl.size ∧ s25 = .int .i64 k ∧ Hid (Mk wr base mb lw (A ++ [(vt, st)]) xs2 vo' vs2 mm g2 ∧ Growing lw (mkO lw xo2 xs2) tl.data.toList (d + 1) K k A (vt, st) xs2 ∧ Below base w3 wr ∧ KeepT w3 wr)) (fun s25 _ => tl.size - (intOf s25).toNat)
  case atStart => exact ⟨0, A2, x2.1, x2.2, vo2, Nat.zero_le _, rfl, Lib.hid ⟨by rw [← hA2]; exact HM3.out, HG0.out, Below.refl _ _, KeepT.refl _⟩⟩
  case round =>
    obtain ⟨k, A, vt, st, vo', hk, rfl, HR⟩ := hrel
    have hAl : A.length ≤ 600 := by have := HR.out.2.1.2.1; have := HTS.out; omega
    obtain ⟨gO, cO, hvo, hcO, -⟩ := HR.out.1.opn.last
    subst hvo
    obtain ⟨adt, ct, rfl⟩ := ARow.form (show ARow wr base vt st.arcs from HR.out.1.arcs (vt, st) (by simp))
    by_cases hlt : k < tl.size
    · have HK1 : Hid (k + 1 ≤ tl.size ∧ tl.size - (k + 1) < tl.size - k) := Lib.hid (by omega)
      have e0 : decide ((k : Int) < (tl.size : Int)) = true := by simp; omega
      have i1 : (k : Int) < (tl.size : Int) := by omega
      have c1 := HROW.out wr k HR.out.2.2.2 hlt
      have hkl : k < tl.data.toList.length := by rw [ba_length]; exact hlt
      obtain ⟨b, hb⟩ : ∃ b, b = tl.data.toList[k] := ⟨_, rfl⟩
      rw [← hb] at c1
      have HB := Lib.hid hb
      clear hb
      have HT : Hid (Calls Try.prog 98 #[.pointer (some ⟨mb, 0, none⟩)] wr fun e w' => e = .returned (.pointer (some ⟨gO, A.length * 3, none⟩)) ∧ Below wr.heap.size wr w') := Lib.hid (top_any HR.out.1.blk (by omega))
      go_wp2_with (first
                   | (go_at_call 98
                      (with_reducible refine HT.out.mono ?_)
                      go_loud (
                      rintro e' w4 ⟨rfl, hb4⟩
                      have HM4 := Lib.hid (HR.out.1.below hb4)
                      obtain ⟨g9, c9, hv9, -, h91, h92, q1, -, -, q2⟩ := HM4.out.opn.last
                      cases hv9
                      have q2 := q2 (A.length * 3)
                      have HQ4 := Lib.hid (And.intro h91 (And.intro h92 (And.intro q1 (And.intro q2 hb4))))
                      have HAR4 : Hid (ARow w4 base (.slice adt st.arcs.length ct) st.arcs) := Lib.hid (HM4.out.arcs (.slice adt st.arcs.length ct, st) (by simp))
                      have HT4 := Lib.hid (HM4.out.types)
                      clear h91 h92 hb4))
                   | (at_builtin
                      refine wpList_append_row (w2 := w4) (vs := .slice adt st.arcs.length ct) rfl (.tmp 35) (.tmp 38) rfl rfl Try.underlying89 iArc rfl (by decide) base gO (A.length * 3) (.slice adt st.arcs.length ct) st.arcs.length (arcsC st.arcs) [.int .u8 (b.toNat : Int), .int .u64 0, .int .i64 0] w4.heap.size rfl rfl (heap_alloc_new w4 _) (below_alloc w4 _) HAR4.out (by have := HR.out.2.1.2.2.2; simp at this; omega) HM4.out.low.2.2 rfl (by intro u hu; simp at hu; rcases hu with rfl | rfl | rfl <;> rfl) (fun e => (HT4.out.2.2.1 _ (List.mem_append_left _ (List.mem_append_right _ (List.mem_singleton.2 rfl))) _ e).2.2.1 rfl) HQ4.out.2.2.1 HQ4.out.2.2.2.1 HQ4.out.2.1 ?_
                      intro a5 n5 c5 w5 hA5 r1 r2
                      go_loud (
                      obtain ⟨hm6, hb6, ht6⟩ := HM4.out.setRow (w3 := w5) (v := .slice a5 n5 c5) (l := st.arcs ++ [(⟨b.toNat, 0, 0⟩ : DArc)]) (by rw [List.length_append, List.length_singleton, arcsC_snoc]; exact hA5) (by have := HR.out.2.1.2.2.2; simp at this ⊢; omega) (by
                        intro z hz
                        rcases List.mem_append.1 hz with hz | hz
                        · exact (HM4.out.ok (.slice adt st.arcs.length ct, st) (by simp)).1.1 z hz
                        · rw [List.mem_singleton.1 hz]; exact ⟨b.toNat_lt, by show (0 : Nat) < _; omega, by show _ ≤ (0 : Int); omega, by show (0 : Int) < _; omega⟩)
                      have HM6 := Lib.hid hm6
                      have HB6 := Lib.hid (hb6.trans (Below.refl _ _))
                      have HT6 := Lib.hid ht6
                      have k6 := hm6.blk.at1
                      clear hm6 hb6 ht6 hA5))
                   | (at_builtin
                      go_loud (
                      refine wpList_append_row (w2 := w5.setCell ⟨gO, A.length * 3, none⟩ (.slice a5 n5 c5)) (vs := .slice (some ⟨gO, 0, none⟩) (A.length + 1) cO) rfl (.tmp 46) (.tmp 48) rfl rfl Try.underlying62 iState rfl (by decide) base mb 1 (.slice (some ⟨gO, 0, none⟩) (A.length + 1) cO) (A ++ [((.slice a5 n5 c5, ⟨st.arcs ++ [(⟨b.toNat, 0, 0⟩ : DArc)], st.fin, st.out⟩) : Value × DSt)]).length (stsC (A ++ [((.slice a5 n5 c5, ⟨st.arcs ++ [(⟨b.toNat, 0, 0⟩ : DArc)], st.fin, st.out⟩) : Value × DSt)])) [.slice none 0 0, .bool false, .int .u64 0] w5.heap.size rfl (by first | rfl | simp [Act.eval]) (by
                        have h9 := heap_alloc_new (w5.setCell ⟨gO, A.length * 3, none⟩ (.slice a5 n5 c5)) (.cells #[.slice none 0 0, .bool false, .int .u64 0] 91)
                        have e9 : (w5.setCell ⟨gO, A.length * 3, none⟩ (.slice a5 n5 c5)).heap.size = w5.heap.size := by simp [World.setCell]
                        rw [e9] at h9
                        exact h9) (below_alloc _ _) HM6.out.opn (by simp; omega) HM6.out.low.2.2 rfl (by intro u hu; simp at hu; rcases hu with rfl | rfl | rfl <;> rfl) (fun e => (HM6.out.types.1 mb e).1 rfl) HM6.out.blk.at1 (HM6.out.blk.free 1) HM6.out.blk.lt ?_)
                      intro a7 n7 c7 w7 hA7 r3 r4
                      go_loud (
                      obtain ⟨hm8, hb8, ht8⟩ := HM6.out.addOpen hA7
                      have HM8 := Lib.hid hm8
                      have HB8 := Lib.hid (HB6.out.trans hb8)
                      have HT8 := Lib.hid (HT6.out.trans ht8)
                      clear hm8 hb8 ht8 hA7)))
      refine ⟨⟨k + 1, A ++ [(.slice a5 n5 c5, ⟨st.arcs ++ [(⟨b.toNat, 0, 0⟩ : DArc)], st.fin, st.out⟩)], .slice none 0 0, ⟨[], false, 0⟩, .slice a7 n7 c7, HK1.out.1, by go_num, Lib.hid ⟨HM8.out, ?_, HR.out.2.2.1.trans ((HQ4.out.2.2.2.2.mono HR.out.1.low.2.2).trans HB8.out), HR.out.2.2.2.trans ((KeepT.below HQ4.out.2.2.2.2).trans HT8.out)⟩⟩, by simp [intOf]; omega⟩
      rw [HB.out]
      exact HR.out.2.1.step hkl
    · have e0 : decide ((k : Int) < (tl.size : Int)) = false := by simp; omega
      have hke : k = tl.size := by omega
      subst hke
      have HXR : Hid (wr.heap[w.heap.size]? = some (.cells #[.string e.word, .int .u32 (e.weight : Int), .bool e.gone] 33 (0, 0))) := Lib.hid (HR.out.2.2.2 _ _ (HT3.out.1 _ _ HX2.out ⟨_, _, _, rfl, .inr (.inl rfl)⟩) ⟨_, _, _, rfl, .inr (.inl rfl)⟩)
      have HT : Hid (Calls Try.prog 98 #[.pointer (some ⟨mb, 0, none⟩)] wr fun e w' => e = .returned (.pointer (some ⟨gO, A.length * 3, none⟩)) ∧ Below wr.heap.size wr w') := Lib.hid (top_any HR.out.1.blk (by omega))
      go_wp2_with (first
                   | (go_at_call 98
                      (with_reducible refine HT.out.mono ?_)
                      go_loud (
                      rintro e' w4 ⟨rfl, hb4⟩
                      have HM4 := Lib.hid (HR.out.1.below hb4)
                      have HX4 : Hid (w4.heap[w.heap.size]? = some (.cells #[.string e.word, .int .u32 (e.weight : Int), .bool e.gone] 33 (0, 0))) := Lib.hid ((hb4.block _ (Array.getElem?_eq_some_iff.1 HXR.out).1).trans HXR.out)
                      obtain ⟨b0, b1, b2⟩ : w4.cell? ⟨w.heap.size, 0, none⟩ = some (.string e.word) ∧ w4.cell? ⟨w.heap.size, 1, none⟩ = some (.int .u32 (e.weight : Int)) ∧ w4.cell? ⟨w.heap.size, 2, none⟩ = some (.bool e.gone) := ⟨by rw [cell_of_row w4 _ 0 _ _ _ HX4.out]; rfl, by rw [cell_of_row w4 _ 1 _ _ _ HX4.out]; rfl, by rw [cell_of_row w4 _ 2 _ _ _ HX4.out]; rfl⟩
                      have HB4 := Lib.hid hb4
                      clear hb4))
                   | (go_at_call 99
                      (with_reducible refine (value_ent e _ hwt).mono ?_)
                      go_loud (
                      rintro e' w5 ⟨rfl, hb5⟩
                      have HM5 := Lib.hid (HM4.out.below hb5)
                      obtain ⟨g9, c9, hv9, -, -, -, -, q1, -, qf⟩ := HM5.out.opn.last
                      cases hv9
                      have q2 := qf (A.length * 3 + 1)
                      obtain ⟨hm6, hb6, ht6⟩ := HM5.out.setTop (j := 1) (u := .bool true) (st' := ⟨st.arcs, true, st.out⟩) (by decide) rfl rfl (HM5.out.ok (.slice adt st.arcs.length ct, st) (by simp)).1.2
                      obtain ⟨g9, c9, hv9, -, -, -, -, -, q3, qf'⟩ := hm6.opn.last
                      cases hv9
                      have q4 := qf' (A.length * 3 + 2)
                      obtain ⟨hm7, hb7, ht7⟩ := hm6.setTop (j := 2) (u := .int .u64 (valT e : Int)) (st' := ⟨st.arcs, true, valT e⟩) (by decide) rfl rfl (by show valT e < _; unfold valT; split <;> omega)
                      have q5 := hm7.blk.at0
                      have q6 := hm7.blk.free 0
                      have ht57 := (KeepT.below hb5).trans (ht6.trans ht7)
                      have q7 : ((w5.setCell ⟨gO, A.length * 3 + 1, none⟩ (.bool true)).setCell ⟨gO, A.length * 3 + 2, none⟩ (.int .u64 (valT e : Int))).cell? ⟨w.heap.size, 0, none⟩ = some (.string e.word) := by
                        have := ht57 _ _ HX4.out ⟨_, _, _, rfl, .inr (.inl rfl)⟩
                        rw [cell_of_row _ _ 0 _ _ _ this]; rfl
                      obtain ⟨hm8, hb8, ht8⟩ := hm7.setWord (lw' := e.word)
                      have HM8 := Lib.hid hm8
                      have HB8 := Lib.hid ((hb5.mono HM4.out.low.2.2).trans (hb6.trans (hb7.trans hb8)))
                      have HT8 := Lib.hid (ht57.trans ht8)
                      clear hb5 qf qf' hm6 hb6 ht6 hm7 hb7 ht7 hm8 hb8 ht8 ht57)))
      go_end0
      have hgr := HR.out.2.1
      rw [HBS.out, HE2.out.1, HTS.out] at hgr
      refine ⟨rfl, hgr.done HD.out hd1.2 rfl (by omega) HM8.out ?_ ?_⟩
      · exact (HB0.out.mono HM.out.low.2.2).trans ((HB1.out.mono HM0.out.low.2.2).trans (HB2.out.trans ((HT3.out.2.mono HM2.out.low.2.2).trans (HR.out.2.2.1.trans ((HB4.out.mono HR.out.1.low.2.2).trans HB8.out)))))
      · exact (KeepT.below HB0.out).trans ((KeepT.below HB1.out).trans (HT2.out.trans (HT3.out.1.trans (HR.out.2.2.2.trans ((KeepT.below HB4.out).trans HT8.out)))))
end Go.Proofs.Ytmfchlbafpkgaaa
namespace Go.Proofs.Ytmfchlbafpkgaaa
open Go.RowKit Go.Shelf

def stAt (l : List DSt) (i : Nat) : DSt := l.getD i default
theorem stAt_lt {l : List DSt} {i : Nat} (h : i < l.length) : stAt l i = l[i] := by simp [stAt, List.getD, h]

theorem Arcs.below {w w' : World} {v : Value} {l : List DArc} (h : Arcs w v l) (hb : Below w.heap.size w w') : Arcs w' v l := by
  obtain ⟨ad, c, hv, hc⟩ := h
  refine ⟨ad, c, hv, fun i hi => ?_⟩
  obtain ⟨b, o, ha, hE⟩ := hc i hi
  exact ⟨b, o, ha, hE.kept (hb.block b hE.lt)⟩

/-- A state lies there. -/
def StIn (w : World) (b o : Nat) (s : DSt) : Prop :=
  ∃ v, w.cell? ⟨b, o, none⟩ = some v ∧ w.cell? ⟨b, o + 1, none⟩ = some (.bool s.fin) ∧ w.cell? ⟨b, o + 2, none⟩ = some (.int .u64 (s.out : Int)) ∧ Arcs w v s.arcs
theorem StIn.below {w w' : World} {b o : Nat} {s : DSt} (h : StIn w b o s) (hb : Below w.heap.size w w') : StIn w' b o s := by
  obtain ⟨v, h1, h2, h3, h4⟩ := h
  have hs := hb.block b (block_lt_of_cell h1)
  exact ⟨v, (cell_same hs).trans h1, (cell_same hs).trans h2, (cell_same hs).trans h3, h4.below hb⟩
/-- v is a slice that holds these states. -/
def Sts (w : World) (v : Value) (l : List DSt) : Prop :=
  ∃ ad c, v = .slice ad l.length c ∧ ∀ i, i < l.length → ∃ b o, ad = some ⟨b, o, none⟩ ∧ StIn w b (o + i * 3) (stAt l i)
theorem Sts.below {w w' : World} {v : Value} {l : List DSt} (h : Sts w v l) (hb : Below w.heap.size w w') : Sts w' v l := by
  obtain ⟨ad, c, hv, hc⟩ := h
  refine ⟨ad, c, hv, fun i hi => ?_⟩
  obtain ⟨b, o, ha, hE⟩ := hc i hi
  exact ⟨b, o, ha, hE.below hb⟩

/-- How many arcs. -/
def arcsN (l : List DSt) : Nat := (l.map fun s => s.arcs.length).sum
theorem arcsN_take {l : List DSt} {k : Nat} (h : k < l.length) : arcsN (l.take (k + 1)) = arcsN (l.take k) + (stAt l k).arcs.length := by
  unfold arcsN
  rw [List.take_add_one, List.getElem?_eq_getElem h, stAt_lt h, Option.toList_some, List.map_append, List.sum_append]
  simp
theorem arcsN_le {l : List DSt} {M : Nat} (h : ∀ s ∈ l, s.arcs.length ≤ M) : arcsN l ≤ l.length * M := by
  unfold arcsN
  induction l with
  | nil => simp
  | cons x l ih =>
    have h1 := h x (List.mem_cons_self ..)
    have h2 := ih fun s hs => h s (List.mem_cons_of_mem _ hs)
    rw [List.map_cons, List.sum_cons, List.length_cons, Nat.add_mul]
    omega

set_option maxHeartbeats 2000000 in
set_option maxRecDepth 100000 in
theorem size_any' {w : World} {v : Value} {l : List DSt} {init : Nat} (h : Sts w v l) (hl : l.length ≤ 100000) (ha : ∀ s ∈ l, s.arcs.length ≤ 100000) :
    Calls Try.prog 40 #[.agg #[v, .int .u64 (init : Int)]] w fun e w' => e = .returned (.tuple #[.int .i64 (l.length : Int), .int .i64 (arcsN l : Int)]) ∧ Below w.heap.size w w' := by
  obtain ⟨ad, c, rfl, hc⟩ := h
  have HC : Hid (∀ W, Below w.heap.size w W → ∀ i, i < l.length → ∃ b o, ad = some ⟨b, o, none⟩ ∧ StIn W b (o + i * 3) (stAt l i)) := Lib.hid fun W hb i hi => by
    obtain ⟨b, o, e, hE⟩ := hc i hi
    exact ⟨b, o, e, hE.below hb⟩
  have HB0 := Lib.hid (below_alloc w (.cells #[.slice ad l.length c, .int .u64 (init : Int)] 65))
  have HX : Hid (∀ W, Below (w.heap.size + 1) (w.alloc (.cells #[.slice ad l.length c, .int .u64 (init : Int)] 65)) W → W.cell? ⟨w.heap.size, 0, none⟩ = some (.slice ad l.length c)) := Lib.hid fun W hb => by
    have h1 : W.heap[w.heap.size]? = _ := (hb.block _ (by omega)).trans (heap_alloc_new w _)
    rw [cell_of_row W _ 0 _ _ _ h1]; rfl
  have HA := Lib.hid ha
  have HBN : Hid (∀ k, arcsN (l.take k) ≤ 10000000000) := Lib.hid fun k => by
    have := arcsN_le (l := l.take k) (M := 100000) fun s hs => ha s (List.mem_of_mem_take hs)
    rw [List.length_take] at this
    omega
  clear hc ha
  go_enter Try.func40, Try.ntmps40
  go_wp2
  go_loopw [9, 3] (fun s9 s3 wr => ∃ k : Nat, k ≤ l.length ∧ s9 = .int .i64 k ∧ s3 = .int .i64 (arcsN (l.take k) : Nat) ∧ Hid (Below (w.heap.size + 1) (w.alloc (.cells #[.slice ad l.length c, .int .u64 (init : Int)] 65)) wr)) (fun s9 _ _ => l.length - (intOf s9).toNat)
  case atStart => exact ⟨0, Nat.zero_le _, rfl, rfl, Lib.hid (Below.refl _ _)⟩
  case round =>
    obtain ⟨k, hk, rfl, rfl, HR⟩ := hrel
    have kx := HX.out wr HR.out
    have hzz : w.heap.size + 1 ≤ wr.heap.size := by have := HR.out.size; simpa using this
    by_cases hlt : k < l.length
    · obtain ⟨b, o, rfl, vx, h1, h2, h3, ad2, c2, rfl, -⟩ := HC.out wr (HB0.out.trans (HR.out.mono (by omega))) k hlt
      have e1 : IntKind.i64.wrap (((arcsN (l.take k) : Nat) : Int) + ((stAt l k).arcs.length : Int)) = ((arcsN (l.take (k + 1)) : Nat) : Int) := by
        have h9 := HBN.out (k + 1)
        rw [arcsN_take hlt] at h9 ⊢
        rw [IntWalk.i64_in _ (by omega)]
        omega
      have HN := Lib.hid (HR.out.alloc hzz (.cells #[.slice ad2 (stAt l k).arcs.length c2, .bool (stAt l k).fin, .int .u64 ((stAt l k).out : Int)] 91))
      have HE := Lib.hid e1
      clear kx
      go_wp2
      refine ⟨⟨k + 1, by omega, by go_num, ?_, HN⟩, by simp [intOf]; omega⟩
      first | rfl | (rw [HE.out]; rfl)
    · obtain rfl : k = l.length := by omega
      have HN := Lib.hid (HB0.out.trans (HR.out.mono (by omega)))
      go_wp2
      go_ret2
      refine ⟨?_, HN.out⟩
      rw [List.take_length]
      rfl

theorem key_len {s : DSt} (h : s.arcs.length ≤ 100000) : s.key.length ≤ 1000000000 := by
  rw [← keyTo_all]
  have := keyTo_len s s.arcs.length h
  omega

/-- The keys that stand there. -/
def keysT (l : List DSt) : List (List UInt8) := l.foldl (fun K s => addK K s.key) []
/-- Are no two states alike? -/
def unlikeT (l : List DSt) : Bool := decide ((keysT l).length = l.length)
theorem keysT_take {l : List DSt} {k : Nat} (h : k < l.length) : keysT (l.take (k + 1)) = addK (keysT (l.take k)) (stAt l k).key := by
  unfold keysT
  rw [List.take_add_one, List.getElem?_eq_getElem h, stAt_lt h, Option.toList_some, List.foldl_append]
  rfl

set_option maxHeartbeats 4000000 in
set_option maxRecDepth 100000 in
theorem unlike_any {w : World} {v : Value} {l : List DSt} (h : Sts w v l) (hl : l.length ≤ 100000) (ha : ∀ s ∈ l, s.arcs.length ≤ 100000) (ho : ∀ s ∈ l, s.ok) :
    Calls Try.prog 79 #[v] w fun e w' => e = .returned (.bool (unlikeT l)) ∧ Below w.heap.size w w' := by
  obtain ⟨ad, c, rfl, hc⟩ := h
  have HC : Hid (∀ W, Below w.heap.size w W → ∀ i, i < l.length → ∃ b o, ad = some ⟨b, o, none⟩ ∧ StIn W b (o + i * 3) (stAt l i)) := Lib.hid fun W hb i hi => by
    obtain ⟨b, o, e, hE⟩ := hc i hi
    exact ⟨b, o, e, hE.below hb⟩
  have HA := Lib.hid (And.intro ha ho)
  clear hc ha ho
  have hmk : (Instr.makeMap 120 (some (.int .i64 (l.length : Int)))).run Try.prog w = .ok (.map (some w.heap.size)) (w.alloc (.map #[] 0)) := by
    have hle : (l.length : Int) ≤ 100000 := by omega
    have h0 : ¬ ((l.length : Int) < 0) := by omega
    unfold Instr.makeMap
    simp [go_sem]
  go_enter Try.func79, Try.ntmps79
  go_wp2
  go_loopw [11] (fun s11 wr => ∃ k : Nat, k ≤ l.length ∧ s11 = .int .i64 k ∧ Hid ((∃ g, KMap wr w.heap.size k (keysT (l.take k)) g) ∧ Below w.heap.size w wr)) (fun s11 _ => l.length - (intOf s11).toNat)
  case atStart => exact ⟨0, Nat.zero_le _, rfl, Lib.hid ⟨⟨fun _ => 0, kmap_made w _⟩, (Below.refl _ w).alloc (Nat.le_refl _) _⟩⟩
  case round =>
    obtain ⟨k, hk, rfl, HR⟩ := hrel
    obtain ⟨⟨g, hg⟩, hbw⟩ := HR.out
    have HG := Lib.hid (And.intro hg hbw)
    have hlen := hg.len 3
    clear hg hbw
    by_cases hlt : k < l.length
    · obtain ⟨b, o, rfl, vx, h1, h2, h3, h4⟩ := HC.out wr HG.out.2 k hlt
      have hmem : stAt l k ∈ l := by rw [stAt_lt hlt]; exact List.getElem_mem hlt
      obtain ⟨ad2, c2, rfl, -⟩ := id h4
      have hb2 := below_alloc wr (.cells #[.slice ad2 (stAt l k).arcs.length c2, .bool (stAt l k).fin, .int .u64 ((stAt l k).out : Int)] 91)
      have Q := Lib.hid (key_any (w := wr.alloc (.cells #[.slice ad2 (stAt l k).arcs.length c2, .bool (stAt l k).fin, .int .u64 ((stAt l k).out : Int)] 91)) (h4.below hb2) (HA.out.2 _ hmem) (HA.out.1 _ hmem))
      have HB2 := Lib.hid hb2
      clear h4 hb2 hlen
      go_wp2_with (first
        | (go_at_call 106; (with_reducible refine Q.out.mono ?_); rintro e' w5 ⟨rfl, g1⟩; have H5 := Lib.hid (HB2.out.trans (g1.mono HB2.out.size)); clear g1)
        | (refine wpList_put_key _ rfl _ _ _ rfl w.heap.size k (keysT (l.take k)) g (stAt l k).key k rfl rfl rfl (HG.out.1.same (H5.out.block _ HG.out.1.lt)) (by omega) (key_len (HA.out.1 _ hmem)) (by omega) (fun w6 hk6 hg6 => ?_); have H6 := Lib.hid (And.intro hk6 hg6); clear hk6 hg6))
      refine ⟨⟨k + 1, by omega, by go_num, Lib.hid ⟨⟨_, by rw [keysT_take hlt]; exact H6.out.1⟩, ?_⟩⟩, by simp [intOf]; omega⟩
      have hz := HG.out.2.size
      have hz5 := H5.out.size
      exact (HG.out.2.trans (H5.out.mono hz)).grown H6.out.2 (by omega) (fun r hr => by cases hr; exact Nat.le_refl _)
    · obtain rfl : k = l.length := by omega
      have HN := Lib.hid HG.out.2
      have HU : Hid ((((keysT l).length : Int) == (l.length : Int)) = unlikeT l) := Lib.hid (by
        unfold unlikeT
        rw [Bool.eq_iff_iff]
        simp
        omega)
      rw [List.take_length] at hlen
      go_wp2
      go_ret
      refine ⟨?_, HN.out⟩
      rw [← HU.out]
      rfl

end Go.Proofs.Ytmfchlbafpkgaaa
namespace Go.Proofs.Ytmfchlbafpkgaaa
open Go.RowKit Go.Shelf

/-- What the whole leaves: a row of states of its own. -/
def Wholed (w : World) (base : Nat) (m : DMak) (e : Ending) (w' : World) : Prop :=
  ∃ vs xs, e = .returned (.agg #[vs, .int .u64 (m.whole.2 : Int)]) ∧ SRow w' base vs xs ∧ xs.map (·.2) = m.whole.1 ∧ (∀ x ∈ xs, ARow w' base x.1 x.2.arcs) ∧ (∀ x ∈ xs, x.2.ok ∧ x.2.arcs.length ≤ 300) ∧ xs.length ≤ 100000 ∧ Below base w w'

/-- A state numbered, of which one row may still be open. -/
def RootNum (w : World) (base mb mm : Nat) (lw : ByteArray) (vo v : Value) (xs : List (Value × DSt)) (s : DSt) (e : Ending) (w' : World) : Prop :=
  (∃ n : Int, e = .returned (.int .i64 n)) ∧ ∃ xs' vs', MakB w' mb lw vo vs' mm ∧ SRow w' base vs' xs' ∧ xs'.map (·.2) = numsT (xs.map (·.2)) s ∧ (∀ x ∈ xs', ARow w' base x.1 x.2.arcs) ∧ (∀ x ∈ xs', x ∈ xs ∨ x = (v, s)) ∧ Below base w w' ∧ KeepT w w'

theorem root_number {w : World} {base mb mm : Nat} {lw : ByteArray} {xs : List (Value × DSt)} {vo vs v : Value} {g : List UInt8 → Nat} {s : DSt} (blk : MakB w mb lw vo vs mm) (keys : KMap w mm xs.length (xs.map fun x => x.2.key) g) (sts : SRow w base vs xs) (arcs : ∀ x ∈ xs, ARow w base x.1 x.2.arcs)
    (low : base ≤ mb ∧ base ≤ mm ∧ base ≤ w.heap.size) (hv : ARow w base v s.arcs) (ho : s.ok) (hl : s.arcs.length ≤ 300) (hn : xs.length ≤ 100000) :
    Calls Try.prog 101 #[.pointer (some ⟨mb, 0, none⟩), .agg #[v, .bool s.fin, .int .u64 (s.out : Int)]] w (RootNum w base mb mm lw vo v xs s) := by
  have hm2 : xs.map (fun x => x.2.key) = (xs.map (·.2)).map DSt.key := by rw [List.map_map]; rfl
  have tyrow : ∀ u l, ARow w base u l → ∀ b, u.ownBlock = some b → b ≠ mb ∧ b ≠ mm ∧ vs.ownBlock ≠ some b := fun u l hu b hb => by
    obtain ⟨_, cs, fz, hc⟩ := owns_cells hu b hb
    obtain ⟨D, ⟨es, clock, hmm, _⟩, _⟩ := id keys
    have hmb := blk
    unfold MakB at hmb
    refine ⟨fun e => ?_, fun e => ?_, fun e => ?_⟩
    · rw [e, hmb] at hc; cases hc
    · rw [e, hmm] at hc; cases hc
    · obtain ⟨_, cs', fz', hc'⟩ := owns_cells sts b e
      rw [hc'] at hc; cases hc
  by_cases hk : s.key ∈ xs.map fun x => x.2.key
  · refine (number_known blk keys hv.arcs ho (by omega) hk).mono ?_
    rintro e w' ⟨rfl, hb⟩
    rw [hm2] at hk
    obtain ⟨i, hi, e1, e2⟩ := keyAt_mem hk
    refine ⟨⟨_, rfl⟩, xs, vs, (hb.block mb blk.lt).trans blk, owns_same sts fun b hbb => hb.block b (sts.lt b hbb).2, by unfold numsT; rw [e1]; rfl, fun x hx => owns_same (arcs x hx) fun b hbb => hb.block b ((arcs x hx).lt b hbb).2, fun x hx => .inl hx, hb.mono low.2.2, KeepT.below hb⟩
  · refine (number_new blk keys sts hn hn hv.arcs ho (by omega) hk low.2.2).mono ?_
    rintro e w' ⟨rfl, ⟨vs', h1, h2, h3⟩, h4, h5⟩
    have kpt : ∀ b, b < w.heap.size → b ≠ mb → b ≠ mm → vs.ownBlock ≠ some b → w'.heap[b]? = w.heap[b]? := fun b hb n1 n2 n3 => h5.block b hb (fun e => e.elim n1 fun e => e.elim n2 n3)
    have keepA : ∀ u l, ARow w base u l → ARow w' base u l := fun u l hu => owns_same hu fun b hb => kpt b (hu.lt b hb).2 (tyrow u l hu b hb).1 (tyrow u l hu b hb).2.1 (tyrow u l hu b hb).2.2
    rw [hm2] at hk
    have hno := keyAt_not hk
    refine ⟨⟨_, rfl⟩, xs ++ [(v, s)], vs', h1, h2, by unfold numsT; rw [hno]; simp, fun x hx => ?_, fun x hx => ?_, h5.to low.2.2 fun b hb => ?_, KeepT.kp h5 fun b hb o ho => ?_⟩
    · rcases List.mem_append.1 hx with hx | hx
      · exact keepA _ _ (arcs x hx)
      · rw [List.mem_singleton.1 hx]; exact keepA _ _ hv
    · rcases List.mem_append.1 hx with hx | hx
      · exact .inl hx
      · exact .inr (List.mem_singleton.1 hx)
    · rcases hb with e | e | e
      · rw [e]; exact low.1
      · rw [e]; exact low.2.1
      · exact (sts.lt b e).1
    · rcases hb with e | e | e
      · rw [e] at ho; exact tq_mak blk ho
      · rw [e] at ho; exact tq_map keys ho
      · exact tq_row sts (by decide) e ho

/-- What is left of the making when the only open state was pushed. -/
theorem Mk.pushRoot {w w' : World} {base mb mm p : Nat} {lw : ByteArray} {xs : List (Value × DSt)} {v vo vs : Value} {x : DSt} {g : List UInt8 → Nat} (h : Mk w base mb lw [(v, x)] xs vo vs mm g) (hk : Kp (fun b => v.ownBlock = some b ∨ b = p) w w') (hp : NotIn p mb mm vo vs xs) :
    MakB w' mb lw vo vs mm ∧ KMap w' mm xs.length (xs.map fun x => x.2.key) g ∧ SRow w' base vs xs ∧ ∀ y ∈ xs, ARow w' base y.1 y.2.arcs := by
  have hmem : ((v, x) : Value × DSt) ∈ [(v, x)] ++ xs := by simp
  obtain ⟨t1, t2, t3, t4⟩ := h.types
  have t5 := t3 _ hmem
  have ap := h.apart
  rw [List.singleton_append, List.pairwise_cons] at ap
  have keep : ∀ b, b < w.heap.size → v.ownBlock ≠ some b → b ≠ p → w'.heap[b]? = w.heap[b]? := fun b hb n1 n2 => hk.block b hb fun e => e.elim n1 n2
  refine ⟨(keep mb h.blk.lt (fun e => (t5 mb e).1 rfl) (fun e => hp.1 e.symm)).trans h.blk, h.keys.same (keep mm h.keys.lt (fun e => (t5 mm e).2.1 rfl) (fun e => hp.2.1 e.symm)), owns_same h.sts fun b hb => keep b (h.sts.lt b hb).2 (fun e => (t5 b e).2.2.2 hb) (fun e => hp.2.2.2.1 (e ▸ hb)), fun y hy => ?_⟩
  have hyr := h.arcs y (List.mem_append_right _ hy)
  exact owns_same hyr fun b hb => keep b (hyr.lt b hb).2 (fun e => ap.1 y hy b e hb) (fun e => hp.2.2.2.2 y hy (e ▸ hb))

set_option maxHeartbeats 4000000 in
set_option maxRecDepth 100000 in
theorem whole_any {w : World} {base mb mm K : Nat} {lw : ByteArray} {xo xs : List (Value × DSt)} {vo vs : Value} {g : List UInt8 → Nat} (h : Mk w base mb lw xo xs vo vs mm g) (hn : xo.length ≤ 256) (hn0 : xo ≠ []) (hs : xs.length ≤ 90000)
    (hne : ∀ y ∈ xo.dropLast, y.2.arcs ≠ []) (hK : ∀ y ∈ xo, y.2.arcs.length ≤ K) :
    Calls Try.prog 71 #[.pointer (some ⟨mb, 0, none⟩)] w (Wholed w base (mkO lw xo xs)) := by
  have HM := Lib.hid h
  have hn1 : 1 ≤ xo.length := List.length_pos_iff.2 hn0
  obtain ⟨w0, hw0⟩ : ∃ w0, w0 = w.alloc (.cells #[.slice none 0 0, .int .u64 0] 65) := ⟨_, rfl⟩
  have hb0 : Below w.heap.size w w0 := by rw [hw0]; exact below_alloc w _
  have hbx : w0.heap[w.heap.size]? = some (.cells #[.slice none 0 0, .int .u64 0] 65 (0, 0)) := by rw [hw0]; exact heap_alloc_new w _
  have HX0 := Lib.hid hbx
  have HM0 := Lib.hid (HM.out.below hb0)
  have HB0 := Lib.hid hb0
  have QS : Hid (Calls Try.prog 97 #[.pointer (some ⟨mb, 0, none⟩), .int .i64 0] w0 fun e w' => e = .returned (.tuple #[]) ∧ Shutted w0 base mb mm lw xo xs 0 K w') := Lib.hid (shut_any (d := 0) (K := K) HM0.out (by omega) (by omega) (by omega) hne hK)
  clear h hne hK hb0 hbx
  go_enter Try.func71, Try.ntmps71
  go_upto_region 1 with fail
  rw [← hw0]
  clear hw0
  go_wp2_with (first
               | (go_at_call 97
                  (with_reducible refine QS.out.mono ?_)
                  go_loud (
                  rintro e' w2 ⟨rfl, h2⟩
                  obtain ⟨xo2, xs2, vo2, vs2, g2, hm2, hl2, hx2, he2, hn2, hk2, hb2, ht2⟩ := h2
                  obtain ⟨⟨vx, sx⟩, rfl⟩ : ∃ x, xo2 = [x] := List.length_eq_one_iff.1 hl2
                  obtain ⟨adx, cx, rfl⟩ := ARow.form (show ARow w2 base vx sx.arcs from hm2.arcs (vx, sx) (by simp))
                  have HM2 := Lib.hid hm2
                  obtain ⟨gO, cO, hvo, -⟩ := hm2.opn.last (A := [])
                  subst hvo
                  have HT : Hid (Calls Try.prog 98 #[.pointer (some ⟨mb, 0, none⟩)] w2 fun e w' => e = .returned (.pointer (some ⟨gO, 0, none⟩)) ∧ Below w2.heap.size w2 w') := Lib.hid (by have := top_any (n := 0) HM2.out.blk (by omega); simpa using this)
                  have HE2 := Lib.hid (And.intro he2 hx2)
                  have HB2 := Lib.hid (And.intro hb2 ht2)
                  clear hm2 hl2 hx2 he2 hn2 hk2 hb2 ht2))
               | (go_at_call 98
                  (with_reducible refine HT.out.mono ?_)
                  go_loud (
                  rintro e' w4 ⟨rfl, hb4⟩
                  have HM4 := Lib.hid (HM2.out.below hb4)
                  obtain ⟨g9, c9, hv9, -, -, -, q0, q1, q2, -⟩ := HM4.out.opn.last (A := [])
                  cases hv9
                  simp only [List.length_nil, Nat.zero_mul, Nat.zero_add] at q0 q1 q2
                  have HB4 := Lib.hid hb4
                  have hb5 := below_alloc w4 (.cells #[.slice adx sx.arcs.length cx, .bool sx.fin, .int .u64 (sx.out : Int)] 91)
                  have HM5 := Lib.hid (HM4.out.below hb5)
                  have HNI := Lib.hid (HM4.out.fresh (Nat.le_refl _))
                  have HOK : Hid (sx.ok ∧ sx.arcs.length ≤ 300) := Lib.hid (HM4.out.ok (.slice adx sx.arcs.length cx, sx) (by simp))
                  have HX5 : Hid (ARow (w4.alloc (.cells #[.slice adx sx.arcs.length cx, .bool sx.fin, .int .u64 (sx.out : Int)] 91)) base (.slice adx sx.arcs.length cx) sx.arcs) := Lib.hid (HM5.out.arcs (.slice adx sx.arcs.length cx, sx) (by simp))
                  have Q5 := Lib.hid (push_any (p := w4.heap.size) (v := .slice adx sx.arcs.length cx) (s := sx) (heap_alloc_new w4 _) HX5.out (by have := HOK.out.2; omega) HOK.out.1)
                  have HB5 := Lib.hid hb5
                  clear hb4 hb5))
               | (go_at_call 100
                  (with_reducible refine Q5.out.mono ?_)
                  go_loud (
                  rintro e' w6 ⟨rfl, hs6, hx6, hk6⟩
                  have c0 := hs6.at0
                  have c1 := hs6.at1
                  have c2 := hs6.at2
                  have HP6 := Lib.hid (HM5.out.pushRoot hk6 ⟨HNI.out.1, HNI.out.2.1, HNI.out.2.2.1, HNI.out.2.2.2.1, fun y hy => HNI.out.2.2.2.2 y (List.mem_append_right _ hy)⟩)
                  have HK6 := Lib.hid hk6
                  have hlow : base ≤ mb ∧ base ≤ mm ∧ base ≤ w6.heap.size := ⟨HM5.out.low.1, HM5.out.low.2.1, Nat.le_trans HM5.out.low.2.2 hk6.size⟩
                  have QN := Lib.hid (root_number (v := .slice adx sx.arcs.length cx) (s := sx.push) HP6.out.1 HP6.out.2.1 HP6.out.2.2.1 HP6.out.2.2.2 hlow hx6 (push_ok HOK.out.1) (by rw [push_len]; exact HOK.out.2) (by have := HE2.out.2; omega))
                  have HT6 : Hid (KeepT w4 w6 ∧ Below base w4 w6) := Lib.hid ⟨(KeepT.below HB5.out).trans (KeepT.kp hk6 (fun b e o ho => by
                    rcases e with e | rfl
                    · exact tq_row HX5.out (by decide) e ho
                    · rintro ⟨cs, e9, fz, rfl, he9⟩
                      rw [heap_alloc_new] at ho
                      cases ho
                      rcases he9 with he9 | he9 | he9 <;> exact absurd he9 (by decide))), (HB5.out.mono HM4.out.low.2.2).trans (hk6.to HM5.out.low.2.2 (fun b e => by
                    rcases e with e | rfl
                    · exact (HX5.out.lt b e).1
                    · exact HM4.out.low.2.2))⟩
                  clear hs6 hx6 hk6 hlow))
               | (go_at_call 101
                  (with_reducible refine QN.out.mono ?_)
                  go_loud (
                  rintro e' w7 ⟨⟨n7, rfl⟩, xs7, vs7, hm7, hs7, he7, ha7, hi7, hb7, ht7⟩
                  have c7 := hm7.at2
                  have HX7 : Hid (w7.heap[w.heap.size]? = some (.cells #[.slice none 0 0, .int .u64 0] 65 (0, 0))) := Lib.hid (ht7 _ _ (HT6.out.1 _ _ ((HB4.out.block _ (Array.getElem?_eq_some_iff.1 (HB2.out.2 _ _ HX0.out ⟨_, _, _, rfl, .inr (.inr rfl)⟩)).1).trans (HB2.out.2 _ _ HX0.out ⟨_, _, _, rfl, .inr (.inr rfl)⟩)) ⟨_, _, _, rfl, .inr (.inr rfl)⟩) ⟨_, _, _, rfl, .inr (.inr rfl)⟩)
                  have r0 : w7.cell? ⟨w.heap.size, 0, none⟩ = some (.slice none 0 0) := by rw [cell_of_row w7 _ 0 _ _ _ HX7.out]; rfl
                  have r1 : w7.cell? ⟨w.heap.size, 1, none⟩ = some (.int .u64 0) := by rw [cell_of_row w7 _ 1 _ _ _ HX7.out]; rfl
                  have rf : ∀ o, w7.frozen? ⟨w.heap.size, o, none⟩ = false := fun o => by have := HX7.out; simp [World.frozen?, this]
                  obtain ⟨ad7, cp7, rfl⟩ := hs7.form
                  have H7 := Lib.hid (And.intro hm7 (And.intro hs7 (And.intro he7 (And.intro ha7 (And.intro hi7 hb7)))))
                  clear hm7 hs7 he7 ha7 hi7 hb7 ht7)))
  have hg1 := grown_setCell w7 w.heap.size 0 (.slice ad7 xs7.length cp7)
  have hg2 := grown_setCell (w7.setCell ⟨w.heap.size, 0, none⟩ (.slice ad7 xs7.length cp7)) w.heap.size 1 (.int .u64 (sx.least : Int))
  have HK9 : Hid (Kp (fun b => b = w.heap.size) w7 ((w7.setCell ⟨w.heap.size, 0, none⟩ (.slice ad7 xs7.length cp7)).setCell ⟨w.heap.size, 1, none⟩ (.int .u64 (sx.least : Int)))) := Lib.hid ((Kp.grown hg1 (fun b e => (Option.some.inj e).symm)).trans (Kp.grown (M := fun b => b = w.heap.size) hg2 (fun b e => (Option.some.inj e).symm)) (fun b e => .inl e))
  clear hg1 hg2
  have hw9 : (mkO lw xo xs).whole = (xs7.map (·.2), sx.least) := by
    unfold DMak.whole
    rw [← HE2.out.1, H7.out.2.2.1]
    simp only [mkO, DMak.numbered, numsT, List.map_cons, List.map_nil, List.getLast?_singleton, Option.getD_some]
    split <;> rfl
  have HW9 := Lib.hid hw9
  clear hw9 rf
  obtain ⟨hm7, hs7, he7, ha7, hi7, hb7⟩ := H7.out
  have fst_ne : ∀ {base9 size n : Nat} {e : TypeId} {v : Value} {ys : List Value}, w7.ownsRow base9 e size v n ys → e ≠ 65 → ∀ b, v.ownBlock = some b → b ≠ w.heap.size := fun h hne b hb e9 => by
    obtain ⟨_, cs, fz, hc⟩ := owns_cells h b hb
    rw [e9, HX7.out] at hc
    cases hc
    exact hne rfl
  refine bodyPost_ret (v := .agg #[.slice ad7 xs7.length cp7, .int .u64 (sx.least : Int)]) (by simp [results, Try.results71, go_sem, r0, r1]) rfl ⟨.slice ad7 xs7.length cp7, xs7, by rw [HW9.out], ?_, by rw [HW9.out], ?_, ?_, ?_, ?_⟩
  · exact owns_same hs7 fun b hb => HK9.out.block b (hs7.lt b hb).2 (fst_ne hs7 (by decide) b hb)
  · intro x hx
    exact owns_same (ha7 x hx) fun b hb => HK9.out.block b ((ha7 x hx).lt b hb).2 (fst_ne (ha7 x hx) (by decide) b hb)
  · intro x hx
    rcases hi7 x hx with hx | rfl
    · exact HM4.out.ok x (List.mem_append_right _ hx)
    · exact ⟨push_ok HOK.out.1, by show sx.push.arcs.length ≤ 300; rw [push_len]; exact HOK.out.2⟩
  · have := (numsT_len (S := xs2.map (·.2)) (s := sx.push)).2
    rw [← he7, List.length_map, List.length_map] at this
    have := HE2.out.2
    omega
  · exact (HB0.out.mono HM.out.low.2.2).trans (HB2.out.1.trans ((HB4.out.mono HM2.out.low.2.2).trans (HT6.out.2.trans (hb7.trans (HK9.out.to (Nat.le_trans HM4.out.low.2.2 (Nat.le_trans HT6.out.2.size hb7.size)) (fun b e => by rw [e]; exact HM.out.low.2.2))))))
end Go.Proofs.Ytmfchlbafpkgaaa
namespace Go.Proofs.Ytmfchlbafpkgaaa
open Go.RowKit Go.Shelf

/-- Does an arc go down, behind the one before it? -/
def okA (l : List DArc) (n : Nat) (i : Nat) : Bool := !decide ((arcAt l i).to < 0) && !decide ((n : Int) ≤ (arcAt l i).to) && (i == 0 || decide ((arcAt l (i - 1)).b < (arcAt l i).b))
def formedT (s : DSt) (n : Nat) : Bool := (List.range s.arcs.length).all (okA s.arcs n) && (s.fin || s.out == 0)

theorem formedT_bad {s : DSt} {n i : Nat} (h : i < s.arcs.length) (hb : okA s.arcs n i = false) : formedT s n = false := by
  unfold formedT
  have : (List.range s.arcs.length).all (okA s.arcs n) = false := by
    rw [List.all_eq_false]
    exact ⟨i, List.mem_range.2 h, by simp [hb]⟩
  rw [this]; rfl
theorem formedT_good {s : DSt} {n : Nat} (h : ∀ i, i < s.arcs.length → okA s.arcs n i = true) : formedT s n = (s.fin || s.out == 0) := by
  unfold formedT
  have : (List.range s.arcs.length).all (okA s.arcs n) = true := by
    rw [List.all_eq_true]
    exact fun i hi => h i (List.mem_range.1 hi)
  rw [this]; rfl

theorem ArcIn.later {w w' : World} {b o : Nat} {a : DArc} (h : ArcIn w b o a) (hb : Below w.heap.size w w') : ArcIn w' b o a := h.kept (hb.block b h.lt)

set_option maxHeartbeats 4000000 in
set_option maxRecDepth 100000 in
theorem formed_any {w : World} {v : Value} {s : DSt} {n : Nat} (ha : Arcs w v s.arcs) (hl : s.arcs.length ≤ 100000) (hn : n ≤ 100000) (ho : s.ok) :
    Calls Try.prog 76 #[.agg #[v, .bool s.fin, .int .u64 (s.out : Int)], .int .i64 (n : Int)] w fun e w' => e = .returned (.bool (formedT s n)) ∧ Below w.heap.size w w' := by
  obtain ⟨ad, c, rfl, hc⟩ := ha
  have HC : Hid (∀ W, Below w.heap.size w W → ∀ i, i < s.arcs.length → ∃ b o, ad = some ⟨b, o, none⟩ ∧ ArcIn W b (o + i * 3) (arcAt s.arcs i)) := Lib.hid fun W hb i hi => by
    obtain ⟨b, o, e, hE⟩ := hc i hi
    exact ⟨b, o, e, hE.later hb⟩
  have HB0 := Lib.hid (below_alloc w (.cells #[.slice ad s.arcs.length c, .bool s.fin, .int .u64 (s.out : Int)] 91))
  have HX : Hid (∀ W, Below (w.heap.size + 1) (w.alloc (.cells #[.slice ad s.arcs.length c, .bool s.fin, .int .u64 (s.out : Int)] 91)) W → W.cell? ⟨w.heap.size, 0, none⟩ = some (.slice ad s.arcs.length c) ∧ W.cell? ⟨w.heap.size, 1, none⟩ = some (.bool s.fin) ∧ W.cell? ⟨w.heap.size, 2, none⟩ = some (.int .u64 (s.out : Int))) := Lib.hid fun W hb => by
    have h1 : W.heap[w.heap.size]? = _ := (hb.block _ (by omega)).trans (heap_alloc_new w _)
    exact ⟨by rw [cell_of_row W _ 0 _ _ _ h1]; rfl, by rw [cell_of_row W _ 1 _ _ _ h1]; rfl, by rw [cell_of_row W _ 2 _ _ _ h1]; rfl⟩
  have HO := Lib.hid ho
  clear hc ho
  go_enter Try.func76, Try.ntmps76
  go_wp2
  go_loopw [10] (fun s10 wr => ∃ k : Nat, k ≤ s.arcs.length ∧ s10 = .int .i64 k ∧ Hid ((∀ i, i < k → okA s.arcs n i = true) ∧ Below (w.heap.size + 1) (w.alloc (.cells #[.slice ad s.arcs.length c, .bool s.fin, .int .u64 (s.out : Int)] 91)) wr)) (fun s10 _ => s.arcs.length - (intOf s10).toNat)
  case atStart => exact ⟨0, Nat.zero_le _, rfl, Lib.hid ⟨fun i hi => absurd hi (Nat.not_lt_zero i), Below.refl _ _⟩⟩
  case round =>
    obtain ⟨k, hk, rfl, HR⟩ := hrel
    have hzz : w.heap.size + 1 ≤ wr.heap.size := by have := HR.out.2.size; simpa using this
    have hbw := HB0.out.trans (HR.out.2.mono (by omega))
    have HBW := Lib.hid hbw
    by_cases hlt : k < s.arcs.length
    · obtain ⟨b, o, rfl, h1, h2, h3⟩ := HC.out wr hbw k hlt
      obtain ⟨y, hy⟩ : ∃ y, arcAt s.arcs k = y := ⟨_, rfl⟩
      rw [hy] at h1 h2 h3
      have HY := Lib.hid hy
      have HN := Lib.hid (HR.out.2.alloc hzz (.cells #[.int .u8 (y.b : Int), .int .u64 (y.out : Int), .int .i64 y.to] 93))
      have HNF := Lib.hid (HBW.out.trans ((below_alloc wr (.cells #[.int .u8 (y.b : Int), .int .u64 (y.out : Int), .int .i64 y.to] 93)).mono HBW.out.size))
      have kx : ∀ ob, (wr.alloc ob).cell? ⟨w.heap.size, 0, none⟩ = some (.slice (some ⟨b, o, none⟩) s.arcs.length c) := fun ob => (HX.out _ (HR.out.2.alloc hzz ob)).1
      clear hy hbw
      by_cases c1 : y.to < 0
      · have d1 : decide (y.to < 0) = true := decide_eq_true c1
        have HF := Lib.hid (formedT_bad hlt (n := n) (by unfold okA; rw [HY.out, d1]; rfl))
        clear c1
        go_wp2
        go_quiet (fail)
        have HB := Lib.hid (below_drewN HNF.out nq)
        generalize World.drewN _ nq = w2 at HB ⊢
        go_wp2
        go_ret
        exact ⟨by rw [HF.out]; rfl, HB.out⟩
      · have d1 : decide (y.to < 0) = false := decide_eq_false c1
        by_cases c2 : (n : Int) ≤ y.to
        · have d2 : decide ((n : Int) ≤ y.to) = true := decide_eq_true c2
          have HF := Lib.hid (formedT_bad hlt (n := n) (by unfold okA; rw [HY.out, d1, d2]; rfl))
          clear c1 c2
          go_wp2
          go_quiet (fail)
          have HB := Lib.hid (below_drewN HNF.out nq)
          generalize World.drewN _ nq = w2 at HB ⊢
          go_wp2
          go_ret
          exact ⟨by rw [HF.out]; rfl, HB.out⟩
        · have d2 : decide ((n : Int) ≤ y.to) = false := decide_eq_false c2
          by_cases hk0 : k = 0
          · have d3 : decide (0 < k) = false := decide_eq_false (by omega)
            have HG := Lib.hid (show okA s.arcs n k = true by unfold okA; rw [HY.out, d1, d2, hk0]; rfl)
            clear c1 c2 hk0
            go_wp2
            go_quiet (fail)
            have HB := Lib.hid (below_drewN HNF.out nq)
            have HNQ := Lib.hid (below_drewN HN.out nq)
            generalize World.drewN _ nq = w2 at HB HNQ ⊢
            go_wp2
            exact ⟨⟨k + 1, by omega, by go_num, Lib.hid ⟨fun i hi => by
              rcases Nat.lt_or_ge i k with h | h
              · exact HR.out.1 i h
              · rw [show i = k by omega]; exact HG.out, HNQ.out⟩⟩, by simp [intOf]; omega⟩
          · have d3 : decide (0 < k) = true := decide_eq_true (by omega)
            have e3 : IntKind.i64.wrap ((k : Int) - 1) = ((k - 1 : Nat) : Int) := by rw [IntWalk.i64_in _ (by omega)]; omega
            have i3 : ((k - 1 : Nat) : Int) < (s.arcs.length : Int) := by omega
            obtain ⟨pb, po, epo, p1, -⟩ := HC.out wr HBW.out (k - 1) (by omega)
            obtain ⟨rfl, rfl⟩ : b = pb ∧ o = po := by cases epo; exact ⟨rfl, rfl⟩
            obtain ⟨z, hz⟩ : ∃ z, arcAt s.arcs (k - 1) = z := ⟨_, rfl⟩
            rw [hz] at p1
            have HZ := Lib.hid hz
            have hkb : (k == 0) = false := by simp; omega
            have kp : ∀ ob, (wr.alloc ob).cell? ⟨b, o + (k - 1) * 3, none⟩ = some (.int .u8 (z.b : Int)) := fun ob => by
              rw [(below_alloc wr ob).cell (p := ⟨b, o + (k - 1) * 3, none⟩) (block_lt_of_cell p1)]; exact p1
            have HKB := Lib.hid hkb
            clear hz hkb epo p1
            by_cases c3 : z.b < y.b
            · have d5 : decide (y.b ≤ z.b) = false := decide_eq_false (by omega)
              have HG := Lib.hid (show okA s.arcs n k = true by unfold okA; rw [HY.out, HZ.out, d1, d2, HKB.out, decide_eq_true c3]; rfl)
              clear c1 c2 c3 hk0
              go_wp2
              go_quiet (fail)
              have HB := Lib.hid (below_drewN HNF.out nq)
              have HNQ := Lib.hid (below_drewN HN.out nq)
              generalize World.drewN _ nq = w2 at HB HNQ ⊢
              go_wp2
              exact ⟨⟨k + 1, by omega, by go_num, Lib.hid ⟨fun i hi => by
                rcases Nat.lt_or_ge i k with h | h
                · exact HR.out.1 i h
                · rw [show i = k by omega]; exact HG.out, HNQ.out⟩⟩, by simp [intOf]; omega⟩
            · have d5 : decide (y.b ≤ z.b) = true := decide_eq_true (by omega)
              have HF := Lib.hid (formedT_bad hlt (n := n) (by unfold okA; rw [HY.out, HZ.out, d1, d2, HKB.out, decide_eq_false c3]; rfl))
              clear c1 c2 c3 hk0
              go_wp2
              go_quiet (fail)
              have HB := Lib.hid (below_drewN HNF.out nq)
              have HNQ := Lib.hid (below_drewN HN.out nq)
              generalize World.drewN _ nq = w2 at HB HNQ ⊢
              go_wp2
              go_ret
              exact ⟨by rw [HF.out]; rfl, HB.out⟩
    · obtain rfl : k = s.arcs.length := by omega
      have HF := Lib.hid (formedT_good HR.out.1)
      obtain ⟨-, k1, k2⟩ := HX.out wr HR.out.2
      clear hbw
      cases hf : s.fin
      · rw [hf] at k1 HF
        by_cases h0 : s.out = 0
        · have d4 : ((s.out : Int) == 0) = true := by simp [h0]
          go_wp2
          go_ret
          exact ⟨by rw [HF.out, h0]; rfl, HBW.out⟩
        · have d4 : ((s.out : Int) == 0) = false := by simp [h0]
          go_wp2
          go_ret
          refine ⟨?_, HBW.out⟩
          rw [HF.out, show (s.out == 0) = false by simp [h0]]
          rfl
      · rw [hf] at k1 HF
        go_wp2
        go_ret
        exact ⟨by rw [HF.out]; rfl, HBW.out⟩

end Go.Proofs.Ytmfchlbafpkgaaa
namespace Go.Proofs.Ytmfchlbafpkgaaa
open Go.RowKit Go.Shelf

/-- The first arc that goes to a state that is not done. -/
def nextA (l : List DSt) (at_ d : Nat) : Option DArc := (stAt l at_).arcs.find? fun a => decide ((d : Int) ≤ a.to)
/-- How many are done, at last: the way's last state stands first. -/
def ordGo (l : List DSt) : Nat → List Nat → Nat → Nat
  | 0, _, d => d
  | _ + 1, [], d => d
  | f + 1, x :: r, d => match nextA l x d with
    | some a => ordGo l f (a.to.toNat :: x :: r) d
    | none => if x = d then ordGo l f r (d + 1) else d
def ordF (n : Nat) : Nat := (n + 1) * (n + 2)
def orderedT (l : List DSt) : Bool := decide (ordGo l (ordF l.length) [l.length - 1] 0 = l.length)

/-- How many steps there are still, at most. -/
def ordM (n : Nat) (way : List Nat) (d : Nat) : Nat := (n - d) * (n + 1) + (match way with | [] => 0 | x :: _ => x + 1)

theorem ordGo_push {l : List DSt} {f x d : Nat} {r : List Nat} {a : DArc} (h : nextA l x d = some a) : ordGo l (f + 1) (x :: r) d = ordGo l f (a.to.toNat :: x :: r) d := by
  simp only [ordGo, h]
theorem ordGo_pop {l : List DSt} {f x : Nat} {r : List Nat} (h : nextA l x x = none) : ordGo l (f + 1) (x :: r) x = ordGo l f r (x + 1) := by
  simp only [ordGo, h, if_true]
theorem ordGo_stop {l : List DSt} {f x d : Nat} {r : List Nat} (h : nextA l x d = none) (hx : x ≠ d) : ordGo l (f + 1) (x :: r) d = d := by
  simp only [ordGo, h, if_neg hx]
theorem ordGo_end {l : List DSt} {f d : Nat} : ordGo l f [] d = d := by
  cases f <;> rfl

theorem ordM_push {n x y d : Nat} {r : List Nat} (h : y < x) : ordM n (y :: x :: r) d < ordM n (x :: r) d := by
  simp only [ordM]; omega
theorem ordM_pop {n x : Nat} {r : List Nat} (hx : x < n) (hr : ∀ y ∈ r, y < n) : ordM n r (x + 1) < ordM n (x :: r) x := by
  have h1 : (n - x) * (n + 1) = (n - (x + 1)) * (n + 1) + (n + 1) := by
    rw [show n - x = (n - (x + 1)) + 1 by omega, Nat.add_mul]; omega
  simp only [ordM]
  rw [h1]
  cases r with
  | nil => simp only; omega
  | cons y r =>
    have := hr y (List.mem_cons_self ..)
    simp only
    omega
theorem ordM_pos {n x d : Nat} {r : List Nat} : 0 < ordM n (x :: r) d := by simp only [ordM]; omega

end Go.Proofs.Ytmfchlbafpkgaaa

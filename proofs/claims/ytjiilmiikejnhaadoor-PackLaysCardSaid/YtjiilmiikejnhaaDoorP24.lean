/-
  The writer: a letter more.
-/
import Derived.Test.YtjiilmiikejnhaaDoorP12
import Derived.Test.YtjiilmiikejnhaaDoorP23
import Derived.Test.YtjiilmiikejnhaaDoorP09
import Derived.Lib.AppendStr
import Derived.WalkMore
set_option linter.unusedVariables false
set_option linter.unusedSimpArgs false
namespace Go.Proofs.YtjiilmiikejnhaaDoor
open Go.RowKit Go.Shelf

theorem iByte : (Tryd.prog.info? 5).map (fun i => (i.zero, i.size, i.bytes)) = some (some (.int .u8 0), 1, 1) := by kernel_rfl
theorem wpList_append_laid {w : World} {ops : Array Oper} {rest : List Oper} {o : Oper} {a : Act} {Q : Exit → Act → World → Prop} (hgd : o.guard = none) (s x : Operand)
    (hop : o.op = Op.call { callee := Callee.builtin Builtin.append, args := #[s, x], argTypes := #[74, 74] }) (ht : o.type = 74) (base : Nat) (v : Value) (n : Nat) (fs : List Value) (ad : Addr) (c : Nat) (b : Int)
    (hs : a.eval s = v) (hx : a.eval x = .slice (some ad) 1 c) (hc : w.cell? ad = some (.int .u8 b)) (hv : w.ownsRow base 5 1 v n fs) (hlen : n ≤ 2000000000) (hbw : base ≤ w.heap.size)
    (h : ∀ v' w', w'.ownsRow base 5 1 v' (n + 1) (fs ++ [.int .u8 b]) → w.grownBy w' v.ownBlock → (v'.ownBlock = v.ownBlock ∨ v'.ownBlock = some w.heap.size) → wpList Tryd.prog ops Q rest (a.put o.dst v') w') : wpList Tryd.prog ops Q (o :: rest) a w := by
  obtain ⟨i0, hi, hz0, hz1, hz2⟩ := info_parts iByte
  obtain ⟨v', w1, h1, h2, h3, _, h5⟩ := run_append_own_at (P := Tryd.prog) w base 74 74 5 i0 _ 1 1 Tryd.underlying74 hi hz0 hz1 hz2 rfl (by decide) v n fs hv ad 1 c [.int .u8 b] rfl
    (by
      intro j u hj
      match j, hj with
      | 0, hj => simp at hj; subst hj; exact hc) (by simp [Value.oneCell']) (by unfold maxLen; omega) (by omega) hbw
  refine wpList_plain hgd fun _ hK => ?_
  unfold Oper.wp execOp
  simp only [hop, ht, resolve, invoke, builtin, Sem.run_bind, Sem.run_pure, Result.andThen_ok, List.map_toArray, List.map_cons, List.map_nil, hs, hx, h1]
  exact hK _ _ (h v' w1 h2 h3 h5)

/-- The writer's block, and the bytes behind it, a row of its own. -/
def Wr (w : World) (p base : Nat) (L : List UInt8) : Prop := ∃ v, w.heap[p]? = some (.cells #[v] 76 (0, 0)) ∧ w.ownsRow base 5 1 v L.length (Lib.byteCells L)
def Uq (o : Obj) : Prop := ∃ cs e fz, o = .cells cs e fz ∧ (e = 25 ∨ e = 64 ∨ e = 66)
/-- Blocks of transducers, states and arcs stay. -/
def KeepU (w w' : World) : Prop := ∀ (b : Nat) (o : Obj), w.heap[b]? = some o → Uq o → w'.heap[b]? = some o
theorem KeepU.trans {a b c : World} (h : KeepU a b) (k : KeepU b c) : KeepU a c := fun p o ho ht => k p o (h p o ho ht) ht
theorem KeepU.refl (w : World) : KeepU w w := fun _ _ h _ => h
theorem KeepU.below {w w' : World} (h : Below w.heap.size w w') : KeepU w w' := fun b o ho _ => (h.block b (Array.getElem?_eq_some_iff.1 ho).1).trans ho
theorem KeepU.kp {w w' : World} {M : Nat → Prop} (h : Kp M w w') (hM : ∀ b, M b → ∀ o, w.heap[b]? = some o → ¬ Uq o) : KeepU w w' := fun b o ho ht => (h.block b (Array.getElem?_eq_some_iff.1 ho).1 fun e => hM b e o ho ht).trans ho
theorem Wr.below {w w' : World} {p base : Nat} {L : List UInt8} (h : Wr w p base L) (hb : Below w.heap.size w w') : Wr w' p base L := by
  obtain ⟨v, h1, h2⟩ := h
  exact ⟨v, (hb.block _ (Array.getElem?_eq_some_iff.1 h1).1).trans h1, owns_same h2 fun g hg => hb.block g (h2.lt g hg).2⟩

/-- What stands behind an append and its store. -/
theorem wr_next {w W w5 : World} {p base : Nat} {L M : List UInt8} {v v5 : Value} (hp : base ≤ p) (hb : Below w.heap.size w W) (h1 : w.heap[p]? = some (.cells #[v] 76 (0, 0))) (h2 : w.ownsRow base 5 1 v L.length (Lib.byteCells L))
    (h3 : w5.ownsRow base 5 1 v5 (L ++ M).length (Lib.byteCells (L ++ M))) (hg : W.grownBy w5 v.ownBlock) :
    Wr (w5.setCell ⟨p, 0, none⟩ v5) p base (L ++ M) ∧ Kp (fun g => base ≤ g) w (w5.setCell ⟨p, 0, none⟩ v5) ∧ KeepU w (w5.setCell ⟨p, 0, none⟩ v5) := by
  have hpl := (Array.getElem?_eq_some_iff.1 h1).1
  have nb : v.ownBlock ≠ some p := fun e => by
    obtain ⟨_, cs, fz, hc⟩ := owns_cells h2 p e
    rw [h1] at hc
    cases hc
  have k0 : Kp (fun g => v.ownBlock = some g ∨ g = p) w W := Kp.below hb
  have k1 : Kp (fun g => v.ownBlock = some g ∨ g = p) W w5 := Kp.grown hg (fun g e => .inl e)
  have k2 : Kp (fun g => v.ownBlock = some g ∨ g = p) w5 (w5.setCell ⟨p, 0, none⟩ v5) := Kp.grown (grown_setCell w5 p 0 v5) (fun g e => .inr (Option.some.inj e).symm)
  have hk := (k0.trans k1 (fun g e => .inl e)).trans k2 (fun g e => .inl e)
  have hW : W.heap[p]? = some (.cells #[v] 76 (0, 0)) := (hb.block p hpl).trans h1
  have h5 : w5.heap[p]? = some (.cells #[v] 76 (0, 0)) := (hg.block p (Array.getElem?_eq_some_iff.1 hW).1 (fun e => nb e.symm)).trans hW
  refine ⟨⟨v5, cells_setCell h5 0 _, owns_same h3 fun b hbb => (grown_setCell w5 p 0 v5).block b (h3.lt b hbb).2 (fun e => ?_)⟩, hk.mono fun g e => .inl ?_, KeepU.kp hk fun b e o ho hu => ?_⟩
  · have e' := Option.some.inj e
    subst e'
    obtain ⟨_, cs, fz, hc⟩ := owns_cells h3 _ hbb
    rw [h5] at hc
    cases hc
  · rcases e with e | e
    · exact (h2.lt g e).1
    · rw [e]; exact hp
  · obtain ⟨cs, t, fz, rfl, ht⟩ := hu
    rcases e with e | e
    · obtain ⟨_, cs', fz', hc⟩ := owns_cells h2 b e
      rw [hc] at ho
      injection ho with ho
      injection ho with _ ho
      rcases ht with ht | ht | ht <;> rw [ht] at ho <;> exact absurd ho (by decide)
    · subst e
      rw [h1] at ho
      injection ho with ho
      injection ho with _ ho
      rcases ht with ht | ht | ht <;> rw [ht] at ho <;> exact absurd ho (by decide)

theorem Wr.form {w : World} {p base : Nat} {L : List UInt8} (h : Wr w p base L) : ∃ ad c, w.heap[p]? = some (.cells #[.slice ad L.length c] 76 (0, 0)) ∧ w.ownsRow base 5 1 (.slice ad L.length c) L.length (Lib.byteCells L) := by
  obtain ⟨v, h1, h2⟩ := h
  rcases id h2.2 with ⟨rfl, h0⟩ | ⟨g, cap, cur, rfl, _⟩
  · exact ⟨none, 0, by rw [h0]; exact h1, by rw [h0] at h2 ⊢; exact h2⟩
  · exact ⟨_, cap, h1, h2⟩
theorem own_form {w : World} {base n : Nat} {e : TypeId} {v : Value} {xs : List Value} (h : w.ownsRow base e 1 v n xs) : ∃ ad c, v = .slice ad n c := by
  rcases h.2 with ⟨rfl, h0⟩ | ⟨g, cap, cur, rfl, _⟩
  · exact ⟨none, 0, by rw [h0]⟩
  · exact ⟨_, cap, rfl⟩

set_option maxHeartbeats 1000000 in
set_option maxRecDepth 100000 in
theorem wletter_any {w : World} {p base : Nat} {L : List UInt8} (h : Wr w p base L) (hp : base ≤ p) (hl : L.length ≤ 2000000000) (b : UInt8) :
    Calls Tryd.prog 27 #[.pointer (some ⟨p, 0, none⟩), .int .u8 (b.toNat : Int)] w fun e w' => e = .returned (.tuple #[]) ∧ Wr w' p base (L ++ [b]) ∧ Kp (fun g => base ≤ g) w w' ∧ KeepU w w' := by
  obtain ⟨ad, c, h1, h2⟩ := h.form
  have hpl := (Array.getElem?_eq_some_iff.1 h1).1
  have c0 : w.cell? ⟨p, 0, none⟩ = some (.slice ad L.length c) := by rw [cell_of_row w p 0 _ _ _ h1]; rfl
  have H12 := Lib.hid (And.intro h1 h2)
  have HBS := Lib.hid (Nat.le_trans hp (Nat.le_of_lt hpl))
  have HL := Lib.hid hl
  have HP := Lib.hid hp
  clear h h1 h2 hl hp hpl
  go_enter Tryd.func27, Tryd.ntmps27
  go_wp2_with (at_builtin
               refine wpList_append_laid rfl (.tmp 8) (.tmp 10) rfl rfl base (.slice ad L.length c) _ _ ⟨w.heap.size, 0, none⟩ 1 (b.toNat : Int) rfl rfl (by simp) (owns_same H12.out.2 fun g hg => (below_alloc w _).block g (H12.out.2.lt g hg).2) HL.out (by have := HBS.out; simp; omega) (fun v' w' hown hg _ => ?_)
               obtain ⟨ad', c', rfl⟩ := own_form hown
               have HO := Lib.hid (And.intro hown hg)
               have h5 : w'.heap[p]? = some (.cells #[.slice ad L.length c] 76 (0, 0)) := (hg.block p (by have := (Array.getElem?_eq_some_iff.1 H12.out.1).1; simp; omega) (fun e => by
                 obtain ⟨_, cs, fz, hc⟩ := owns_cells H12.out.2 p e.symm
                 rw [H12.out.1] at hc
                 cases hc)).trans ((below_alloc w _).block p (Array.getElem?_eq_some_iff.1 H12.out.1).1 |>.trans H12.out.1)
               have c5 : w'.cell? ⟨p, 0, none⟩ = some (.slice ad L.length c) := by rw [cell_of_row w' p 0 _ _ _ h5]; rfl
               have f5 : w'.frozen? ⟨p, 0, none⟩ = false := by simp [World.frozen?, h5]
               clear hown hg h5)
  obtain ⟨m1, m2, m3⟩ := wr_next (M := [b]) HP.out (below_alloc w _) H12.out.1 H12.out.2 (by rw [List.length_append, byteCells_append]; exact HO.out.1) HO.out.2
  go_end0
  exact ⟨rfl, m1, m2, m3⟩

theorem strCells_list (l : List UInt8) : Lib.strCells ⟨l.toArray⟩ = Lib.byteCells l := rfl

/-- A step of a drawn region: bytes of a text behind the writer's row. -/
theorem step_append_text {ops : Array Oper} {o : Oper} {a : Act} {w : World} {K : Act → World → Prop} {Q : Exit → Act → World → Prop} {E : Prop}
    (hg : o.guard = none) (s x : Operand) (hop : o.op = Op.call { callee := Callee.builtin Builtin.append, args := #[s, x], argTypes := #[74, 9] }) (ht : o.type = 74)
    (base bp : Nat) {v0 : Value} (L M : List UInt8) (hs : a.eval s = v0) (hx : a.eval x = .string ⟨M.toArray⟩) (h1 : w.heap[bp]? = some (.cells #[v0] 76 (0, 0))) (h2 : w.ownsRow base 5 1 v0 L.length (Lib.byteCells L))
    (hl : L.length + M.length ≤ 2000000000) (hbw : base ≤ w.heap.size)
    (hK : ∀ ad c w5, w5.ownsRow base 5 1 (.slice ad (L ++ M).length c) (L ++ M).length (Lib.byteCells (L ++ M)) → w.grownBy w5 v0.ownBlock → w5.cell? ⟨bp, 0, none⟩ = some v0 → w5.frozen? ⟨bp, 0, none⟩ = false → K (a.put o.dst (.slice ad (L ++ M).length c)) w5) :
    if Region.wanted o (yielded ops a.tmps) = true then Oper.wp Tryd.prog o a w K Q else E := by
  obtain ⟨i0, hi, hz0, hz1, hz2⟩ := info_parts iByte
  have hsz : (⟨M.toArray⟩ : ByteArray).size = M.length := by simp [ByteArray.size]
  obtain ⟨v', w5, e1, e2, e3, _⟩ := Lib.run_append_own_string (P := Tryd.prog) w base 74 9 74 5 i0 Tryd.underlying74 Tryd.underlying9 hi hz0 hz1 hz2 v0 L.length (Lib.byteCells L) h2 ⟨M.toArray⟩ (by rw [hsz]; unfold maxLen; omega) (by rw [hsz]; omega) hbw
  rw [hsz, strCells_list, ← byteCells_append, ← List.length_append] at e2
  obtain ⟨ad, c, rfl⟩ := own_form e2
  have hbl : w5.heap[bp]? = some (.cells #[v0] 76 (0, 0)) := (e3.block bp (Array.getElem?_eq_some_iff.1 h1).1 (fun e => by
    obtain ⟨_, cs, fz, hc⟩ := owns_cells h2 bp e.symm
    rw [h1] at hc
    cases hc)).trans h1
  rw [if_pos (by simp [Region.wanted, hg])]
  unfold Oper.wp execOp
  simp only [hop, ht, resolve, invoke, builtin, Sem.run_bind, Sem.run_pure, Result.andThen_ok, List.map_toArray, List.map_cons, List.map_nil, hs, hx, e1]
  exact hK ad c w5 e2 e3 (by rw [cell_of_row w5 bp 0 _ _ _ hbl]; rfl) (by simp [World.frozen?, hbl])

set_option maxHeartbeats 1000000 in
set_option maxRecDepth 100000 in
theorem wnumbers_any {w : World} {p base : Nat} {L : List UInt8} (h : Wr w p base L) (hp : base ≤ p) (hl : L.length ≤ 1000000000) {v : Value} {ns : List Nat} (hn : Nums w v ns) (hns : ∀ n ∈ ns, n < 18446744073709551616) (hlen : ns.length ≤ 1000000) :
    Calls Tryd.prog 28 #[.pointer (some ⟨p, 0, none⟩), v] w fun e w' => e = .returned (.tuple #[]) ∧ Wr w' p base (L ++ Plain.encs ns) ∧ Kp (fun g => base ≤ g) w w' ∧ KeepU w w' := by
  obtain ⟨ad, c, h1, h2⟩ := h.form
  have hpl := (Array.getElem?_eq_some_iff.1 h1).1
  have c0 : w.cell? ⟨p, 0, none⟩ = some (.slice ad L.length c) := by rw [cell_of_row w p 0 _ _ _ h1]; rfl
  have hbd : Below w.heap.size w w.drew := (Below.refl _ w).drew
  have QP := Lib.hid (put_any ns v w.drew (hn.below hbd) hns hlen)
  have HLM := Lib.hid (encs_length_le ns hns)
  obtain ⟨an, cn, rfl, -⟩ := hn
  have H12 := Lib.hid (And.intro h1 h2)
  have HBS := Lib.hid (Nat.le_trans hp (Nat.le_of_lt hpl))
  have HL := Lib.hid (And.intro hl hlen)
  have HP := Lib.hid hp
  clear h h1 h2 hl hp hpl hbd hns hlen
  go_enter Tryd.func28, Tryd.ntmps28
  go_region_law (first
    | (refine step_call_ok (f := 50) (args := #[.slice an ns.length cn]) rfl (by first | (go_simp; done) | (go_simp; rfl)) QP.out ?_
       intro e' w1 hh
       obtain ⟨rfl, hb1⟩ := hh
       refine ⟨_, rfl, ?_⟩
       have hb : Below w.heap.size w w1 := (Below.refl _ w).drew.trans hb1
       have z0 : w1.cell? ⟨p, 0, none⟩ = some (.slice ad L.length c) := (cell_same (hb.block p (Array.getElem?_eq_some_iff.1 H12.out.1).1)).trans c0
       have H1 := Lib.hid hb
       clear hb hb1)
    | (refine step_append_text rfl (.tmp 8) (.tmp 10) rfl rfl base p L (Plain.encs ns) rfl rfl ((H1.out.block p (Array.getElem?_eq_some_iff.1 H12.out.1).1).trans H12.out.1) (owns_same H12.out.2 fun g hg => H1.out.block g (H12.out.2.lt g hg).2) (by have := HL.out; have := HLM.out; omega) (Nat.le_trans HBS.out H1.out.size) ?_
       intro a5 c5 w5 g1 g2 s1 s2))
  all_goals go_wp2
  all_goals (
    obtain ⟨m1, m2, m3⟩ := wr_next HP.out H1.out H12.out.1 H12.out.2 g1 g2
    rw [List.length_append] at m1 m2 m3
    go_end0
    exact ⟨rfl, m1, m2, m3⟩)

end Go.Proofs.YtjiilmiikejnhaaDoor

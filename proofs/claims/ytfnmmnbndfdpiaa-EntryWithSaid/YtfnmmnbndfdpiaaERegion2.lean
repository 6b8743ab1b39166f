/-
  A region that draws its order, each operation of which writes a slot: each slot holds what it shall, whatever has come up. And one such region: a list with two entries, one before the other, and the other way round.
-/
import Derived.Test.YtfnmmnbndfdpiaaERegion
import Derived.Test.YtfnmmnbndfdpiaaEWith
namespace Go.Proofs.Ytfnmmnbndfdpiaa
open Go.RowKit Go.Sort

/-- Values put into slots, one behind the other. -/
def puts (S : Nat → Tmp) (v : Nat → Value) : Nat → Act → Act
  | 0, a => a
  | n + 1, a => (puts S v n a).put (some (S n)) (v n)

theorem puts_size (S : Nat → Tmp) (v : Nat → Value) : ∀ n a, (puts S v n a).tmps.size = a.tmps.size
  | 0, _ => rfl
  | n + 1, a => by rw [puts, tmps_put_size, puts_size S v n a]
theorem puts_defers (S : Nat → Tmp) (v : Nat → Value) : ∀ n a, (puts S v n a).defers = a.defers
  | 0, _ => rfl
  | n + 1, a => by rw [puts, tmps_put_defers, puts_defers S v n a]
theorem puts_out (S : Nat → Tmp) (v : Nat → Value) (t : Nat) : ∀ n a, (∀ j, j < n → S j ≠ t) → (puts S v n a).tmps[t]? = a.tmps[t]?
  | 0, _, _ => rfl
  | n + 1, a, h => by rw [puts, tmps_put_ne (h n (by omega)), puts_out S v t n a fun j hj => h j (by omega)]
theorem puts_in (S : Nat → Tmp) (v : Nat → Value) : ∀ n a, (∀ i, i < n → ∀ j, j < n → S i = S j → i = j) → (∀ i, i < n → S i < a.tmps.size) → ∀ j, j < n → (puts S v n a).tmps[S j]? = some (v j)
  | n + 1, a, hS, hz, j, hj => by
    rw [puts]
    by_cases e : j = n
    · subst e
      exact tmps_put_eq (by rw [puts_size]; exact hz j (by omega))
    · rw [tmps_put_ne (fun e' => e (hS n (by omega) j hj e').symm)]
      exact puts_in S v n a (fun i hi j hj => hS i (by omega) j (by omega)) (fun i hi => hz i (by omega)) j (by omega)

/-- Each operation hangs on such as stand ahead of it, and writes its slot. -/
def lowB (ops : Array Oper) (S : Nat → Tmp) : Bool :=
  (List.range ops.size).all fun i => match ops[i]? with
  | none => true
  | some o => o.dst == some (S i) && o.guard.isNone && o.after.all fun e => decide (e.on < i)

theorem lowB_at {ops : Array Oper} {S : Nat → Tmp} (h : lowB ops S = true) {i : Nat} {o : Oper} (ho : ops[i]? = some o) : o.dst = some (S i) ∧ o.guard = none ∧ ∀ e ∈ o.after, e.on < i := by
  have := List.all_eq_true.1 h i (List.mem_range.2 (Array.getElem?_eq_some_iff.1 ho).1)
  simp only [ho, Bool.and_eq_true] at this
  obtain ⟨⟨h1, h2⟩, h3⟩ := this
  refine ⟨by simpa using h1, by simpa using h2, fun e he => ?_⟩
  have := Array.all_eq_true_iff_forall_mem.1 h3 e he
  exact of_decide_eq_true this

theorem wp_region_slots {P : Program} {ops : Array Oper} {id : Nat} {Q : Exit → Act → World → Prop} {a0 : Act} {w : World} (hm : P.follows .mixedOrders = true) (n : Nat) (hn : ops.size = n) (S : Nat → Tmp) (F : Nat → Value → World → Prop)
    (hB : lowB ops S = true) (hS : ∀ i, i < n → ∀ j, j < n → S i = S j → i = j) (hSz : ∀ i, i < n → S i < a0.tmps.size)
    (Fmono : ∀ W W', Below W.heap.size W W' → ∀ j v, j < n → F j v W → F j v W')
    (hstep : ∀ i o, ops[i]? = some o → ∀ a w1, Below w.heap.size w w1 → (∀ t, (∀ j, j < n → S j ≠ t) → a.tmps[t]? = a0.tmps[t]?) → (∀ e ∈ o.after, Region.binds .any e = true → ∃ v, a.tmps[S e.on]? = some v ∧ F e.on v w1) →
      ∀ K : Act → World → Prop, (∀ v w2, Below w1.heap.size w1 w2 → F i v w2 → K (a.put o.dst v) w2) → wpOp P ops Q i K a w1)
    (hend : ∀ v w1, Below w.heap.size w w1 → (∀ j, j < n → F j (v j) w1) → Q .normal (puts S v n a0) w1) : (Code.region id ops true).wp P Q a0 w := by
  have bin : ∀ (L : Array Bool) (i : Nat), L.getD i true = false → L.getD i false = false := fun L i h => by
    rw [Array.getD_eq_getD_getElem?] at h ⊢
    cases hl : L[i]? with
    | none => rw [hl] at h; cases h
    | some b => rw [hl] at h; exact h
  have bin' : ∀ (L : Array Bool) (i : Nat), i < L.size → L.getD i false = false → L.getD i true = false := fun L i hi h => by
    rw [Array.getD_eq_getD_getElem?, Array.getElem?_eq_getElem hi] at h ⊢
    exact h
  refine wp_region_inv hm (fun L a w1 => L.size = n ∧ Below w.heap.size w w1 ∧ Slots n S F a0 L a w1) (fun L a w1 h => by rw [hn]; exact h.1) ?_ ?_ ?_
  · exact ⟨by simp [hn], Below.drew (Below.refl _ w), rfl, rfl, fun _ _ => rfl, (fun j hj h => by rw [hn] at h; simp [hj] at h)⟩
  · intro L a w1 ⟨hs, hb, hsl⟩ i hi K hK
    obtain ⟨hun, o, ho, hall⟩ := mem_ready.1 hi
    have hin : i < n := by rw [← hn]; exact (Array.getElem?_eq_some_iff.1 ho).1
    obtain ⟨hd, hg, hlow⟩ := lowB_at hB ho
    refine hstep i o ho a w1 hb hsl.out (fun e he hbi => hsl.ins e.on (by have := hlow e he; omega) (hall e he hbi)) K fun v w2 hb2 hf => ?_
    rw [hd]
    exact hK _ _ ⟨by simpa using hs, hb.trans (hb2.mono hb.size), hsl.step hS hin (hSz i hin) (fun j v hj h => Fmono w1 w2 hb2 j v hj h) hf⟩
  · intro L a w1 ⟨hs, hb, hsl⟩ hr
    have hall : ∀ j, j < n → L.getD j false = true := by
      intro j
      induction j using Nat.strongRecOn with
      | _ j ih =>
        intro hj
        cases hl : L.getD j false with
        | true => rfl
        | false =>
          exfalso
          have ho : ops[j]? = some (ops[j]'(by omega)) := Array.getElem?_eq_getElem (by omega)
          obtain ⟨_, _, hlow⟩ := lowB_at hB ho
          have : j ∈ Region.ready .any ops L := mem_ready.2 ⟨bin' L j (by omega) hl, _, ho, fun e he _ => ih e.on (hlow e he) (by have := hlow e he; omega)⟩
          rw [hr] at this
          cases this
    have hv : ∀ j, ∃ v, j < n → a.tmps[S j]? = some v ∧ F j v w1 := fun j => by
      by_cases hj : j < n
      · obtain ⟨v, h⟩ := hsl.ins j hj (hall j hj)
        exact ⟨v, fun _ => h⟩
      · exact ⟨undef, fun h => absurd h hj⟩
    obtain ⟨v, hv⟩ := Classical.axiomOfChoice hv
    have ha : a = puts S v n a0 := act_ext (fun t => by
      by_cases ht : ∀ j, j < n → S j ≠ t
      · rw [hsl.out t ht, puts_out S v t n a0 ht]
      · obtain ⟨j, hj⟩ := Classical.not_forall.1 ht
        obtain ⟨hjn, hjt⟩ := Classical.not_imp.1 hj
        have hjt := Classical.not_not.1 hjt
        subst hjt
        rw [(hv j hjn).1, puts_in S v n a0 hS hSz j hjn]) (by rw [hsl.defs, puts_defers])
    rw [ha]
    exact hend v w1 hb fun j hj => (hv j hj).2

theorem exec_move {w : World} {a : Act} {o : Oper} {t : Tmp} {v : Value} (ho : o.op = .move (.tmp t)) (ht : a.eval (.tmp t) = v) : (execOp a.eval o).run Try.prog w = .ok (.value v) w := by
  unfold execOp
  simp only [ho, ht]
  go_simp
theorem exec_assign {w : World} {a : Act} {o : Oper} {t : Tmp} {v : Value} (ho : o.op = .assign (.tmp t)) (ht : a.eval (.tmp t) = v) : (execOp a.eval o).run Try.prog w = .ok (.value v) w := by
  unfold execOp
  simp only [ho, ht]
  go_simp
theorem exec_two {w : World} {a : Act} {o : Oper} {t u : Tmp} {X Y : Ent} (ho : o.op = .buildSlice 37 2 #[(0, .tmp t), (1, .tmp u)]) (ht : a.eval (.tmp t) = .agg (boxE X)) (hu : a.eval (.tmp u) = .agg (boxE Y)) :
    (execOp a.eval o).run Try.prog w = .ok (.value (.slice (some ⟨w.heap.size, 0, none⟩) 2 2)) (w.alloc (.cells (ents [X, Y]).toArray 24)) := by
  unfold boxE at ht hu
  unfold execOp
  simp only [ho, List.map_toArray, List.map_cons, List.map_nil, ht, hu]
  go_simp
  rfl
theorem exec_with {w : World} {a : Act} {o : Oper} {t u : Tmp} {x y : Value} (ho : o.op = .call { callee := .value (.func 24), args := #[.tmp t, .tmp u], argTypes := #[37, 37] }) (ht : a.eval (.tmp t) = x) (hu : a.eval (.tmp u) = y) :
    (execOp a.eval o).run Try.prog w = .ok (.enter 24 #[x, y]) w := by
  unfold execOp
  simp only [ho, ht, hu, resolve, invoke, List.map_toArray, List.map_cons, List.map_nil]
  go_simp

/-- What the slots of that region hold. -/
def bothF (O : List Ent) (vO : Value) (X Y : Ent) (j : Nat) (v : Value) (W : World) : Prop :=
  if j = 0 ∨ j = 5 then v = vO else if j = 1 ∨ j = 7 then v = .agg (boxE X) else if j = 2 ∨ j = 6 then v = .agg (boxE Y)
  else if j = 3 then Ents W v [X, Y] else if j = 8 then Ents W v [Y, X] else if j = 4 ∨ j = 10 then RowE W v (withT O [X, Y]) else RowE W v (withT O [Y, X])

theorem bothF_mono {O : List Ent} {vO : Value} {X Y : Ent} {j : Nat} {v : Value} {W W' : World} (hb : RowKit.Below W.heap.size W W') (h : bothF O vO X Y j v W) : bothF O vO X Y j v W' := by
  unfold bothF at h ⊢
  by_cases c1 : j = 0 ∨ j = 5
  · rw [if_pos c1] at h ⊢; exact h
  rw [if_neg c1] at h ⊢
  by_cases c2 : j = 1 ∨ j = 7
  · rw [if_pos c2] at h ⊢; exact h
  rw [if_neg c2] at h ⊢
  by_cases c3 : j = 2 ∨ j = 6
  · rw [if_pos c3] at h ⊢; exact h
  rw [if_neg c3] at h ⊢
  by_cases c4 : j = 3
  · rw [if_pos c4] at h ⊢; exact h.below hb
  rw [if_neg c4] at h ⊢
  by_cases c5 : j = 8
  · rw [if_pos c5] at h ⊢; exact h.below hb
  rw [if_neg c5] at h ⊢
  by_cases c6 : j = 4 ∨ j = 10
  · rw [if_pos c6] at h ⊢; exact h.below hb
  rw [if_neg c6] at h ⊢
  exact h.below hb

set_option maxRecDepth 100000 in
set_option maxHeartbeats 1000000 in
/-- A list with two entries, and with them the other way round. -/
theorem region_both {id : Nat} {ops : Array Oper} {Q : Exit → Act → World → Prop} {a0 : Act} {w : World} (S : Nat → Tmp) (tO tX tY : Tmp) (s0 s1 s2 s3 s4 s5 s6 s7 s8 s9 s10 s11 : String) (gX gY : Nat) (O : List Ent) (vO : Value) (X Y : Ent) (e10 e11 : Array Edge)
    (hops : ops = #[{ dst := some (S 0), op := .move (.tmp tO), type := 37, pos := s0, after := #[], guard := none },
      { dst := some (S 1), op := .load 24 (.tmp tX), type := 24, pos := s1, after := #[], guard := none },
      { dst := some (S 2), op := .load 24 (.tmp tY), type := 24, pos := s2, after := #[], guard := none },
      { dst := some (S 3), op := .buildSlice 37 2 #[(0, .tmp (S 1)), (1, .tmp (S 2))], type := 37, pos := s3, after := #[{ on := 1, ground := .data }, { on := 2, ground := .data }], guard := none },
      { dst := some (S 4), op := .call { callee := .value (.func 24), args := #[.tmp (S 0), .tmp (S 3)], argTypes := #[37, 37] }, type := 37, pos := s4, after := #[{ on := 0, ground := .data }, { on := 3, ground := .data }], guard := none },
      { dst := some (S 5), op := .move (.tmp tO), type := 37, pos := s5, after := #[], guard := none },
      { dst := some (S 6), op := .load 24 (.tmp tY), type := 24, pos := s6, after := #[], guard := none },
      { dst := some (S 7), op := .load 24 (.tmp tX), type := 24, pos := s7, after := #[], guard := none },
      { dst := some (S 8), op := .buildSlice 37 2 #[(0, .tmp (S 6)), (1, .tmp (S 7))], type := 37, pos := s8, after := #[{ on := 6, ground := .data }, { on := 7, ground := .data }], guard := none },
      { dst := some (S 9), op := .call { callee := .value (.func 24), args := #[.tmp (S 5), .tmp (S 8)], argTypes := #[37, 37] }, type := 37, pos := s9, after := #[{ on := 5, ground := .data }, { on := 8, ground := .data }, { on := 4, ground := .chain }], guard := none },
      { dst := some (S 10), op := .assign (.tmp (S 4)), type := 37, pos := s10, after := e10, guard := none },
      { dst := some (S 11), op := .assign (.tmp (S 9)), type := 37, pos := s11, after := e11, guard := none }])
    (h10 : ∃ e ∈ e10, Region.binds .any e = true ∧ e.on = 4) (h11 : ∃ e ∈ e11, Region.binds .any e = true ∧ e.on = 9) (hB : lowB ops S = true)
    (hm : Try.prog.follows .mixedOrders = true) (hS : ∀ i, i < 12 → ∀ j, j < 12 → S i = S j → i = j) (hSz : ∀ i, i < 12 → S i < a0.tmps.size)
    (hO : a0.tmps[tO]? = some vO) (hX : a0.tmps[tX]? = some (.pointer (some ⟨gX, 0, none⟩))) (hY : a0.tmps[tY]? = some (.pointer (some ⟨gY, 0, none⟩)))
    (nO : ∀ j, j < 12 → S j ≠ tO) (nX : ∀ j, j < 12 → S j ≠ tX) (nY : ∀ j, j < 12 → S j ≠ tY)
    (bX : ∀ W, RowKit.Below w.heap.size w W → Box W gX X) (bY : ∀ W, RowKit.Below w.heap.size w W → Box W gY Y) (rO : ∀ W, RowKit.Below w.heap.size w W → RowE W vO O) (hr : risingE O = true) (hba : Bared O) (hl : O.length ≤ 900)
    (hQ : ∀ v w1, RowKit.Below w.heap.size w w1 → (∀ j, j < 12 → bothF O vO X Y j (v j) w1) → Q .normal (puts S v 12 a0) w1) :
    (Code.region id ops true).wp Try.prog Q a0 w := by
  have hn : ops.size = 12 := by rw [hops]; rfl
  refine wp_region_slots hm 12 hn S (bothF O vO X Y) hB hS hSz (fun W W' hb j v _ h => bothF_mono hb h) ?_ hQ
  intro i o ho a w1 hb hout hins K hK
  have hi : i < 12 := by rw [← hn]; exact (Array.getElem?_eq_some_iff.1 ho).1
  have ho' := ho
  rw [hops] at ho'
  have load : ∀ (t g : Nat) (e : Ent), a0.tmps[t]? = some (.pointer (some ⟨g, 0, none⟩)) → (∀ j, j < 12 → S j ≠ t) → Box w1 g e → ∀ o : Oper, o.op = .load 24 (.tmp t) → (execOp a.eval o).run Try.prog w1 = .ok (.value (.agg (boxE e))) w1 := fun t g e h0 hn hbx o hop => by
    obtain ⟨k0, k1, k2⟩ := hbx.cells
    exact exec_load3 (.inr rfl) hop (eval_tmp ((hout t hn).trans h0)) k0 k1 k2
  have call : ∀ (t u : Tmp) (E : List Ent) (v : Value), a.tmps[t]? = some vO → a.tmps[u]? = some v → Ents w1 v E → E.length = 2 → ∀ o : Oper, o.op = .call { callee := .value (.func 24), args := #[.tmp t, .tmp u], argTypes := #[37, 37] } → ops[i]? = some o → o.guard = none →
      (∀ v w2, RowKit.Below w1.heap.size w1 w2 → RowE w2 v (withT O E) → K (a.put o.dst v) w2) → wpOp Try.prog ops Q i K a w1 := fun t u E v ht hu he hE o hop ho hg hk => by
    refine step_op ho hg ?_
    unfold Oper.wp
    rw [exec_with hop (eval_tmp ht) (eval_tmp hu), Oper.upon_enter]
    refine (with_any O E vO v w1 hr hba (rO w1 hb) he (by omega) (by omega)).mono ?_
    rintro e w2 ⟨v2, rfl, h2, hb2⟩
    exact hk v2 w2 hb2 h2
  rcases (show i = 0 ∨ i = 1 ∨ i = 2 ∨ i = 3 ∨ i = 4 ∨ i = 5 ∨ i = 6 ∨ i = 7 ∨ i = 8 ∨ i = 9 ∨ i = 10 ∨ i = 11 by omega) with rfl | rfl | rfl | rfl | rfl | rfl | rfl | rfl | rfl | rfl | rfl | rfl
  all_goals
    simp at ho'
    subst ho'
  · exact step_op ho rfl (upon_value (exec_move rfl (eval_tmp ((hout tO nO).trans hO))) (hK _ _ (RowKit.Below.refl _ _) rfl))
  · exact step_op ho rfl (upon_value (load tX gX X hX nX (bX _ hb) _ rfl) (hK _ _ (RowKit.Below.refl _ _) rfl))
  · exact step_op ho rfl (upon_value (load tY gY Y hY nY (bY _ hb) _ rfl) (hK _ _ (RowKit.Below.refl _ _) rfl))
  · obtain ⟨v1, y1, f1⟩ := hins ⟨1, .data⟩ (by simp) rfl
    obtain ⟨v2, y2, f2⟩ := hins ⟨2, .data⟩ (by simp) rfl
    obtain rfl : v1 = .agg (boxE X) := f1
    obtain rfl : v2 = .agg (boxE Y) := f2
    exact step_op ho rfl (upon_value (exec_two rfl (eval_tmp y1) (eval_tmp y2)) (hK _ _ (below_alloc w1 _) (ents_lit [X, Y] w1)))
  · obtain ⟨v1, y1, f1⟩ := hins ⟨0, .data⟩ (by simp) rfl
    obtain ⟨v2, y2, f2⟩ := hins ⟨3, .data⟩ (by simp) rfl
    obtain rfl : v1 = vO := f1
    exact call _ _ [X, Y] v2 y1 y2 f2 rfl _ rfl ho rfl (fun v w2 h1 h2 => hK v w2 h1 h2)
  · exact step_op ho rfl (upon_value (exec_move rfl (eval_tmp ((hout tO nO).trans hO))) (hK _ _ (RowKit.Below.refl _ _) rfl))
  · exact step_op ho rfl (upon_value (load tY gY Y hY nY (bY _ hb) _ rfl) (hK _ _ (RowKit.Below.refl _ _) rfl))
  · exact step_op ho rfl (upon_value (load tX gX X hX nX (bX _ hb) _ rfl) (hK _ _ (RowKit.Below.refl _ _) rfl))
  · obtain ⟨v1, y1, f1⟩ := hins ⟨6, .data⟩ (by simp) rfl
    obtain ⟨v2, y2, f2⟩ := hins ⟨7, .data⟩ (by simp) rfl
    obtain rfl : v1 = .agg (boxE Y) := f1
    obtain rfl : v2 = .agg (boxE X) := f2
    exact step_op ho rfl (upon_value (exec_two rfl (eval_tmp y1) (eval_tmp y2)) (hK _ _ (below_alloc w1 _) (ents_lit [Y, X] w1)))
  · obtain ⟨v1, y1, f1⟩ := hins ⟨5, .data⟩ (by simp) rfl
    obtain ⟨v2, y2, f2⟩ := hins ⟨8, .data⟩ (by simp) rfl
    obtain rfl : v1 = vO := f1
    exact call _ _ [Y, X] v2 y1 y2 f2 rfl _ rfl ho rfl (fun v w2 h1 h2 => hK v w2 h1 h2)
  · obtain ⟨e, he, hbi, h4⟩ := h10
    obtain ⟨v1, y1, f1⟩ := hins e he hbi
    rw [h4] at y1 f1
    exact step_op ho rfl (upon_value (exec_assign rfl (eval_tmp y1)) (hK _ _ (RowKit.Below.refl _ _) f1))
  · obtain ⟨e, he, hbi, h4⟩ := h11
    obtain ⟨v1, y1, f1⟩ := hins e he hbi
    rw [h4] at y1 f1
    exact step_op ho rfl (upon_value (exec_assign rfl (eval_tmp y1)) (hK _ _ (RowKit.Below.refl _ _) f1))
end Go.Proofs.Ytfnmmnbndfdpiaa

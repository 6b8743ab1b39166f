/-
  A region that draws its order, each operation of which writes a slot of its own (a chain of '&&' whose guards all hold): each slot holds what it shall, whatever has come up. Steps by the kind of the operation. A region that draws its order and changes nothing that stood: its operations are walked in the text's order, once; of each value it is said what it is, or what holds of it; operations whose guard fails are struck.
-/
import Derived.Test.YthgdanbkngnckaaT02
import Derived.Orders
set_option linter.unusedVariables false
set_option linter.unusedSimpArgs false
namespace Go.Proofs.Ythgdanbkngnckaa
open Go.RowKit

namespace Chain
section
variable {P : Program} {ops : Array Oper}

/-- How many operations have not come up. -/
def notYet (ops : Array Oper) (listed : Array Bool) : Nat := ((List.range ops.size).filter fun i => !listed.getD i true).length

theorem notYet_set {listed : Array Bool} {i : Nat} (hi : i < ops.size) (hs : listed.size = ops.size) (hun : listed.getD i true = false) : notYet ops (listed.setIfInBounds i true) < notYet ops listed := by
  unfold notYet
  rw [← List.countP_eq_length_filter, ← List.countP_eq_length_filter]
  have hle : ∀ l : List Nat, l.countP (fun j => !(listed.setIfInBounds i true).getD j true) ≤ l.countP (fun j => !listed.getD j true) := fun l => by
    refine List.countP_mono_left fun j _ h => ?_
    by_cases e : i = j
    · subst e
      simp [hs, hi] at h
    · rwa [Array.getD_eq_getD_getElem?, Array.getElem?_setIfInBounds_ne e, ← Array.getD_eq_getD_getElem?] at h
  have hm : i ∈ List.range ops.size := List.mem_range.2 hi
  obtain ⟨l1, l2, hl⟩ := List.append_of_mem hm
  rw [hl, List.countP_append, List.countP_append, List.countP_cons, List.countP_cons]
  have h1 := hle l1
  have h2 := hle l2
  have h3 : (!(listed.setIfInBounds i true).getD i true) = false := by simp [hs, hi]
  have h4 : (!listed.getD i true) = true := by rw [hun]; rfl
  rw [h3, h4]
  simp only [Bool.false_eq_true, if_false, if_true]
  omega

theorem mem_ready' {listed : Array Bool} {i : Nat} : i ∈ Region.ready .any ops listed ↔ listed.getD i true = false ∧ ∃ o, ops[i]? = some o ∧ ∀ e ∈ o.after, Region.binds .any e = true → listed.getD e.on false = true := by
  unfold Region.ready
  rw [List.mem_filter, List.mem_range]
  constructor
  · rintro ⟨h1, h2⟩
    rw [Bool.and_eq_true] at h2
    refine ⟨by simpa using h2.1, ops[i], Array.getElem?_eq_getElem h1, fun e he hb => ?_⟩
    have h3 := h2.2
    rw [Array.getElem?_eq_getElem h1] at h3
    simp only [Option.map_some, Option.getD_some] at h3
    have := Array.all_eq_true_iff_forall_mem.1 h3 e he
    rw [hb] at this
    simpa using this
  · rintro ⟨h1, o, h2, h3⟩
    refine ⟨(Array.getElem?_eq_some_iff.1 h2).1, ?_⟩
    rw [h1, h2]
    simp only [Option.map_some, Option.getD_some, Bool.not_false, Bool.true_and]
    refine Array.all_eq_true_iff_forall_mem.2 fun e he => ?_
    cases hb : Region.binds .any e with
    | false => rfl
    | true => rw [h3 e he hb]; rfl

theorem wp_region_inv {id : Nat} {Q : Exit → Act → World → Prop} {a0 : Act} {w : World} (hm : P.follows .mixedOrders = true) (I : Array Bool → Act → World → Prop)
    (hsz : ∀ listed a w1, I listed a w1 → listed.size = ops.size)
    (h0 : I (Array.replicate ops.size false) a0 { w with drawn := w.drawn + 1 })
    (hstep : ∀ listed a w1, I listed a w1 → ∀ i ∈ Region.ready .any ops listed, ∀ K : Act → World → Prop, (∀ a' w2, I (listed.setIfInBounds i true) a' w2 → K a' w2) → wpOp P ops Q i K a w1)
    (hend : ∀ listed a w1, I listed a w1 → Region.ready .any ops listed = [] → Q .normal a w1) : (Code.region id ops true).wp P Q a0 w := by
  refine wp_region_any hm ?_
  have main : ∀ (fuel : Nat) (listed : Array Bool) (a : Act) (w1 : World), I listed a w1 → notYet ops listed ≤ fuel → wpAny P .any ops Q fuel listed a w1 := by
    intro fuel
    induction fuel with
    | zero =>
      intro listed a w1 h hu
      have hr : Region.ready .any ops listed = [] := by
        cases hl : Region.ready .any ops listed with
        | nil => rfl
        | cons i r =>
          have hi : i ∈ Region.ready .any ops listed := by rw [hl]; simp
          obtain ⟨hun, o, ho, _⟩ := mem_ready'.1 hi
          have := notYet_set (ops := ops) (i := i) (Array.getElem?_eq_some_iff.1 ho).1 (hsz _ _ _ h) hun
          omega
      exact ⟨hr, hend listed a w1 h hr⟩
    | succ fuel ih =>
      intro listed a w1 h hu
      refine ⟨fun hr => hend listed a w1 h hr, fun i hi => hstep listed a w1 h i hi _ fun a' w2 h2 => ih _ a' w2 h2 ?_⟩
      obtain ⟨hun, o, ho, _⟩ := mem_ready'.1 hi
      have := notYet_set (ops := ops) (i := i) (Array.getElem?_eq_some_iff.1 ho).1 (hsz _ _ _ h) hun
      omega
  refine main _ _ _ _ h0 ?_
  unfold notYet
  exact Nat.le_trans (List.length_filter_le ..) (by simp)

theorem put_ne {a : Act} {d t : Tmp} {v : Value} (h : d ≠ t) : (a.put (some d) v).tmps[t]? = a.tmps[t]? := by
  simp [Act.put, Array.getElem?_setIfInBounds_ne h]
theorem put_eq {a : Act} {d : Tmp} {v : Value} (h : d < a.tmps.size) : (a.put (some d) v).tmps[d]? = some v := by
  simp [Act.put, h]
theorem put_size (a : Act) (d : Option Tmp) (v : Value) : (a.put d v).tmps.size = a.tmps.size := by
  cases d <;> simp [Act.put]
theorem put_defers (a : Act) (d : Option Tmp) (v : Value) : (a.put d v).defers = a.defers := by cases d <;> rfl
theorem eval_at {a : Act} {t : Tmp} {v : Value} (h : a.tmps[t]? = some v) : a.eval (.tmp t) = v := by
  simp [Act.eval, Array.getD_eq_getD_getElem?, h]
theorem listed_self {listed : Array Bool} {i : Nat} (h : i < listed.size) : (listed.setIfInBounds i true).getD i false = true := by simp [h]
theorem listed_ne {listed : Array Bool} {i j : Nat} (h : i ≠ j) (d : Bool) : (listed.setIfInBounds i true).getD j d = listed.getD j d := by
  rw [Array.getD_eq_getD_getElem?, Array.getElem?_setIfInBounds_ne h, ← Array.getD_eq_getD_getElem?]
end
end Chain

/-- A region, its operations' slots, what each shall hold (a value, or what is said of it), and where it begins. -/
structure Ch where
  P : Program
  ops : Array Oper
  n : Nat
  S : Nat → Tmp
  C : Nat → Option Value
  R : Nat → Value → World → Prop
  a0 : Act
  w : World

namespace Ch
def F (E : Ch) (j : Nat) (v : Value) (W : World) : Prop := match E.C j with
  | some c => v = c
  | none => E.R j v W
theorem F_of {E : Ch} {j : Nat} {c : Value} (h : E.C j = some c) {v : Value} {W : World} : E.F j v W ↔ v = c := by unfold F; rw [h]
theorem F_no {E : Ch} {j : Nat} (h : E.C j = none) {v : Value} {W : World} : E.F j v W ↔ E.R j v W := by unfold F; rw [h]
/-- Does operation i wait for operation j? -/
def dep (E : Ch) (i j : Nat) : Bool := match E.ops[i]? with
  | none => false
  | some o => o.after.any fun e => e.on == j && Region.binds .any e
def low (E : Ch) : Bool := (List.range E.n).all fun i => match E.ops[i]? with
  | none => false
  | some o => o.dst == some (E.S i) && (o.after.all fun e => decide (e.on < i)) && match o.guard with
    | none => true
    | some (g, b) => decide (g < i) && E.dep i g && match E.C g with
      | some (.bool b') => b == b'
      | _ => false
/-- A slot that the region does not write. -/
def Out (E : Ch) (t : Tmp) : Prop := ∀ j, j < E.n → E.S j ≠ t
def Step (E : Ch) (i : Nat) : Prop := ∀ (o : Oper), E.ops[i]? = some o → ∀ (Q : Exit → Act → World → Prop) (a : Act) (w1 : World), Below E.w.heap.size E.w w1 →
  (∀ t, E.Out t → a.tmps[t]? = E.a0.tmps[t]?) → (∀ j, E.dep i j = true → ∃ v, a.tmps[E.S j]? = some v ∧ E.F j v w1) →
  ∀ K : Act → World → Prop, (∀ v w2, Below w1.heap.size w1 w2 → E.F i v w2 → K (a.put o.dst v) w2) → o.wp E.P a w1 K Q

theorem all_of {p : Nat → Prop} {n : Nat} (l : List {i : Nat // p i}) (h : l.map (·.1) = List.range n) (i : Nat) (hi : i < n) : p i := by
  have : i ∈ l.map (·.1) := by rw [h]; exact List.mem_range.2 hi
  obtain ⟨x, _, rfl⟩ := List.mem_map.1 this
  exact x.2

theorem region (E : Ch) {id : Nat} {Q : Exit → Act → World → Prop} (hm : E.P.follows .mixedOrders = true) (hn : E.ops.size = E.n) (hB : E.low = true)
    (hS : ∀ i, i < E.n → ∀ j, j < E.n → E.S i = E.S j → i = j) (hSz : ∀ i, i < E.n → E.S i < E.a0.tmps.size)
    (hR : ∀ W W', Below W.heap.size W W' → ∀ j v, E.C j = none → E.R j v W → E.R j v W')
    (hst : ∀ i, i < E.n → E.Step i)
    (hend : ∀ a w1, a.defers = E.a0.defers → Below E.w.heap.size E.w w1 → (∀ j, j < E.n → ∃ v, a.tmps[E.S j]? = some v ∧ E.F j v w1) → Q .normal a w1) : (Code.region id E.ops true).wp E.P Q E.a0 E.w := by
  have hF : ∀ W W', Below W.heap.size W W' → ∀ j v, E.F j v W → E.F j v W' := fun W W' hb j v h => by
    unfold F at h ⊢
    cases hc : E.C j with
    | some c => rw [hc] at h; exact h
    | none => rw [hc] at h; exact hR W W' hb j v hc h
  have bin' : ∀ (L : Array Bool) (i : Nat), i < L.size → L.getD i false = false → L.getD i true = false := fun L i hi h => by
    rw [Array.getD_eq_getD_getElem?, Array.getElem?_eq_getElem hi] at h ⊢
    exact h
  have low_at : ∀ i o, E.ops[i]? = some o → o.dst = some (E.S i) ∧ (∀ e ∈ o.after, e.on < i) ∧ ∀ g b, o.guard = some (g, b) → g < i ∧ E.dep i g = true ∧ E.C g = some (.bool b) := fun i o ho => by
    have hi : i < E.n := by rw [← hn]; exact (Array.getElem?_eq_some_iff.1 ho).1
    have h := List.all_eq_true.1 hB i (List.mem_range.2 hi)
    simp only [ho, Bool.and_eq_true] at h
    obtain ⟨⟨h1, h2⟩, h3⟩ := h
    refine ⟨by simpa using h1, fun e he => of_decide_eq_true (Array.all_eq_true_iff_forall_mem.1 h2 e he), fun g b hg => ?_⟩
    rw [hg] at h3
    simp only [Bool.and_eq_true] at h3
    obtain ⟨⟨h3, h4⟩, h5⟩ := h3
    refine ⟨of_decide_eq_true h3, h4, ?_⟩
    cases hc : E.C g with
    | none => rw [hc] at h5; cases h5
    | some c =>
      rw [hc] at h5
      cases c <;> first | cases h5 | (simp at h5; rw [h5])
  refine Chain.wp_region_inv hm (fun L a w1 => L.size = E.n ∧ Below E.w.heap.size E.w w1 ∧ a.tmps.size = E.a0.tmps.size ∧ a.defers = E.a0.defers ∧ (∀ t, E.Out t → a.tmps[t]? = E.a0.tmps[t]?) ∧ ∀ j, j < E.n → L.getD j false = true → ∃ v, a.tmps[E.S j]? = some v ∧ E.F j v w1) (fun L a w1 h => by rw [hn]; exact h.1) ?_ ?_ ?_
  · exact ⟨by simp [hn], Below.drew (Below.refl _ E.w), rfl, rfl, fun _ _ => rfl, (fun j hj h => by rw [hn] at h; simp [hj] at h)⟩
  · intro L a w1 ⟨hs, hb, hz, hd, hout, hins⟩ i hi K hK
    obtain ⟨hun, o, ho, hall⟩ := Chain.mem_ready'.1 hi
    have hin : i < E.n := by rw [← hn]; exact (Array.getElem?_eq_some_iff.1 ho).1
    obtain ⟨hdst, hlow, hgd⟩ := low_at i o ho
    have hins' : ∀ j, E.dep i j = true → ∃ v, a.tmps[E.S j]? = some v ∧ E.F j v w1 := fun j hj => by
      unfold dep at hj
      simp only [ho] at hj
      obtain ⟨k, hk, h2⟩ := Array.any_eq_true.1 hj
      have he : o.after[k] ∈ o.after := Array.getElem_mem hk
      generalize o.after[k] = e at he h2
      rw [Bool.and_eq_true] at h2
      have e1 : e.on = j := by simpa using h2.1
      subst e1
      exact hins e.on (by have := hlow e he; omega) (hall e he h2.2)
    have hw : Region.wanted o (yielded E.ops a.tmps) = true := by
      cases hg : o.guard with
      | none => simp [Region.wanted, hg]
      | some gb =>
        obtain ⟨g, b⟩ := gb
        obtain ⟨h1, h2, h3⟩ := hgd g b hg
        obtain ⟨v, hv, hf⟩ := hins' g h2
        obtain rfl := (F_of h3).1 hf
        have hgo : ∃ og, E.ops[g]? = some og := ⟨_, Array.getElem?_eq_getElem (by omega)⟩
        obtain ⟨og, hog⟩ := hgo
        have hdg := (low_at g og hog).1
        have hy : yielded E.ops a.tmps g = some b := by
          unfold yielded
          rw [hog]
          simp only [Option.bind_some, hdg, hv]
        simp [Region.wanted, hg, hy]
    have hwp := hst i hin o ho Q a w1 hb hout hins' K fun v w2 hb2 hf => hK _ _ ⟨by simpa using hs, hb.trans (hb2.mono hb.size), by rw [Chain.put_size]; exact hz, by rw [Chain.put_defers]; exact hd, fun t ht => by rw [hdst, Chain.put_ne (ht i hin)]; exact hout t ht, fun j hj hl => by
      rw [hdst]
      by_cases e : i = j
      · subst e
        exact ⟨v, Chain.put_eq (by rw [hz]; exact hSz i hin), hf⟩
      · rw [Chain.listed_ne e] at hl
        obtain ⟨u, hu, hf'⟩ := hins j hj hl
        exact ⟨u, by rw [Chain.put_ne (fun e' => e (hS i hin j hj e'))]; exact hu, hF _ _ hb2 j u hf'⟩⟩
    unfold wpOp
    simp only [ho]
    rw [if_pos hw]
    exact .inl hwp
  · intro L a w1 ⟨hs, hb, hz, hd, hout, hins⟩ hr
    refine hend a w1 hd hb fun j hj => hins j hj ?_
    induction j using Nat.strongRecOn with
    | _ j ih =>
      cases hl : L.getD j false with
      | true => rfl
      | false =>
        exfalso
        have ho : E.ops[j]? = some (E.ops[j]'(by omega)) := Array.getElem?_eq_getElem (by omega)
        obtain ⟨_, hlow, _⟩ := low_at j _ ho
        have : j ∈ Region.ready .any E.ops L := Chain.mem_ready'.2 ⟨bin' L j (by omega) hl, _, ho, fun e he _ => ih e.on (hlow e he) (by have := hlow e he; omega)⟩
        rw [hr] at this
        cases this

/-! The steps. -/

theorem op_at {E : Ch} {i : Nat} {p : Op} (h : (E.ops[i]?).map (·.op) = some p) {o : Oper} (ho : E.ops[i]? = some o) : o.op = p := by
  rw [ho] at h
  simpa using h

theorem upon_value {P : Program} {Q : Exit → Act → World → Prop} {a : Act} {o : Oper} {K : Act → World → Prop} {w w' : World} {v : Value} (h : (execOp a.eval o).run P w = .ok (.value v) w') (hK : K (a.put o.dst v) w') : o.wp P a w K Q := by
  unfold Oper.wp
  rw [h]
  exact hK

theorem ex_move {P : Program} {w : World} {a : Act} {o : Oper} {t : Tmp} {v : Value} (ho : o.op = .move (.tmp t)) (ht : a.tmps[t]? = some v) : (execOp a.eval o).run P w = .ok (.value v) w := by
  unfold execOp
  simp only [ho, Chain.eval_at ht]
  go_simp
theorem ex_assign {P : Program} {w : World} {a : Act} {o : Oper} {t : Tmp} {v : Value} (ho : o.op = .assign (.tmp t)) (ht : a.tmps[t]? = some v) : (execOp a.eval o).run P w = .ok (.value v) w := by
  unfold execOp
  simp only [ho, Chain.eval_at ht]
  go_simp

theorem s_move_out {E : Ch} {i : Nat} (t : Tmp) (c : Value) (hop : (E.ops[i]?).map (·.op) = some (.move (.tmp t))) (ht : E.Out t) (h0 : E.a0.tmps[t]? = some c) (hc : E.C i = some c) : E.Step i :=
  fun o ho _ _ w1 _ hout _ _ hK => upon_value (ex_move (op_at hop ho) ((hout t ht).trans h0)) (hK _ _ (Below.refl _ _) ((F_of hc).2 rfl))
theorem s_move {E : Ch} {i : Nat} (j : Nat) (c : Value) (hop : (E.ops[i]?).map (·.op) = some (.move (.tmp (E.S j)))) (hd : E.dep i j = true) (hj : E.C j = some c) (hc : E.C i = some c) : E.Step i :=
  fun o ho _ _ w1 _ _ hin _ hK => by
    obtain ⟨v, hv, hf⟩ := hin j hd
    obtain rfl := (F_of hj).1 hf
    exact upon_value (ex_move (op_at hop ho) hv) (hK _ _ (Below.refl _ _) ((F_of hc).2 rfl))
theorem s_assign {E : Ch} {i : Nat} (j : Nat) (c : Value) (hop : (E.ops[i]?).map (·.op) = some (.assign (.tmp (E.S j)))) (hd : E.dep i j = true) (hj : E.C j = some c) (hc : E.C i = some c) : E.Step i :=
  fun o ho _ _ w1 _ _ hin _ hK => by
    obtain ⟨v, hv, hf⟩ := hin j hd
    obtain rfl := (F_of hj).1 hf
    exact upon_value (ex_assign (op_at hop ho) hv) (hK _ _ (Below.refl _ _) ((F_of hc).2 rfl))
theorem s_not {E : Ch} {i : Nat} (j : Nat) (b : Bool) (hop : (E.ops[i]?).map (·.op) = some (.unOp .not 4 (.tmp (E.S j)))) (hP : E.P = Try.prog) (hd : E.dep i j = true) (hj : E.C j = some (.bool b)) (hc : E.C i = some (.bool !b)) : E.Step i :=
  fun o ho _ a w1 _ _ hin _ hK => by
    obtain ⟨v, hv, hf⟩ := hin j hd
    obtain rfl := (F_of hj).1 hf
    refine upon_value (v := .bool !b) ?_ (hK _ _ (Below.refl _ _) ((F_of hc).2 rfl))
    unfold execOp
    simp only [op_at hop ho, Chain.eval_at hv, hP]
    go_simp
theorem s_pick {E : Ch} {i : Nat} (j k : Nat) (b : Bool) (hop : (E.ops[i]?).map (·.op) = some (.pick (.tmp (E.S j)) (.tmp (E.S k)) (.const (.bool false)))) (hd : E.dep i j = true) (hd2 : E.dep i k = true) (hj : E.C j = some (.bool true)) (hk : E.C k = some (.bool b)) (hc : E.C i = some (.bool b)) : E.Step i :=
  fun o ho _ a w1 _ _ hin _ hK => by
    obtain ⟨v, hv, hf⟩ := hin j hd
    obtain rfl := (F_of hj).1 hf
    obtain ⟨u, hu, hf2⟩ := hin k hd2
    obtain rfl := (F_of hk).1 hf2
    refine upon_value (v := .bool b) ?_ (hK _ _ (Below.refl _ _) ((F_of hc).2 rfl))
    unfold execOp
    simp only [op_at hop ho, Chain.eval_at hv, Chain.eval_at hu]
    go_simp
theorem s_one {E : Ch} {i : Nat} (j : Nat) (p : Op) (x c : Value) (hop : (E.ops[i]?).map (·.op) = some p) (hd : E.dep i j = true) (hj : E.C j = some x) (hc : E.C i = some c)
    (hex : ∀ (a : Act) (W : World) (o : Oper), o.op = p → a.tmps[E.S j]? = some x → (execOp a.eval o).run E.P W = .ok (.value c) W) : E.Step i :=
  fun o ho _ a w1 _ _ hin _ hK => by
    obtain ⟨v, hv, hf⟩ := hin j hd
    obtain rfl := (F_of hj).1 hf
    exact upon_value (hex a w1 o (op_at hop ho) hv) (hK _ _ (Below.refl _ _) ((F_of hc).2 rfl))
theorem s_two {E : Ch} {i : Nat} (j k : Nat) (p : Op) (x y c : Value) (hop : (E.ops[i]?).map (·.op) = some p) (hd : E.dep i j = true) (hd2 : E.dep i k = true) (hj : E.C j = some x) (hk : E.C k = some y) (hc : E.C i = some c)
    (hex : ∀ (a : Act) (W : World) (o : Oper), o.op = p → a.tmps[E.S j]? = some x → a.tmps[E.S k]? = some y → (execOp a.eval o).run E.P W = .ok (.value c) W) : E.Step i :=
  fun o ho _ a w1 _ _ hin _ hK => by
    obtain ⟨v, hv, hf⟩ := hin j hd
    obtain rfl := (F_of hj).1 hf
    obtain ⟨u, hu, hf2⟩ := hin k hd2
    obtain rfl := (F_of hk).1 hf2
    exact upon_value (hex a w1 o (op_at hop ho) hv hu) (hK _ _ (Below.refl _ _) ((F_of hc).2 rfl))
/-- One operand of which something is said. -/
theorem s_of {E : Ch} {i : Nat} (j : Nat) (p : Op) (c : Value) (hop : (E.ops[i]?).map (·.op) = some p) (hd : E.dep i j = true) (hj : E.C j = none) (hc : E.C i = some c)
    (hex : ∀ (a : Act) (W : World) (o : Oper) (v : Value), o.op = p → a.tmps[E.S j]? = some v → E.R j v W → (execOp a.eval o).run E.P W = .ok (.value c) W) : E.Step i :=
  fun o ho _ a w1 _ _ hin _ hK => by
    obtain ⟨v, hv, hf⟩ := hin j hd
    exact upon_value (hex a w1 o v (op_at hop ho) hv ((F_no hj).1 hf)) (hK _ _ (Below.refl _ _) ((F_of hc).2 rfl))
/-- No operand of the region's own. -/
theorem s_none {E : Ch} {i : Nat} (p : Op) (c : Value) (hop : (E.ops[i]?).map (·.op) = some p) (hc : E.C i = some c)
    (hex : ∀ (a : Act) (W : World) (o : Oper), o.op = p → Below E.w.heap.size E.w W → (∀ t, E.Out t → a.tmps[t]? = E.a0.tmps[t]?) → (execOp a.eval o).run E.P W = .ok (.value c) W) : E.Step i :=
  fun o ho _ a w1 hb hout _ _ hK => upon_value (hex a w1 o (op_at hop ho) hb hout) (hK _ _ (Below.refl _ _) ((F_of hc).2 rfl))

/-- A call: with its arguments as they are. -/
theorem s_call {E : Ch} {i : Nat} (f : Nat) (p : Op) (hop : (E.ops[i]?).map (·.op) = some p)
    (hex : ∀ (a : Act) (W : World) (o : Oper), o.op = p → Below E.w.heap.size E.w W → (∀ t, E.Out t → a.tmps[t]? = E.a0.tmps[t]?) → (∀ j, E.dep i j = true → ∃ v, a.tmps[E.S j]? = some v ∧ E.F j v W) →
      ∃ args, (execOp a.eval o).run E.P W = .ok (.enter f args) W ∧ Calls E.P f args W fun e w' => ∃ v, e = .returned v ∧ E.F i v w' ∧ Below W.heap.size W w') : E.Step i :=
  fun o ho Q a w1 hb hout hin K hK => by
    obtain ⟨args, h1, h2⟩ := hex a w1 o (op_at hop ho) hb hout hin
    unfold Oper.wp
    rw [h1, Oper.upon_enter]
    refine h2.mono ?_
    rintro e w' ⟨v, rfl, h3, h4⟩
    exact hK v w' h4 h3
theorem ex_call0 {P : Program} {w : World} {a : Act} {o : Oper} {f : Nat} {T : Array TypeId} (c : Array Value) (l : Array Operand) (hl : l.map a.eval = c) (hf : ∀ (c : Array Value) (W : World), Sem.run P (callFunc f c) W = .ok (.enter f c) W) (ho : o.op = .call { callee := .value (.func f), args := l, argTypes := T }) : (execOp a.eval o).run P w = .ok (.enter f c) w := by
  subst hl
  unfold execOp
  simp only [ho, resolve, invoke]
  go_simp
end Ch
end Go.Proofs.Ythgdanbkngnckaa
namespace Go.Proofs.Ythgdanbkngnckaa
open Go.RowKit

/-- What is said of an operation's value. -/
inductive Said where
  | is (c : Value)
  | has (R : Value → World → Prop)

namespace Said
def F : Said → Value → World → Prop
  | .is c, v, _ => v = c
  | .has R, v, W => R v W
def val : Said → Value → Value
  | .is c, _ => c
  | .has _, v => v
end Said

def depB (o : Oper) (j : Nat) : Bool := o.after.any fun e => e.on == j && Region.binds .any e
/-- What is known of the values that an operation waits for. -/
def factsOf (o : Oper) : List (Nat × (World → Prop)) → World → Prop
  | [], _ => True
  | p :: r, W => (depB o p.1 = true → p.2 W) ∧ factsOf o r W

def StepOk (P : Program) (ops : Array Oper) (o : Oper) (a : Act) (W : World) (F : Value → World → Prop) : Prop :=
  (Region.wanted o (yielded ops a.tmps) = true ∧ ∀ (Q : Exit → Act → World → Prop) (K : Value → World → Prop), (∀ v w2, Below W.heap.size W w2 → F v w2 → K v w2) → ∀ b : Act, execOp b.eval o = execOp a.eval o → o.wp P b W (fun a' w2 => ∃ v, a' = b.put o.dst v ∧ K v w2) Q) ∨
  (Region.wanted o (yielded ops a.tmps) = false ∧ F undef W)

def Mono (R : Value → World → Prop) : Prop := ∀ v W W', Below W.heap.size W W' → R v W → R v W'

def Ob (P : Program) (ops : Array Oper) (w0 : World) (o : Oper) (K : List (Nat × (World → Prop))) (a : Act) (F : Value → World → Prop) : Prop :=
  ∀ W, Below w0.heap.size w0 W → factsOf o K W → StepOk P ops o a W F

def sq (P : Program) (ops : Array Oper) (w0 : World) (Q : Act → World → Prop) : List Oper → List Said → Nat → List (Nat × (World → Prop)) → Act → Prop
  | [], _, _, K, a => ∀ W, Below w0.heap.size w0 W → (∀ p ∈ K, p.2 W) → Q a W
  | o :: l, .is c :: L, k, K, a => Ob P ops w0 o K a (fun v _ => v = c) ∧ sq P ops w0 Q l L (k + 1) K (a.put o.dst c)
  | o :: l, .has R :: L, k, K, a => Mono R ∧ Ob P ops w0 o K a R ∧ ∀ v, sq P ops w0 Q l L (k + 1) ((k, R v) :: K) (a.put o.dst v)
  | _ :: _, [], _, _, _ => False

/-- The region's form: of the first m operations each looks only at slots that none of them writes, or that one writes for which it waits. -/
def fitB (ops : Array Oper) (m : Nat) : Bool := (List.range ops.size).all fun i => match ops[i]? with
  | none => false
  | some o => (o.after.all fun e => decide (e.on < i) || !Region.binds .any e) && (decide (m ≤ i) || ((List.range ops.size).all fun j => decide (m ≤ j) || match ops[j]? with
    | none => false
    | some oj => match oj.dst with
      | none => true
      | some t => (!(o.looksAt ops).contains t || (decide (j < i) && depB o j)) && (j == i || o.dst != some t)) && match o.op with
        | .select _ _ => false
        | _ => true)

namespace Said
section
variable {P : Program} {ops : Array Oper} {w0 : World} {Q : Act → World → Prop} {S : List Said} {a0 : Act}

def sa (S : List Said) (k : Nat) : Said := S.getD k (.is undef)
def dst (ops : Array Oper) (k : Nat) : Option Tmp := (ops[k]?).bind (·.dst)
def A (ops : Array Oper) (S : List Said) (a0 : Act) (V : Nat → Value) : Nat → Act
  | 0 => a0
  | k + 1 => (A ops S a0 V k).put (dst ops k) ((sa S k).val (V k))
def Kn (S : List Said) (V : Nat → Value) : Nat → List (Nat × (World → Prop))
  | 0 => []
  | k + 1 => match sa S k with
    | .is _ => Kn S V k
    | .has R => (k, R (V k)) :: Kn S V k

theorem sq_at {m : Nat} (hm : m ≤ ops.size) (h : sq P ops w0 Q (ops.toList.take m) S 0 [] a0) (V : Nat → Value) : ∀ k, k ≤ m → sq P ops w0 Q ((ops.toList.take m).drop k) (S.drop k) k (Kn S V k) (A ops S a0 V k)
  | 0, _ => h
  | k + 1, hk => by
    have ih := sq_at hm h V k (by omega)
    have hlt : k < (ops.toList.take m).length := by rw [List.length_take, Array.length_toList]; omega
    rw [List.drop_eq_getElem_cons hlt] at ih
    have hd : dst ops k = ((ops.toList.take m)[k]).dst := by
      unfold dst
      rw [Array.getElem?_eq_getElem (by omega)]
      simp
    by_cases hS : k < S.length
    · rw [List.drop_eq_getElem_cons hS] at ih
      have hsa : sa S k = S[k] := by unfold sa; rw [List.getD_eq_getElem?_getD, List.getElem?_eq_getElem hS]; rfl
      simp only [A, Kn, hsa, hd]
      generalize S[k] = s at ih ⊢
      cases s with
      | is c => exact ih.2
      | has R => exact ih.2.2 (V k)
    · rw [List.drop_of_length_le (by omega : S.length ≤ k)] at ih
      exact ih.elim

theorem ob_at {m : Nat} (hm : m ≤ ops.size) (h : sq P ops w0 Q (ops.toList.take m) S 0 [] a0) (V : Nat → Value) (k : Nat) (hk : k < m) (o : Oper) (ho : ops[k]? = some o) : Ob P ops w0 o (Kn S V k) (A ops S a0 V k) (sa S k).F ∧ ∀ R, sa S k = .has R → Mono R := by
  have ih := sq_at hm h V k (by omega)
  have hlt : k < (ops.toList.take m).length := by rw [List.length_take, Array.length_toList]; omega
  rw [List.drop_eq_getElem_cons hlt] at ih
  have he : (ops.toList.take m)[k] = o := by
    have := (Array.getElem?_eq_some_iff.1 ho).2
    simpa using this
  rw [he] at ih
  by_cases hS : k < S.length
  · rw [List.drop_eq_getElem_cons hS] at ih
    have hsa : sa S k = S[k] := by unfold sa; rw [List.getD_eq_getElem?_getD, List.getElem?_eq_getElem hS]; rfl
    rw [hsa]
    generalize S[k] = s at ih ⊢
    cases s with
    | is c => exact ⟨ih.1, fun R e => by cases e⟩
    | has R => exact ⟨ih.2.1, fun R' e => by cases e; exact ih.1⟩
  · rw [List.drop_of_length_le (by omega : S.length ≤ k)] at ih
    exact ih.elim

theorem end_at {m : Nat} (hm : m ≤ ops.size) (h : sq P ops w0 Q (ops.toList.take m) S 0 [] a0) (V : Nat → Value) : ∀ W, Below w0.heap.size w0 W → (∀ p ∈ Kn S V m, p.2 W) → Q (A ops S a0 V m) W := by
  have ih := sq_at hm h V m (Nat.le_refl _)
  rw [List.drop_of_length_le (by rw [List.length_take]; omega)] at ih
  exact ih

/-- What the form says. -/
structure Fits (ops : Array Oper) (m : Nat) : Prop where
  low : ∀ (i : Nat) (o : Oper), ops[i]? = some o → ∀ e ∈ o.after, Region.binds .any e = true → e.on < i
  look : ∀ (i : Nat) (o : Oper), i < m → ops[i]? = some o → ∀ t, t ∈ o.looksAt ops → ∀ j, j < m → dst ops j = some t → j < i ∧ depB o j = true
  one : ∀ (i j : Nat) t, i < m → j < m → dst ops i = some t → dst ops j = some t → i = j
  sel : ∀ (i : Nat) (o : Oper), i < m → ops[i]? = some o → ∀ cs b, o.op ≠ .select cs b

theorem fits_of {m : Nat} (h : fitB ops m = true) : Fits ops m := by
  have at' : ∀ (i : Nat) (o : Oper), ops[i]? = some o → _ := fun i o ho => by
    have hi : i < ops.size := (Array.getElem?_eq_some_iff.1 ho).1
    have h1 := List.all_eq_true.1 h i (List.mem_range.2 hi)
    simp only [ho, Bool.and_eq_true] at h1
    exact h1
  have two : ∀ (i j : Nat) (o : Oper) t, i < m → j < m → ops[i]? = some o → dst ops j = some t → (t ∈ o.looksAt ops → j < i ∧ depB o j = true) ∧ (j = i ∨ o.dst ≠ some t) := fun i j o t him hjm ho hj => by
    obtain ⟨-, h2⟩ := at' i o ho
    rw [Bool.or_eq_true] at h2
    have h2 := h2.resolve_left (by simp; omega)
    rw [Bool.and_eq_true] at h2
    unfold dst at hj
    cases hoj : ops[j]? with
    | none => rw [hoj] at hj; cases hj
    | some oj =>
      rw [hoj] at hj
      have hj : oj.dst = some t := hj
      have hjn : j < ops.size := (Array.getElem?_eq_some_iff.1 hoj).1
      have h3 := List.all_eq_true.1 h2.1 j (List.mem_range.2 hjn)
      rw [Bool.or_eq_true] at h3
      have h3 := h3.resolve_left (by simp; omega)
      simp only [hoj, hj, Bool.and_eq_true, Bool.or_eq_true, Bool.not_eq_true', decide_eq_true_eq, beq_iff_eq, bne_iff_ne] at h3
      refine ⟨fun ht => ?_, h3.2⟩
      rcases h3.1 with h4 | h4
      · rw [List.contains_iff_mem.2 ht] at h4
        cases h4
      · exact h4
  refine ⟨fun i o ho e he hbe => ?_, fun i o him ho t ht j hjm hj => (two i j o t him hjm ho hj).1 ht, fun i j t him hjm hi hj => ?_, fun i o him ho cs b e => ?_⟩
  · obtain ⟨h1, -⟩ := at' i o ho
    have h5 := Array.all_eq_true_iff_forall_mem.1 h1 e he
    rw [hbe] at h5
    simpa using h5
  · have hi' := hi
    unfold dst at hi'
    cases hoi : ops[i]? with
    | none => rw [hoi] at hi'; cases hi'
    | some oi =>
      rw [hoi] at hi'
      rcases (two i j oi t him hjm hoi hj).2 with h1 | h1
      · exact h1.symm
      · exact (h1 hi').elim
  · obtain ⟨-, h3⟩ := at' i o ho
    rw [Bool.or_eq_true] at h3
    have h3 := h3.resolve_left (by simp; omega)
    rw [Bool.and_eq_true, e] at h3
    cases h3.2

theorem A_defers (V : Nat → Value) : ∀ k, (A ops S a0 V k).defers = a0.defers
  | 0 => rfl
  | k + 1 => by rw [A, Chain.put_defers]; exact A_defers V k
theorem A_size (V : Nat → Value) : ∀ k, (A ops S a0 V k).tmps.size = a0.tmps.size
  | 0 => rfl
  | k + 1 => by rw [A, Chain.put_size]; exact A_size V k
theorem A_out (V : Nat → Value) (t : Tmp) (ht : ∀ j, dst ops j ≠ some t) : ∀ k, (A ops S a0 V k).tmps[t]? = a0.tmps[t]?
  | 0 => rfl
  | k + 1 => by
    rw [A]
    cases hd : dst ops k with
    | none => exact A_out V t ht k
    | some d => rw [Chain.put_ne (fun e => ht k (by rw [hd, e]))]; exact A_out V t ht k
theorem A_outm (V : Nat → Value) (t : Tmp) (m : Nat) (ht : ∀ j, j < m → dst ops j ≠ some t) : ∀ k, k ≤ m → (A ops S a0 V k).tmps[t]? = a0.tmps[t]?
  | 0, _ => rfl
  | k + 1, hk => by
    rw [A]
    cases hd : dst ops k with
    | none => exact A_outm V t m ht k (by omega)
    | some d => rw [Chain.put_ne (fun e => ht k (by omega) (by rw [hd, e]))]; exact A_outm V t m ht k (by omega)
theorem A_in {m : Nat} (hf : Fits ops m) (V : Nat → Value) (j : Nat) (t : Tmp) (hj : dst ops j = some t) (hz : t < a0.tmps.size) : ∀ k, k ≤ m → j < k → (A ops S a0 V k).tmps[t]? = some ((sa S j).val (V j))
  | 0, _, h => by omega
  | k + 1, hk, h => by
    rw [A]
    by_cases e : j = k
    · subst e
      rw [hj]
      exact Chain.put_eq (by rw [A_size]; exact hz)
    · have ih := A_in hf V j t hj hz k (by omega) (by omega)
      cases hd : dst ops k with
      | none => exact ih
      | some d => rw [Chain.put_ne (fun e' => e (hf.one j k t (by omega) (by omega) hj (by rw [hd, e'])))]; exact ih

theorem Kn_mem (V : Nat → Value) (W : World) : ∀ k, (∀ j, j < k → (sa S j).F ((sa S j).val (V j)) W) → ∀ p ∈ Kn S V k, p.1 < k ∧ p.2 W
  | 0, _, p, hp => by cases hp
  | k + 1, h, p, hp => by
    have ih := Kn_mem V W k (fun j hj => h j (by omega))
    unfold Kn at hp
    have hk := h k (by omega)
    generalize sa S k = s at hp hk
    cases s with
    | is c => exact ⟨by have := (ih p hp).1; omega, (ih p hp).2⟩
    | has R =>
      rcases List.mem_cons.1 hp with rfl | hp
      · exact ⟨by simp, hk⟩
      · exact ⟨by have := (ih p hp).1; omega, (ih p hp).2⟩
theorem facts_of (o : Oper) (V : Nat → Value) (W : World) : ∀ k, (∀ j, j < k → depB o j = true → (sa S j).F ((sa S j).val (V j)) W) → factsOf o (Kn S V k) W
  | 0, _ => trivial
  | k + 1, h => by
    have ih := facts_of o V W k (fun j hj => h j (by omega))
    have hk := h k (by omega)
    unfold Kn
    generalize sa S k = s at hk ⊢
    cases s with
    | is c => exact ih
    | has R => exact ⟨hk, ih⟩

theorem act_ext {a b : Act} (h1 : a.defers = b.defers) (h2 : a.tmps.size = b.tmps.size) (h3 : ∀ t, t < b.tmps.size → a.tmps[t]? = b.tmps[t]?) : a = b := by
  obtain ⟨x, d⟩ := a
  obtain ⟨y, d'⟩ := b
  obtain rfl : d = d' := h1
  have : x = y := Array.ext h2 fun i hi hi' => by
    have := h3 i hi'
    rw [Array.getElem?_eq_getElem hi, Array.getElem?_eq_getElem hi'] at this
    injection this
  rw [this]

/-- From operation m on each waits for the one ahead of it, and the m-th one for all that are ahead. -/
def tailB (ops : Array Oper) (m : Nat) : Bool := decide (m ≤ ops.size) && (List.range ops.size).all fun i => if i < m then decide (m = ops.size) || (List.range ops.size).any fun j => decide (i < j) && decide (j ≤ m) && match ops[j]? with
    | some o => depB o i
    | none => false
  else match ops[i + 1]? with
    | some o => depB o i
    | none => true

theorem tail_of {m : Nat} (h : tailB ops m = true) : m ≤ ops.size ∧ (∀ i, i < m → m < ops.size → ∃ j o, i < j ∧ j ≤ m ∧ ops[j]? = some o ∧ depB o i = true) ∧ ∀ i, m ≤ i → ∀ o, ops[i + 1]? = some o → depB o i = true := by
  unfold tailB at h
  rw [Bool.and_eq_true] at h
  refine ⟨of_decide_eq_true h.1, fun i hi hn => ?_, fun i hi o ho => ?_⟩
  · have h1 := List.all_eq_true.1 h.2 i (List.mem_range.2 (by omega))
    simp only [if_pos hi, Bool.or_eq_true, decide_eq_true_eq] at h1
    rcases h1 with h1 | h1
    · omega
    · obtain ⟨j, hj, h2⟩ := List.any_eq_true.1 h1
      simp only [Bool.and_eq_true, decide_eq_true_eq] at h2
      obtain ⟨⟨h3, h4⟩, h5⟩ := h2
      cases hoj : ops[j]? with
      | none => rw [hoj] at h5; cases h5
      | some o => rw [hoj] at h5; exact ⟨j, o, h3, h4, hoj, h5⟩
  · have hl := (Array.getElem?_eq_some_iff.1 ho).1
    have h1 := List.all_eq_true.1 h.2 i (List.mem_range.2 (by omega))
    simp only [if_neg (by omega : ¬ i < m), ho] at h1
    exact h1

theorem region_tail {id : Nat} {Q' : Exit → Act → World → Prop} (hm : P.follows .mixedOrders = true) (m : Nat) (hB : fitB ops m = true) (hT : tailB ops m = true) (hz : (ops.all fun o => match o.dst with | none => true | some t => decide (t < a0.tmps.size)) = true)
    (S : List Said) (h : sq P ops w0 (fun a W => wpList P ops Q' (ops.toList.drop m) a W) (ops.toList.take m) S 0 [] a0) : (Code.region id ops true).wp P Q' a0 w0 := by
  have hf := fits_of hB
  obtain ⟨hmn, hT1, hT2⟩ := tail_of hT
  have hsz : ∀ j t, dst ops j = some t → t < a0.tmps.size := fun j t hj => by
    unfold dst at hj
    cases hoj : ops[j]? with
    | none => rw [hoj] at hj; cases hj
    | some oj =>
      rw [hoj] at hj
      have hj : oj.dst = some t := hj
      have hlt := (Array.getElem?_eq_some_iff.1 hoj).1
      have h1 := Array.all_eq_true_iff_forall_mem.1 hz oj (by rw [← (Array.getElem?_eq_some_iff.1 hoj).2]; exact Array.getElem_mem hlt)
      rw [hj] at h1
      exact of_decide_eq_true h1
  have hF : ∀ j, j < m → ∀ v W W', Below W.heap.size W W' → (sa S j).F v W → (sa S j).F v W' := fun j hj v W W' hb hv => by
    have hM := (ob_at hmn h (fun _ => undef) j hj _ (Array.getElem?_eq_getElem (by omega))).2
    cases hs : sa S j with
    | is c => rw [hs] at hv; exact hv
    | has R => rw [hs] at hv; exact hM R hs v W W' hb hv
  have bin' : ∀ (L : Array Bool) (i : Nat), i < L.size → L.getD i false = false → L.getD i true = false := fun L i hi h => by
    rw [Array.getD_eq_getD_getElem?, Array.getElem?_eq_getElem hi] at h ⊢
    exact h
  have bin2 : ∀ (L : Array Bool) (i : Nat), L.getD i true = false → L.getD i false = false := fun L i h => by
    rw [Array.getD_eq_getD_getElem?] at h ⊢
    cases hx : L[i]? with
    | none => rw [hx] at h; cases h
    | some b => rw [hx] at h; exact h
  have hdep : ∀ (L : Array Bool) (i : Nat) (o : Oper), ops[i]? = some o → (∀ e ∈ o.after, Region.binds .any e = true → L.getD e.on false = true) → ∀ j, depB o j = true → j < i ∧ L.getD j false = true := fun L i o ho hall j hj => by
    unfold depB at hj
    obtain ⟨k, hk, h2⟩ := Array.any_eq_true.1 hj
    have he : o.after[k] ∈ o.after := Array.getElem_mem hk
    generalize o.after[k] = e at he h2
    rw [Bool.and_eq_true] at h2
    have e1 : e.on = j := by simpa using h2.1
    subst e1
    exact ⟨hf.low i o ho e he h2.2, hall e he h2.2⟩
  have hal : ∀ (i : Nat) (o : Oper), ops[i]? = some o → ops.toList.drop i = o :: ops.toList.drop (i + 1) := fun i o ho => by
    obtain ⟨hl, he⟩ := Array.getElem?_eq_some_iff.1 ho
    rw [List.drop_eq_getElem_cons (by rw [Array.length_toList]; exact hl)]
    simp [he]
  refine Chain.wp_region_inv hm (fun L a w1 => L.size = ops.size ∧ ((Below w0.heap.size w0 w1 ∧ a.tmps.size = a0.tmps.size ∧ a.defers = a0.defers ∧ (∀ t, (∀ j, j < m → dst ops j ≠ some t) → a.tmps[t]? = a0.tmps[t]?) ∧ (∀ j, m ≤ j → L.getD j false = false) ∧ (∀ j o, ops[j]? = some o → L.getD j false = true → ∀ k, depB o k = true → L.getD k false = true) ∧
      ∃ V : Nat → Value, ∀ j, j < m → L.getD j false = true → (∀ t, dst ops j = some t → a.tmps[t]? = some ((sa S j).val (V j))) ∧ (sa S j).F ((sa S j).val (V j)) w1) ∨
      (∃ t, (∀ j, j < ops.size → (L.getD j false = true ↔ j < t)) ∧ m ≤ t ∧ wpList P ops Q' (ops.toList.drop t) a w1))) (fun L a w1 h => h.1) ?_ ?_ ?_
  · exact ⟨by simp, .inl ⟨Below.drew (Below.refl _ w0), rfl, rfl, fun _ _ => rfl, fun j _ => by rw [Array.getD_eq_getD_getElem?, Array.getElem?_replicate]; split <;> rfl, (fun j o ho h => by simp [(Array.getElem?_eq_some_iff.1 ho).1] at h), fun _ => undef, fun j hj h => by simp [Nat.lt_of_lt_of_le hj hmn] at h⟩⟩
  · intro L a w1 ⟨hs, hI⟩ i hi K hK
    obtain ⟨hun, o, ho, hall⟩ := Chain.mem_ready'.1 hi
    have hil : i < ops.size := (Array.getElem?_eq_some_iff.1 ho).1
    have hdo : dst ops i = o.dst := by unfold dst; rw [ho]; rfl
    -- an operation of the tail
    have tail : ∀ t, (∀ j, j < ops.size → (L.getD j false = true ↔ j < t)) → m ≤ t → wpList P ops Q' (ops.toList.drop t) a w1 → wpOp P ops Q' i K a w1 := fun t hL ht hw => by
      have hti : i = t := by
        have h1 : ¬ i < t := fun h => by
          have := (hL i hil).2 h
          rw [bin2 L i hun] at this
          cases this
        by_cases e : i = t
        · exact e
        · have h2 := hdep L i o ho hall (i - 1) (hT2 (i - 1) (by omega) o (by rw [show i - 1 + 1 = i by omega]; exact ho))
          have := (hL (i - 1) (by omega)).1 h2.2
          omega
      subst hti
      rw [hal i o ho] at hw
      have hq : wpOp P ops Q' i (wpList P ops Q' (ops.toList.drop (i + 1))) a w1 := by
        unfold wpOp
        rw [ho]
        exact hw
      refine wpOp_mono (fun a' w2 h2 => hK a' w2 ⟨by simpa using hs, .inr ⟨i + 1, fun j hj => ?_, by omega, h2⟩⟩) hq
      by_cases e : i = j
      · subst e
        rw [Chain.listed_self (by omega)]
        simp
      · rw [Chain.listed_ne e, hL j hj]
        omega
    rcases hI with ⟨hb, hza, hd, hout, hno, hcl, V, hin⟩ | ⟨t, hL, ht, hw⟩
    · by_cases him : i < m
      · have hdp := hdep L i o ho hall
        have hev : ∀ t, t ∈ o.looksAt ops → a.tmps[t]? = (A ops S a0 V i).tmps[t]? := fun t ht => by
          by_cases hw : ∃ j, j < m ∧ dst ops j = some t
          · obtain ⟨j, hjm, hj⟩ := hw
            obtain ⟨h1, h2⟩ := hf.look i o him ho t ht j hjm hj
            rw [A_in hf V j t hj (hsz j t hj) i (by omega) h1]
            exact (hin j (by omega) (hdp j h2).2).1 t hj
          · have hn : ∀ j, j < m → dst ops j ≠ some t := fun j hj e => hw ⟨j, hj, e⟩
            rw [A_outm V t m hn i (by omega), hout t hn]
        have hcg : execOp a.eval o = execOp (A ops S a0 V i).eval o := execOp_congr o (hf.sel i o him ho) fun x hx => by
          cases x with
          | tmp t =>
            have := hev t (by unfold Oper.looksAt; exact List.mem_append_left _ (List.mem_filterMap.2 ⟨.tmp t, by simpa using hx, rfl⟩))
            simp only [Act.eval, Array.getD_eq_getD_getElem?, this]
          | const v => rfl
          | global g => rfl
          | func f => rfl
        have hwt : Region.wanted o (yielded ops a.tmps) = Region.wanted o (yielded ops (A ops S a0 V i).tmps) := by
          unfold Region.wanted
          cases hg : o.guard with
          | none => rfl
          | some gw =>
            obtain ⟨g, want⟩ := gw
            have hy : yielded ops a.tmps g = yielded ops (A ops S a0 V i).tmps g := by
              unfold yielded
              cases ht : (ops[g]?).bind (·.dst) with
              | none => rfl
              | some t =>
                have := hev t (by unfold Oper.looksAt; rw [hg]; exact List.mem_append_right _ (by simp [ht]))
                simp only [Option.bind_some, this]
            simp only [hy]
        have hob := (ob_at hmn h V i him o ho).1 w1 hb (facts_of o V w1 i fun j hj hd => (hin j (by omega) (hdp j hd).2).2)
        have next : ∀ v w2, Below w1.heap.size w1 w2 → (sa S i).F v w2 → K (a.put o.dst v) w2 := fun v w2 hb2 hv => by
          refine hK _ _ ⟨by simpa using hs, .inl ⟨hb.trans (hb2.mono hb.size), by rw [Chain.put_size]; exact hza, by rw [Chain.put_defers]; exact hd, fun t ht => ?_, fun j hj => by rw [Chain.listed_ne (by omega)]; exact hno j hj, fun j oj hoj hl k hk => ?_, fun j => if j = i then v else V j, fun j hj hl => ?_⟩⟩
          · cases hod : o.dst with
            | none => exact hout t ht
            | some d => rw [Chain.put_ne (fun e => ht i him (by rw [hdo, hod, e]))]; exact hout t ht
          · by_cases e : i = k
            · subst e
              exact Chain.listed_self (by omega)
            · rw [Chain.listed_ne e]
              by_cases e2 : i = j
              · subst e2
                rw [ho] at hoj
                injection hoj with hoj
                subst hoj
                exact (hdp k hk).2
              · rw [Chain.listed_ne e2] at hl
                exact hcl j oj hoj hl k hk
          · by_cases e : j = i
            · subst e
              simp only [if_true]
              refine ⟨fun t ht => ?_, ?_⟩
              · rw [hdo] at ht
                rw [ht, Chain.put_eq (by rw [hza]; exact hsz j t (by rw [hdo, ht]))]
                cases hsj : sa S j with
                | is c => rw [hsj] at hv; rw [show v = c from hv]; rfl
                | has R => rfl
              · cases hsj : sa S j with
                | is c => rfl
                | has R => rw [hsj] at hv; exact hv
            · rw [Chain.listed_ne (fun e' => e e'.symm)] at hl
              simp only [if_neg e]
              obtain ⟨h1, h2⟩ := hin j hj hl
              refine ⟨fun t ht => ?_, hF j hj _ _ _ hb2 h2⟩
              cases hod : o.dst with
              | none => exact h1 t ht
              | some d => rw [Chain.put_ne (fun e' => e (hf.one j i t hj him ht (by rw [hdo, hod, e'])))]; exact h1 t ht
        unfold wpOp
        simp only [ho]
        rw [hwt]
        rcases hob with ⟨hw, hst⟩ | ⟨hw, hu⟩
        · rw [if_pos hw]
          refine .inl (Oper.wp_mono ?_ (hst Q' (fun v w2 => K (a.put o.dst v) w2) (fun v w2 h1 h2 => next v w2 h1 h2) a hcg))
          rintro a' w2 ⟨v, rfl, hk⟩
          exact hk
        · rw [hw, if_neg (by simp)]
          exact next undef w1 (Below.refl _ _) hu
      · -- the first one of the tail
        have hmi : i = m := by
          by_cases e : i = m
          · exact e
          · have h2 := hdep L i o ho hall (i - 1) (hT2 (i - 1) (by omega) o (by rw [show i - 1 + 1 = i by omega]; exact ho))
            rw [hno (i - 1) (by omega)] at h2
            cases h2.2
        have hL : ∀ d j, j + d = m → j < m → L.getD j false = true := fun d => by
          induction d using Nat.strongRecOn with
          | _ d ih =>
            intro j hj hjm
            obtain ⟨k, ok, h1, h2, h3, h4⟩ := hT1 j hjm (by omega)
            by_cases e : k = m
            · subst e
              subst hmi
              rw [ho] at h3
              injection h3 with h3
              subst h3
              exact (hdep L _ o ho hall j h4).2
            · exact hcl k ok h3 (ih (m - k) (by omega) k (by omega) (by omega)) j h4
        have hLm : ∀ j, j < m → L.getD j false = true := fun j hj => hL (m - j) j (by omega) hj
        have he : a = A ops S a0 V m := act_ext (by rw [A_defers]; exact hd) (by rw [A_size]; exact hza) fun t _ => by
          by_cases hw : ∃ j, j < m ∧ dst ops j = some t
          · obtain ⟨j, hjm, hj⟩ := hw
            rw [A_in hf V j t hj (hsz j t hj) _ (Nat.le_refl _) hjm]
            exact (hin j hjm (hLm j hjm)).1 t hj
          · have hn : ∀ j, j < m → dst ops j ≠ some t := fun j hj e => hw ⟨j, hj, e⟩
            rw [A_outm V t m hn m (Nat.le_refl _), hout t hn]
        refine tail m (fun j hj => ⟨fun hl => ?_, fun hl => hLm j hl⟩) (Nat.le_refl _) ?_
        · by_cases e : j < m
          · exact e
          · rw [hno j (by omega)] at hl
            cases hl
        · rw [he]
          exact end_at hmn h V w1 hb fun p hp => (Kn_mem V w1 m (fun j hj => (hin j hj (hLm j hj)).2) p hp).2
    · exact tail t hL ht hw
  · intro L a w1 ⟨hs, hI⟩ hr
    have hL : ∀ j, j < ops.size → L.getD j false = true := by
      intro j
      induction j using Nat.strongRecOn with
      | _ j ih =>
        intro hj
        cases hl : L.getD j false with
        | true => rfl
        | false =>
          exfalso
          have ho : ops[j]? = some (ops[j]'hj) := Array.getElem?_eq_getElem hj
          have : j ∈ Region.ready .any ops L := Chain.mem_ready'.2 ⟨bin' L j (by omega) hl, _, ho, fun e he hbe => ih e.on (hf.low j _ ho e he hbe) (by have := hf.low j _ ho e he hbe; omega)⟩
          rw [hr] at this
          cases this
    have fin : ∀ t, ops.size ≤ t → wpList P ops Q' (ops.toList.drop t) a w1 → Q' .normal a w1 := fun t ht hw => by
      rw [List.drop_of_length_le (by rw [Array.length_toList]; omega)] at hw
      exact hw
    rcases hI with ⟨hb, hza, hd, hout, hno, hcl, V, hin⟩ | ⟨t, hLt, ht, hw⟩
    · have hme : m = ops.size := by
        by_cases e : m = ops.size
        · exact e
        · have h1 := hL m (by omega)
          rw [hno m (Nat.le_refl _)] at h1
          cases h1
      have he : a = A ops S a0 V m := act_ext (by rw [A_defers]; exact hd) (by rw [A_size]; exact hza) fun t _ => by
        by_cases hw : ∃ j, j < m ∧ dst ops j = some t
        · obtain ⟨j, hjm, hj⟩ := hw
          rw [A_in hf V j t hj (hsz j t hj) _ (Nat.le_refl _) hjm]
          exact (hin j hjm (hL j (by omega))).1 t hj
        · have hn : ∀ j, j < m → dst ops j ≠ some t := fun j hj e => hw ⟨j, hj, e⟩
          rw [A_outm V t m hn m (Nat.le_refl _), hout t hn]
      refine fin m (by omega) ?_
      rw [he]
      exact end_at hmn h V w1 hb fun p hp => (Kn_mem V w1 m (fun j hj => (hin j hj (hL j (by omega))).2) p hp).2
    · by_cases e : t < ops.size
      · have h1 := (hLt t e).1 (hL t e)
        omega
      · exact fin t (by omega) hw
theorem region {id : Nat} {Q' : Exit → Act → World → Prop} (hm : P.follows .mixedOrders = true) (hB : fitB ops ops.size = true) (hz : (ops.all fun o => match o.dst with | none => true | some t => decide (t < a0.tmps.size)) = true)
    (S : List Said) (h : sq P ops w0 (fun a W => Q' .normal a W) ops.toList S 0 [] a0) : (Code.region id ops true).wp P Q' a0 w0 := by
  refine region_tail hm ops.size hB ?_ hz S ?_
  · unfold tailB
    rw [Bool.and_eq_true]
    refine ⟨by simp, List.all_eq_true.2 fun i hi => ?_⟩
    rw [if_pos (List.mem_range.1 hi)]
    simp
  · rw [List.take_of_length_le (by rw [Array.length_toList]; exact Nat.le_refl _), List.drop_of_length_le (by rw [Array.length_toList]; exact Nat.le_refl _)]
    exact h
end
end Said

section
variable {P : Program} {ops : Array Oper} {w0 : World} {Q : Act → World → Prop} {o : Oper} {l : List Oper} {L : List Said} {k : Nat} {K : List (Nat × (World → Prop))} {a : Act}

theorem step_value {v : Value} {F : Value → World → Prop} {W W' : World} (hw : Region.wanted o (yielded ops a.tmps) = true) (hx : (execOp a.eval o).run P W = .ok (.value v) W') (hb : Below W.heap.size W W') (hF : F v W') : StepOk P ops o a W F :=
  .inl ⟨hw, fun Q K hK b hb' => by
    unfold Oper.wp
    rw [hb', hx]
    exact ⟨v, rfl, hK v W' hb hF⟩⟩
theorem step_call {f : FuncId} {args : Array Value} {F : Value → World → Prop} {W : World} (hw : Region.wanted o (yielded ops a.tmps) = true) (hx : (execOp a.eval o).run P W = .ok (.enter f args) W)
    (hc : Calls P f args W fun e w' => ∃ v, e = .returned v ∧ F v w' ∧ Below W.heap.size W w') : StepOk P ops o a W F :=
  .inl ⟨hw, fun Q K hK b hb' => by
    unfold Oper.wp
    rw [hb', hx, Oper.upon_enter]
    refine hc.mono ?_
    rintro e w' ⟨v, rfl, h1, h2⟩
    exact ⟨v, rfl, hK v w' h2 h1⟩⟩

/-- An operation that leaves the world alone. -/
theorem sq_pure {c : Value} (hw : Region.wanted o (yielded ops a.tmps) = true) (hx : ∀ W, Below w0.heap.size w0 W → factsOf o K W → (execOp a.eval o).run P W = .ok (.value c) W)
    (rest : sq P ops w0 Q l L (k + 1) K (a.put o.dst c)) : sq P ops w0 Q (o :: l) (.is c :: L) k K a :=
  ⟨fun W hb hf => step_value hw (hx W hb hf) (Below.refl _ _) rfl, rest⟩
theorem sq_struck (hw : Region.wanted o (yielded ops a.tmps) = false) (rest : sq P ops w0 Q l L (k + 1) K (a.put o.dst undef)) : sq P ops w0 Q (o :: l) (.is undef :: L) k K a :=
  ⟨fun _ _ _ => .inr ⟨hw, rfl⟩, rest⟩
/-- A value of which something is said. -/
theorem sq_has {R : Value → World → Prop} (hM : Mono R) (hst : ∀ W, Below w0.heap.size w0 W → factsOf o K W → StepOk P ops o a W R)
    (rest : ∀ v, sq P ops w0 Q l L (k + 1) ((k, R v) :: K) (a.put o.dst v)) : sq P ops w0 Q (o :: l) (.has R :: L) k K a :=
  ⟨hM, hst, rest⟩
/-- A call whose answer is known. -/
theorem sq_call {c : Value} {f : FuncId} {args : Array Value} (hw : Region.wanted o (yielded ops a.tmps) = true) (hx : ∀ W, (execOp a.eval o).run P W = .ok (.enter f args) W)
    (hc : ∀ W, Below w0.heap.size w0 W → factsOf o K W → Calls P f args W fun e w' => e = .returned c ∧ Below W.heap.size W w')
    (rest : sq P ops w0 Q l L (k + 1) K (a.put o.dst c)) : sq P ops w0 Q (o :: l) (.is c :: L) k K a :=
  ⟨fun W hb hf => step_call hw (hx W) ((hc W hb hf).mono fun e w' h => ⟨c, h.1, rfl, h.2⟩), rest⟩
theorem sq_calls {R : Value → World → Prop} {f : FuncId} {args : Array Value} (hM : Mono R) (hw : Region.wanted o (yielded ops a.tmps) = true) (hx : ∀ W, (execOp a.eval o).run P W = .ok (.enter f args) W)
    (hc : ∀ W, Below w0.heap.size w0 W → factsOf o K W → Calls P f args W fun e w' => ∃ v, e = .returned v ∧ R v w' ∧ Below W.heap.size W w')
    (rest : ∀ v, sq P ops w0 Q l L (k + 1) ((k, R v) :: K) (a.put o.dst v)) : sq P ops w0 Q (o :: l) (.has R :: L) k K a :=
  ⟨hM, fun W hb hf => step_call hw (hx W) (hc W hb hf), rest⟩
theorem sq_end {S : List Said} (h : ∀ W, Below w0.heap.size w0 W → (∀ p ∈ K, p.2 W) → Q a W) : sq P ops w0 Q [] S k K a := h
end
end Go.Proofs.Ythgdanbkngnckaa

/-
  A region that draws its order, each operation of which writes a slot of its own (a chain of '&&' whose guards all hold): each slot holds what it shall, whatever has come up. Steps by the kind of the operation.
-/
import Derived.Test.YtomkhhglemelcaaG01
import Derived.Orders
set_option linter.unusedVariables false
set_option linter.unusedSimpArgs false
namespace Go.Proofs.Ytomkhhglemelcaa
open Go.RowKit

namespace Chain
section
variable {P : Program} {ops : Array Oper}

/-- How many operations have not come up. -/
def notYet (ops : Array Oper) (listed : Array Bool) : Nat := ((List.range ops.size).filter fun i => !listed.getD i true).length

theorem notYet_set {listed : Array Bool} {i : Nat} (hi : i < ops.size) (hs : listed.size = ops.size) (hun : listed.getD i true = false) : notYet ops (listed.setIfInBounds i true) < notYet ops listed := by
  unfold notYet
  rw [← List.countP_eq_length_filter, ← List.countP_eq_length_filter]
  have hle : ∀ l : List Nat, l.countP (fun j => !(listed.setIfInBounds i true).getD j true) ≤ l.countP (fun j => !listed.getD j true) := fun l => by
    refine List.countP_mono_left fun j _ h => ?_
    by_cases e : i = j
    · subst e
      simp [hs, hi] at h
    · rwa [Array.getD_eq_getD_getElem?, Array.getElem?_setIfInBounds_ne e, ← Array.getD_eq_getD_getElem?] at h
  have hm : i ∈ List.range ops.size := List.mem_range.2 hi
  obtain ⟨l1, l2, hl⟩ := List.append_of_mem hm
  rw [hl, List.countP_append, List.countP_append, List.countP_cons, List.countP_cons]
  have h1 := hle l1
  have h2 := hle l2
  have h3 : (!(listed.setIfInBounds i true).getD i true) = false := by simp [hs, hi]
  have h4 : (!listed.getD i true) = true := by rw [hun]; rfl
  rw [h3, h4]
  simp only [Bool.false_eq_true, if_false, if_true]
  omega

theorem mem_ready' {listed : Array Bool} {i : Nat} : i ∈ Region.ready .any ops listed ↔ listed.getD i true = false ∧ ∃ o, ops[i]? = some o ∧ ∀ e ∈ o.after, Region.binds .any e = true → listed.getD e.on false = true := by
  unfold Region.ready
  rw [List.mem_filter, List.mem_range]
  constructor
  · rintro ⟨h1, h2⟩
    rw [Bool.and_eq_true] at h2
    refine ⟨by simpa using h2.1, ops[i], Array.getElem?_eq_getElem h1, fun e he hb => ?_⟩
    have h3 := h2.2
    rw [Array.getElem?_eq_getElem h1] at h3
    simp only [Option.map_some, Option.getD_some] at h3
    have := Array.all_eq_true_iff_forall_mem.1 h3 e he
    rw [hb] at this
    simpa using this
  · rintro ⟨h1, o, h2, h3⟩
    refine ⟨(Array.getElem?_eq_some_iff.1 h2).1, ?_⟩
    rw [h1, h2]
    simp only [Option.map_some, Option.getD_some, Bool.not_false, Bool.true_and]
    refine Array.all_eq_true_iff_forall_mem.2 fun e he => ?_
    cases hb : Region.binds .any e with
    | false => rfl
    | true => rw [h3 e he hb]; rfl

theorem wp_region_inv {id : Nat} {Q : Exit → Act → World → Prop} {a0 : Act} {w : World} (hm : P.follows .mixedOrders = true) (I : Array Bool → Act → World → Prop)
    (hsz : ∀ listed a w1, I listed a w1 → listed.size = ops.size)
    (h0 : I (Array.replicate ops.size false) a0 { w with drawn := w.drawn + 1 })
    (hstep : ∀ listed a w1, I listed a w1 → ∀ i ∈ Region.ready .any ops listed, ∀ K : Act → World → Prop, (∀ a' w2, I (listed.setIfInBounds i true) a' w2 → K a' w2) → wpOp P ops Q i K a w1)
    (hend : ∀ listed a w1, I listed a w1 → Region.ready .any ops listed = [] → Q .normal a w1) : (Code.region id ops true).wp P Q a0 w := by
  refine wp_region_any hm ?_
  have main : ∀ (fuel : Nat) (listed : Array Bool) (a : Act) (w1 : World), I listed a w1 → notYet ops listed ≤ fuel → wpAny P .any ops Q fuel listed a w1 := by
    intro fuel
    induction fuel with
    | zero =>
      intro listed a w1 h hu
      have hr : Region.ready .any ops listed = [] := by
        cases hl : Region.ready .any ops listed with
        | nil => rfl
        | cons i r =>
          have hi : i ∈ Region.ready .any ops listed := by rw [hl]; simp
          obtain ⟨hun, o, ho, _⟩ := mem_ready'.1 hi
          have := notYet_set (ops := ops) (i := i) (Array.getElem?_eq_some_iff.1 ho).1 (hsz _ _ _ h) hun
          omega
      exact ⟨hr, hend listed a w1 h hr⟩
    | succ fuel ih =>
      intro listed a w1 h hu
      refine ⟨fun hr => hend listed a w1 h hr, fun i hi => hstep listed a w1 h i hi _ fun a' w2 h2 => ih _ a' w2 h2 ?_⟩
      obtain ⟨hun, o, ho, _⟩ := mem_ready'.1 hi
      have := notYet_set (ops := ops) (i := i) (Array.getElem?_eq_some_iff.1 ho).1 (hsz _ _ _ h) hun
      omega
  refine main _ _ _ _ h0 ?_
  unfold notYet
  exact Nat.le_trans (List.length_filter_le ..) (by simp)

theorem put_ne {a : Act} {d t : Tmp} {v : Value} (h : d ≠ t) : (a.put (some d) v).tmps[t]? = a.tmps[t]? := by
  simp [Act.put, Array.getElem?_setIfInBounds_ne h]
theorem put_eq {a : Act} {d : Tmp} {v : Value} (h : d < a.tmps.size) : (a.put (some d) v).tmps[d]? = some v := by
  simp [Act.put, h]
theorem put_size (a : Act) (d : Option Tmp) (v : Value) : (a.put d v).tmps.size = a.tmps.size := by
  cases d <;> simp [Act.put]
theorem put_defers (a : Act) (d : Option Tmp) (v : Value) : (a.put d v).defers = a.defers := by cases d <;> rfl
theorem eval_at {a : Act} {t : Tmp} {v : Value} (h : a.tmps[t]? = some v) : a.eval (.tmp t) = v := by
  simp [Act.eval, Array.getD_eq_getD_getElem?, h]
theorem listed_self {listed : Array Bool} {i : Nat} (h : i < listed.size) : (listed.setIfInBounds i true).getD i false = true := by simp [h]
theorem listed_ne {listed : Array Bool} {i j : Nat} (h : i ≠ j) (d : Bool) : (listed.setIfInBounds i true).getD j d = listed.getD j d := by
  rw [Array.getD_eq_getD_getElem?, Array.getElem?_setIfInBounds_ne h, ← Array.getD_eq_getD_getElem?]
end
end Chain

/-- A region, its operations' slots, what each shall hold (a value, or what is said of it), and where it begins. -/
structure Ch where
  P : Program
  ops : Array Oper
  n : Nat
  S : Nat → Tmp
  C : Nat → Option Value
  R : Nat → Value → World → Prop
  a0 : Act
  w : World

namespace Ch
def F (E : Ch) (j : Nat) (v : Value) (W : World) : Prop := match E.C j with
  | some c => v = c
  | none => E.R j v W
theorem F_of {E : Ch} {j : Nat} {c : Value} (h : E.C j = some c) {v : Value} {W : World} : E.F j v W ↔ v = c := by unfold F; rw [h]
theorem F_no {E : Ch} {j : Nat} (h : E.C j = none) {v : Value} {W : World} : E.F j v W ↔ E.R j v W := by unfold F; rw [h]
/-- Does operation i wait for operation j? -/
def dep (E : Ch) (i j : Nat) : Bool := match E.ops[i]? with
  | none => false
  | some o => o.after.any fun e => e.on == j && Region.binds .any e
def low (E : Ch) : Bool := (List.range E.n).all fun i => match E.ops[i]? with
  | none => false
  | some o => o.dst == some (E.S i) && (o.after.all fun e => decide (e.on < i)) && match o.guard with
    | none => true
    | some (g, b) => decide (g < i) && E.dep i g && match E.C g with
      | some (.bool b') => b == b'
      | _ => false
/-- A slot that the region does not write. -/
def Out (E : Ch) (t : Tmp) : Prop := ∀ j, j < E.n → E.S j ≠ t
def Step (E : Ch) (i : Nat) : Prop := ∀ (o : Oper), E.ops[i]? = some o → ∀ (Q : Exit → Act → World → Prop) (a : Act) (w1 : World), Below E.w.heap.size E.w w1 →
  (∀ t, E.Out t → a.tmps[t]? = E.a0.tmps[t]?) → (∀ j, E.dep i j = true → ∃ v, a.tmps[E.S j]? = some v ∧ E.F j v w1) →
  ∀ K : Act → World → Prop, (∀ v w2, Below w1.heap.size w1 w2 → E.F i v w2 → K (a.put o.dst v) w2) → o.wp E.P a w1 K Q

theorem all_of {p : Nat → Prop} {n : Nat} (l : List {i : Nat // p i}) (h : l.map (·.1) = List.range n) (i : Nat) (hi : i < n) : p i := by
  have : i ∈ l.map (·.1) := by rw [h]; exact List.mem_range.2 hi
  obtain ⟨x, _, rfl⟩ := List.mem_map.1 this
  exact x.2

theorem region (E : Ch) {id : Nat} {Q : Exit → Act → World → Prop} (hm : E.P.follows .mixedOrders = true) (hn : E.ops.size = E.n) (hB : E.low = true)
    (hS : ∀ i, i < E.n → ∀ j, j < E.n → E.S i = E.S j → i = j) (hSz : ∀ i, i < E.n → E.S i < E.a0.tmps.size)
    (hR : ∀ W W', Below W.heap.size W W' → ∀ j v, E.C j = none → E.R j v W → E.R j v W')
    (hst : ∀ i, i < E.n → E.Step i)
    (hend : ∀ a w1, a.defers = E.a0.defers → Below E.w.heap.size E.w w1 → (∀ j, j < E.n → ∃ v, a.tmps[E.S j]? = some v ∧ E.F j v w1) → Q .normal a w1) : (Code.region id E.ops true).wp E.P Q E.a0 E.w := by
  have hF : ∀ W W', Below W.heap.size W W' → ∀ j v, E.F j v W → E.F j v W' := fun W W' hb j v h => by
    unfold F at h ⊢
    cases hc : E.C j with
    | some c => rw [hc] at h; exact h
    | none => rw [hc] at h; exact hR W W' hb j v hc h
  have bin' : ∀ (L : Array Bool) (i : Nat), i < L.size → L.getD i false = false → L.getD i true = false := fun L i hi h => by
    rw [Array.getD_eq_getD_getElem?, Array.getElem?_eq_getElem hi] at h ⊢
    exact h
  have low_at : ∀ i o, E.ops[i]? = some o → o.dst = some (E.S i) ∧ (∀ e ∈ o.after, e.on < i) ∧ ∀ g b, o.guard = some (g, b) → g < i ∧ E.dep i g = true ∧ E.C g = some (.bool b) := fun i o ho => by
    have hi : i < E.n := by rw [← hn]; exact (Array.getElem?_eq_some_iff.1 ho).1
    have h := List.all_eq_true.1 hB i (List.mem_range.2 hi)
    simp only [ho, Bool.and_eq_true] at h
    obtain ⟨⟨h1, h2⟩, h3⟩ := h
    refine ⟨by simpa using h1, fun e he => of_decide_eq_true (Array.all_eq_true_iff_forall_mem.1 h2 e he), fun g b hg => ?_⟩
    rw [hg] at h3
    simp only [Bool.and_eq_true] at h3
    obtain ⟨⟨h3, h4⟩, h5⟩ := h3
    refine ⟨of_decide_eq_true h3, h4, ?_⟩
    cases hc : E.C g with
    | none => rw [hc] at h5; cases h5
    | some c =>
      rw [hc] at h5
      cases c <;> first | cases h5 | (simp at h5; rw [h5])
  refine Chain.wp_region_inv hm (fun L a w1 => L.size = E.n ∧ Below E.w.heap.size E.w w1 ∧ a.tmps.size = E.a0.tmps.size ∧ a.defers = E.a0.defers ∧ (∀ t, E.Out t → a.tmps[t]? = E.a0.tmps[t]?) ∧ ∀ j, j < E.n → L.getD j false = true → ∃ v, a.tmps[E.S j]? = some v ∧ E.F j v w1) (fun L a w1 h => by rw [hn]; exact h.1) ?_ ?_ ?_
  · exact ⟨by simp [hn], Below.drew (Below.refl _ E.w), rfl, rfl, fun _ _ => rfl, (fun j hj h => by rw [hn] at h; simp [hj] at h)⟩
  · intro L a w1 ⟨hs, hb, hz, hd, hout, hins⟩ i hi K hK
    obtain ⟨hun, o, ho, hall⟩ := Chain.mem_ready'.1 hi
    have hin : i < E.n := by rw [← hn]; exact (Array.getElem?_eq_some_iff.1 ho).1
    obtain ⟨hdst, hlow, hgd⟩ := low_at i o ho
    have hins' : ∀ j, E.dep i j = true → ∃ v, a.tmps[E.S j]? = some v ∧ E.F j v w1 := fun j hj => by
      unfold dep at hj
      simp only [ho] at hj
      obtain ⟨k, hk, h2⟩ := Array.any_eq_true.1 hj
      have he : o.after[k] ∈ o.after := Array.getElem_mem hk
      generalize o.after[k] = e at he h2
      rw [Bool.and_eq_true] at h2
      have e1 : e.on = j := by simpa using h2.1
      subst e1
      exact hins e.on (by have := hlow e he; omega) (hall e he h2.2)
    have hw : Region.wanted o (yielded E.ops a.tmps) = true := by
      cases hg : o.guard with
      | none => simp [Region.wanted, hg]
      | some gb =>
        obtain ⟨g, b⟩ := gb
        obtain ⟨h1, h2, h3⟩ := hgd g b hg
        obtain ⟨v, hv, hf⟩ := hins' g h2
        obtain rfl := (F_of h3).1 hf
        have hgo : ∃ og, E.ops[g]? = some og := ⟨_, Array.getElem?_eq_getElem (by omega)⟩
        obtain ⟨og, hog⟩ := hgo
        have hdg := (low_at g og hog).1
        have hy : yielded E.ops a.tmps g = some b := by
          unfold yielded
          rw [hog]
          simp only [Option.bind_some, hdg, hv]
        simp [Region.wanted, hg, hy]
    have hwp := hst i hin o ho Q a w1 hb hout hins' K fun v w2 hb2 hf => hK _ _ ⟨by simpa using hs, hb.trans (hb2.mono hb.size), by rw [Chain.put_size]; exact hz, by rw [Chain.put_defers]; exact hd, fun t ht => by rw [hdst, Chain.put_ne (ht i hin)]; exact hout t ht, fun j hj hl => by
      rw [hdst]
      by_cases e : i = j
      · subst e
        exact ⟨v, Chain.put_eq (by rw [hz]; exact hSz i hin), hf⟩
      · rw [Chain.listed_ne e] at hl
        obtain ⟨u, hu, hf'⟩ := hins j hj hl
        exact ⟨u, by rw [Chain.put_ne (fun e' => e (hS i hin j hj e'))]; exact hu, hF _ _ hb2 j u hf'⟩⟩
    unfold wpOp
    simp only [ho]
    rw [if_pos hw]
    exact .inl hwp
  · intro L a w1 ⟨hs, hb, hz, hd, hout, hins⟩ hr
    refine hend a w1 hd hb fun j hj => hins j hj ?_
    induction j using Nat.strongRecOn with
    | _ j ih =>
      cases hl : L.getD j false with
      | true => rfl
      | false =>
        exfalso
        have ho : E.ops[j]? = some (E.ops[j]'(by omega)) := Array.getElem?_eq_getElem (by omega)
        obtain ⟨_, hlow, _⟩ := low_at j _ ho
        have : j ∈ Region.ready .any E.ops L := Chain.mem_ready'.2 ⟨bin' L j (by omega) hl, _, ho, fun e he _ => ih e.on (hlow e he) (by have := hlow e he; omega)⟩
        rw [hr] at this
        cases this

/-! The steps. -/

theorem op_at {E : Ch} {i : Nat} {p : Op} (h : (E.ops[i]?).map (·.op) = some p) {o : Oper} (ho : E.ops[i]? = some o) : o.op = p := by
  rw [ho] at h
  simpa using h

theorem upon_value {P : Program} {Q : Exit → Act → World → Prop} {a : Act} {o : Oper} {K : Act → World → Prop} {w w' : World} {v : Value} (h : (execOp a.eval o).run P w = .ok (.value v) w') (hK : K (a.put o.dst v) w') : o.wp P a w K Q := by
  unfold Oper.wp
  rw [h]
  exact hK

theorem ex_move {P : Program} {w : World} {a : Act} {o : Oper} {t : Tmp} {v : Value} (ho : o.op = .move (.tmp t)) (ht : a.tmps[t]? = some v) : (execOp a.eval o).run P w = .ok (.value v) w := by
  unfold execOp
  simp only [ho, Chain.eval_at ht]
  go_simp
theorem ex_assign {P : Program} {w : World} {a : Act} {o : Oper} {t : Tmp} {v : Value} (ho : o.op = .assign (.tmp t)) (ht : a.tmps[t]? = some v) : (execOp a.eval o).run P w = .ok (.value v) w := by
  unfold execOp
  simp only [ho, Chain.eval_at ht]
  go_simp

theorem s_move_out {E : Ch} {i : Nat} (t : Tmp) (c : Value) (hop : (E.ops[i]?).map (·.op) = some (.move (.tmp t))) (ht : E.Out t) (h0 : E.a0.tmps[t]? = some c) (hc : E.C i = some c) : E.Step i :=
  fun o ho _ _ w1 _ hout _ _ hK => upon_value (ex_move (op_at hop ho) ((hout t ht).trans h0)) (hK _ _ (Below.refl _ _) ((F_of hc).2 rfl))
theorem s_move {E : Ch} {i : Nat} (j : Nat) (c : Value) (hop : (E.ops[i]?).map (·.op) = some (.move (.tmp (E.S j)))) (hd : E.dep i j = true) (hj : E.C j = some c) (hc : E.C i = some c) : E.Step i :=
  fun o ho _ _ w1 _ _ hin _ hK => by
    obtain ⟨v, hv, hf⟩ := hin j hd
    obtain rfl := (F_of hj).1 hf
    exact upon_value (ex_move (op_at hop ho) hv) (hK _ _ (Below.refl _ _) ((F_of hc).2 rfl))
theorem s_assign {E : Ch} {i : Nat} (j : Nat) (c : Value) (hop : (E.ops[i]?).map (·.op) = some (.assign (.tmp (E.S j)))) (hd : E.dep i j = true) (hj : E.C j = some c) (hc : E.C i = some c) : E.Step i :=
  fun o ho _ _ w1 _ _ hin _ hK => by
    obtain ⟨v, hv, hf⟩ := hin j hd
    obtain rfl := (F_of hj).1 hf
    exact upon_value (ex_assign (op_at hop ho) hv) (hK _ _ (Below.refl _ _) ((F_of hc).2 rfl))
theorem s_not {E : Ch} {i : Nat} (j : Nat) (b : Bool) (hop : (E.ops[i]?).map (·.op) = some (.unOp .not 4 (.tmp (E.S j)))) (hP : E.P = Try.prog) (hd : E.dep i j = true) (hj : E.C j = some (.bool b)) (hc : E.C i = some (.bool !b)) : E.Step i :=
  fun o ho _ a w1 _ _ hin _ hK => by
    obtain ⟨v, hv, hf⟩ := hin j hd
    obtain rfl := (F_of hj).1 hf
    refine upon_value (v := .bool !b) ?_ (hK _ _ (Below.refl _ _) ((F_of hc).2 rfl))
    unfold execOp
    simp only [op_at hop ho, Chain.eval_at hv, hP]
    go_simp
theorem s_pick {E : Ch} {i : Nat} (j k : Nat) (b : Bool) (hop : (E.ops[i]?).map (·.op) = some (.pick (.tmp (E.S j)) (.tmp (E.S k)) (.const (.bool false)))) (hd : E.dep i j = true) (hd2 : E.dep i k = true) (hj : E.C j = some (.bool true)) (hk : E.C k = some (.bool b)) (hc : E.C i = some (.bool b)) : E.Step i :=
  fun o ho _ a w1 _ _ hin _ hK => by
    obtain ⟨v, hv, hf⟩ := hin j hd
    obtain rfl := (F_of hj).1 hf
    obtain ⟨u, hu, hf2⟩ := hin k hd2
    obtain rfl := (F_of hk).1 hf2
    refine upon_value (v := .bool b) ?_ (hK _ _ (Below.refl _ _) ((F_of hc).2 rfl))
    unfold execOp
    simp only [op_at hop ho, Chain.eval_at hv, Chain.eval_at hu]
    go_simp
theorem s_one {E : Ch} {i : Nat} (j : Nat) (p : Op) (x c : Value) (hop : (E.ops[i]?).map (·.op) = some p) (hd : E.dep i j = true) (hj : E.C j = some x) (hc : E.C i = some c)
    (hex : ∀ (a : Act) (W : World) (o : Oper), o.op = p → a.tmps[E.S j]? = some x → (execOp a.eval o).run E.P W = .ok (.value c) W) : E.Step i :=
  fun o ho _ a w1 _ _ hin _ hK => by
    obtain ⟨v, hv, hf⟩ := hin j hd
    obtain rfl := (F_of hj).1 hf
    exact upon_value (hex a w1 o (op_at hop ho) hv) (hK _ _ (Below.refl _ _) ((F_of hc).2 rfl))
theorem s_two {E : Ch} {i : Nat} (j k : Nat) (p : Op) (x y c : Value) (hop : (E.ops[i]?).map (·.op) = some p) (hd : E.dep i j = true) (hd2 : E.dep i k = true) (hj : E.C j = some x) (hk : E.C k = some y) (hc : E.C i = some c)
    (hex : ∀ (a : Act) (W : World) (o : Oper), o.op = p → a.tmps[E.S j]? = some x → a.tmps[E.S k]? = some y → (execOp a.eval o).run E.P W = .ok (.value c) W) : E.Step i :=
  fun o ho _ a w1 _ _ hin _ hK => by
    obtain ⟨v, hv, hf⟩ := hin j hd
    obtain rfl := (F_of hj).1 hf
    obtain ⟨u, hu, hf2⟩ := hin k hd2
    obtain rfl := (F_of hk).1 hf2
    exact upon_value (hex a w1 o (op_at hop ho) hv hu) (hK _ _ (Below.refl _ _) ((F_of hc).2 rfl))
/-- One operand of which something is said. -/
theorem s_of {E : Ch} {i : Nat} (j : Nat) (p : Op) (c : Value) (hop : (E.ops[i]?).map (·.op) = some p) (hd : E.dep i j = true) (hj : E.C j = none) (hc : E.C i = some c)
    (hex : ∀ (a : Act) (W : World) (o : Oper) (v : Value), o.op = p → a.tmps[E.S j]? = some v → E.R j v W → (execOp a.eval o).run E.P W = .ok (.value c) W) : E.Step i :=
  fun o ho _ a w1 _ _ hin _ hK => by
    obtain ⟨v, hv, hf⟩ := hin j hd
    exact upon_value (hex a w1 o v (op_at hop ho) hv ((F_no hj).1 hf)) (hK _ _ (Below.refl _ _) ((F_of hc).2 rfl))
/-- No operand of the region's own. -/
theorem s_none {E : Ch} {i : Nat} (p : Op) (c : Value) (hop : (E.ops[i]?).map (·.op) = some p) (hc : E.C i = some c)
    (hex : ∀ (a : Act) (W : World) (o : Oper), o.op = p → Below E.w.heap.size E.w W → (∀ t, E.Out t → a.tmps[t]? = E.a0.tmps[t]?) → (execOp a.eval o).run E.P W = .ok (.value c) W) : E.Step i :=
  fun o ho _ a w1 hb hout _ _ hK => upon_value (hex a w1 o (op_at hop ho) hb hout) (hK _ _ (Below.refl _ _) ((F_of hc).2 rfl))

/-- A call: with its arguments as they are. -/
theorem s_call {E : Ch} {i : Nat} (f : Nat) (p : Op) (hop : (E.ops[i]?).map (·.op) = some p)
    (hex : ∀ (a : Act) (W : World) (o : Oper), o.op = p → Below E.w.heap.size E.w W → (∀ t, E.Out t → a.tmps[t]? = E.a0.tmps[t]?) → (∀ j, E.dep i j = true → ∃ v, a.tmps[E.S j]? = some v ∧ E.F j v W) →
      ∃ args, (execOp a.eval o).run E.P W = .ok (.enter f args) W ∧ Calls E.P f args W fun e w' => ∃ v, e = .returned v ∧ E.F i v w' ∧ Below W.heap.size W w') : E.Step i :=
  fun o ho Q a w1 hb hout hin K hK => by
    obtain ⟨args, h1, h2⟩ := hex a w1 o (op_at hop ho) hb hout hin
    unfold Oper.wp
    rw [h1, Oper.upon_enter]
    refine h2.mono ?_
    rintro e w' ⟨v, rfl, h3, h4⟩
    exact hK v w' h4 h3
theorem ex_call0 {P : Program} {w : World} {a : Act} {o : Oper} {f : Nat} {T : Array TypeId} (c : Array Value) (l : Array Operand) (hl : l.map a.eval = c) (hf : ∀ (c : Array Value) (W : World), Sem.run P (callFunc f c) W = .ok (.enter f c) W) (ho : o.op = .call { callee := .value (.func f), args := l, argTypes := T }) : (execOp a.eval o).run P w = .ok (.enter f c) w := by
  subst hl
  unfold execOp
  simp only [ho, resolve, invoke]
  go_simp
end Ch
end Go.Proofs.Ytomkhhglemelcaa

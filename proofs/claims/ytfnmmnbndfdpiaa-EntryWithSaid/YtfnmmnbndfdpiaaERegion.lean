/-
  A region that draws its order, by what holds whatever has come up; and one such region: two drafts read, and laid as entries in two variables.
-/
import Derived.Test.YtfnmmnbndfdpiaaEDMath
import Derived.Orders
namespace Go.Proofs.Ytfnmmnbndfdpiaa
open Go.RowKit Go.Sort

section
variable {P : Program} {ops : Array Oper}

/-- How many operations have not come up. -/
def notYet (ops : Array Oper) (listed : Array Bool) : Nat := ((List.range ops.size).filter fun i => !listed.getD i true).length

theorem notYet_set {listed : Array Bool} {i : Nat} (hi : i < ops.size) (hs : listed.size = ops.size) (hun : listed.getD i true = false) : notYet ops (listed.setIfInBounds i true) < notYet ops listed := by
  unfold notYet
  rw [← List.countP_eq_length_filter, ← List.countP_eq_length_filter]
  have hle : ∀ l : List Nat, l.countP (fun j => !(listed.setIfInBounds i true).getD j true) ≤ l.countP (fun j => !listed.getD j true) := fun l => by
    refine List.countP_mono_left fun j _ h => ?_
    by_cases e : i = j
    · subst e
      simp [hs, hi] at h
    · rwa [Array.getD_eq_getD_getElem?, Array.getElem?_setIfInBounds_ne e, ← Array.getD_eq_getD_getElem?] at h
  have hm : i ∈ List.range ops.size := List.mem_range.2 hi
  obtain ⟨l1, l2, hl⟩ := List.append_of_mem hm
  rw [hl, List.countP_append, List.countP_append, List.countP_cons, List.countP_cons]
  have h1 := hle l1
  have h2 := hle l2
  have h3 : (!(listed.setIfInBounds i true).getD i true) = false := by simp [hs, hi]
  have h4 : (!listed.getD i true) = true := by rw [hun]; rfl
  rw [h3, h4]
  simp only [Bool.false_eq_true, if_false, if_true]
  omega

/-- A region that draws its order: what holds ahead of it, and is kept by each operation that may come up, holds behind it. -/
theorem wp_region_inv {id : Nat} {Q : Exit → Act → World → Prop} {a0 : Act} {w : World} (hm : P.follows .mixedOrders = true) (I : Array Bool → Act → World → Prop)
    (hsz : ∀ listed a w1, I listed a w1 → listed.size = ops.size)
    (h0 : I (Array.replicate ops.size false) a0 { w with drawn := w.drawn + 1 })
    (hstep : ∀ listed a w1, I listed a w1 → ∀ i ∈ Region.ready .any ops listed, ∀ K : Act → World → Prop, (∀ a' w2, I (listed.setIfInBounds i true) a' w2 → K a' w2) → wpOp P ops Q i K a w1)
    (hend : ∀ listed a w1, I listed a w1 → Region.ready .any ops listed = [] → Q .normal a w1) : (Code.region id ops true).wp P Q a0 w := by
  refine wp_region_any hm ?_
  have main : ∀ (fuel : Nat) (listed : Array Bool) (a : Act) (w1 : World), I listed a w1 → notYet ops listed ≤ fuel → wpAny P .any ops Q fuel listed a w1 := by
    intro fuel
    induction fuel with
    | zero =>
      intro listed a w1 h hu
      have hr : Region.ready .any ops listed = [] := by
        cases hl : Region.ready .any ops listed with
        | nil => rfl
        | cons i r =>
          have hi : i ∈ Region.ready .any ops listed := by rw [hl]; simp
          obtain ⟨hun, o, ho, _⟩ := mem_ready.1 hi
          have := notYet_set (ops := ops) (i := i) (Array.getElem?_eq_some_iff.1 ho).1 (hsz _ _ _ h) hun
          omega
      exact ⟨hr, hend listed a w1 h hr⟩
    | succ fuel ih =>
      intro listed a w1 h hu
      refine ⟨fun hr => hend listed a w1 h hr, fun i hi => hstep listed a w1 h i hi _ fun a' w2 h2 => ih _ a' w2 h2 ?_⟩
      obtain ⟨hun, o, ho, _⟩ := mem_ready.1 hi
      have := notYet_set (ops := ops) (i := i) (Array.getElem?_eq_some_iff.1 ho).1 (hsz _ _ _ h) hun
      omega
  refine main _ _ _ _ h0 ?_
  unfold notYet
  exact Nat.le_trans (List.length_filter_le ..) (by simp)

theorem tmps_put_ne {a : Act} {d t : Tmp} {v : Value} (h : d ≠ t) : (a.put (some d) v).tmps[t]? = a.tmps[t]? := by
  simp [Act.put, Array.getElem?_setIfInBounds_ne h]
theorem tmps_put_eq {a : Act} {d : Tmp} {v : Value} (h : d < a.tmps.size) : (a.put (some d) v).tmps[d]? = some v := by
  simp [Act.put, h]
theorem tmps_put_size (a : Act) (d : Option Tmp) (v : Value) : (a.put d v).tmps.size = a.tmps.size := by
  cases d <;> simp [Act.put]
theorem tmps_put_defers (a : Act) (d : Option Tmp) (v : Value) : (a.put d v).defers = a.defers := by cases d <;> rfl
theorem eval_tmp {a : Act} {t : Tmp} {v : Value} (h : a.tmps[t]? = some v) : a.eval (.tmp t) = v := by
  simp [Act.eval, Array.getD_eq_getD_getElem?, h]
theorem act_ext {a b : Act} (h : ∀ t : Nat, a.tmps[t]? = b.tmps[t]?) (hd : a.defers = b.defers) : a = b := by
  cases a; cases b
  simp only at h hd
  rw [Array.ext_getElem? h, hd]
end

/-- Some slots, each of which holds what it shall once its operation has come up. -/
structure Slots (n : Nat) (S : Nat → Tmp) (F : Nat → Value → World → Prop) (a0 : Act) (listed : Array Bool) (a : Act) (w : World) : Prop where
  size : a.tmps.size = a0.tmps.size
  defs : a.defers = a0.defers
  out : ∀ t, (∀ j, j < n → S j ≠ t) → a.tmps[t]? = a0.tmps[t]?
  ins : ∀ j, j < n → listed.getD j false = true → ∃ v, a.tmps[S j]? = some v ∧ F j v w

theorem listed_self {listed : Array Bool} {i : Nat} (h : i < listed.size) : (listed.setIfInBounds i true).getD i false = true := by simp [h]
theorem listed_ne {listed : Array Bool} {i j : Nat} (h : i ≠ j) (d : Bool) : (listed.setIfInBounds i true).getD j d = listed.getD j d := by
  rw [Array.getD_eq_getD_getElem?, Array.getElem?_setIfInBounds_ne h, ← Array.getD_eq_getD_getElem?]

theorem Slots.step {n : Nat} {S : Nat → Tmp} {F : Nat → Value → World → Prop} {a0 : Act} {listed : Array Bool} {a : Act} {w w' : World} (h : Slots n S F a0 listed a w) (hS : ∀ i, i < n → ∀ j, j < n → S i = S j → i = j) {i : Nat} (hi : i < n)
    (hsz : S i < a0.tmps.size) (hF : ∀ j v, j < n → F j v w → F j v w') {v : Value} (hv : F i v w') : Slots n S F a0 (listed.setIfInBounds i true) (a.put (some (S i)) v) w' where
  size := by rw [tmps_put_size]; exact h.size
  defs := by rw [tmps_put_defers]; exact h.defs
  out := fun t ht => by rw [tmps_put_ne (ht i hi)]; exact h.out t ht
  ins := fun j hj hl => by
    by_cases e : i = j
    · subst e
      exact ⟨v, tmps_put_eq (by rw [h.size]; exact hsz), hv⟩
    · rw [listed_ne e] at hl
      obtain ⟨u, hu, hf⟩ := h.ins j hj hl
      exact ⟨u, by rw [tmps_put_ne (fun e' => e (hS i hi j hj e'))]; exact hu, hF j u hj hf⟩


/-- The cells of an entry in a block. -/
def boxE (e : Ent) : Array Value := #[.string e.word, .int .u32 (e.weight : Int), .bool e.gone]
def Box (w : World) (g : Nat) (e : Ent) : Prop := w.heap[g]? = some (.cells (boxE e) 24 (0, 0))

theorem Box.lt {w : World} {g : Nat} {e : Ent} (h : Box w g e) : g < w.heap.size := (Array.getElem?_eq_some_iff.1 h).1
theorem Box.below {w w' : World} {g : Nat} {e : Ent} (h : Box w g e) (hb : RowKit.Below w.heap.size w w') : Box w' g e := (hb.block g h.lt).trans h
theorem Box.cells {w : World} {g : Nat} {e : Ent} (h : Box w g e) : w.cell? ⟨g, 0, none⟩ = some (.string e.word) ∧ w.cell? ⟨g, 1, none⟩ = some (.int .u32 (e.weight : Int)) ∧ w.cell? ⟨g, 2, none⟩ = some (.bool e.gone) := by
  unfold Box boxE at h
  simp [World.cell?, h]
theorem Box.free {w : World} {g : Nat} {e : Ent} (h : Box w g e) : ∀ o, w.frozen? ⟨g, o, none⟩ = false := by
  unfold Box at h
  intro o
  simp [World.frozen?, h]

theorem exec_load3 {w : World} {a : Act} {o : Oper} {t : Tmp} {g : Nat} {T : TypeId} {u0 u1 u2 : Value} (hT : T = 51 ∨ T = 24) (ho : o.op = .load T (.tmp t)) (ht : a.eval (.tmp t) = .pointer (some ⟨g, 0, none⟩))
    (h0 : w.cell? ⟨g, 0, none⟩ = some u0) (h1 : w.cell? ⟨g, 1, none⟩ = some u1) (h2 : w.cell? ⟨g, 2, none⟩ = some u2) : (execOp a.eval o).run Try.prog w = .ok (.value (.agg #[u0, u1, u2])) w := by
  unfold execOp
  rcases hT with rfl | rfl
  · simp only [ho, ht]
    go_simp
  · simp only [ho, ht]
    go_simp

theorem exec_alloc24 {w : World} {a : Act} {o : Oper} (ho : o.op = .alloc 24) : (execOp a.eval o).run Try.prog w = .ok (.value (.pointer (some ⟨w.heap.size, 0, none⟩))) (w.alloc (.cells (boxE default) 24)) := by
  unfold execOp
  simp only [ho]
  go_simp
  rfl

theorem exec_store24 {w : World} {a : Act} {o : Oper} {t u : Tmp} {g : Nat} {e x : Ent} (ho : o.op = .store 24 (.tmp t) (.tmp u)) (ht : a.eval (.tmp t) = .pointer (some ⟨g, 0, none⟩)) (hu : a.eval (.tmp u) = .agg (boxE x)) (hb : Box w g e) :
    ∃ w', (execOp a.eval o).run Try.prog w = .ok .skip w' ∧ Box w' g x ∧ w.grownBy w' (some g) := by
  obtain ⟨h0, h1, h2⟩ := hb.cells
  have hf := hb.free
  have f0 := hf 0
  have f1 := hf 1
  have f2 := hf 2
  unfold boxE at hu
  refine ⟨((w.setCell ⟨g, 0, none⟩ (.string x.word)).setCell ⟨g, 1, none⟩ (.int .u32 x.weight)).setCell ⟨g, 2, none⟩ (.bool x.gone), ?_, ?_, ?_⟩
  · unfold execOp
    simp only [ho, ht, hu]
    go_simp
  · have k0 := cells_setCell hb 0 (.string x.word)
    have k1 := cells_setCell k0 1 (.int .u32 x.weight)
    have k2 := cells_setCell k1 2 (.bool x.gone)
    exact k2
  · have g0 := grown_setCell w g 0 (.string x.word)
    have g1 := grown_setCell (w.setCell ⟨g, 0, none⟩ (.string x.word)) g 1 (.int .u32 x.weight)
    have g2 := grown_setCell ((w.setCell ⟨g, 0, none⟩ (.string x.word)).setCell ⟨g, 1, none⟩ (.int .u32 x.weight)) g 2 (.bool x.gone)
    exact ⟨rfl, rfl, rfl, by simp, fun k hk hn => by rw [g2.block k (by simpa using hk) hn, g1.block k (by simpa using hk) hn, g0.block k hk hn]⟩

theorem upon_value {Q : Exit → Act → World → Prop} {a : Act} {o : Oper} {K : Act → World → Prop} {w w' : World} {v : Value} (h : (execOp a.eval o).run Try.prog w = .ok (.value v) w') (hK : K (a.put o.dst v) w') : o.wp Try.prog a w K Q := by
  unfold Oper.wp
  rw [h]
  exact hK

theorem step_op {ops : Array Oper} {Q : Exit → Act → World → Prop} {a : Act} {i : Nat} {o : Oper} {K : Act → World → Prop} {w : World} (ho : ops[i]? = some o) (hg : o.guard = none) (h : o.wp Try.prog a w K Q) : wpOp Try.prog ops Q i K a w := by
  unfold wpOp
  simp only [ho]
  rw [if_pos (by simp [Region.wanted, hg])]
  exact .inl h

theorem exec_call1 {w : World} {a : Act} {o : Oper} {t : Tmp} {x : Value} (ho : o.op = .call { callee := .value (.func 28), args := #[.tmp t], argTypes := #[51] }) (ht : a.eval (.tmp t) = x) :
    (execOp a.eval o).run Try.prog w = .ok (.enter 28 #[x]) w := by
  unfold execOp
  simp only [ho, ht, resolve, invoke, List.map_toArray, List.map_cons, List.map_nil]
  go_simp

set_option maxRecDepth 100000 in
set_option maxHeartbeats 1000000 in
/-- Two drafts read, each as an entry, laid in two variables of their own. -/
theorem region_drafts {id : Nat} {ops : Array Oper} {Q : Exit → Act → World → Prop} {a0 : Act} {w : World} (S : Nat → Tmp) (tA tB : Tmp) (s0 s1 s2 s3 s4 s5 s6 s7 : String) (gA gB : Nat) (u0 u1 u2 v0 v1 v2 : Value) (X Y : Ent) (e6 e7 : Array Edge)
    (hops : ops = #[{ dst := some (S 0), op := .load 51 (.tmp tA), type := 51, pos := s0, after := #[], guard := none },
      { dst := some (S 1), op := .call { callee := .value (.func 28), args := #[.tmp (S 0)], argTypes := #[51] }, type := 24, pos := s1, after := #[{ on := 0, ground := .data }], guard := none },
      { dst := some (S 2), op := .load 51 (.tmp tB), type := 51, pos := s2, after := #[], guard := none },
      { dst := some (S 3), op := .call { callee := .value (.func 28), args := #[.tmp (S 2)], argTypes := #[51] }, type := 24, pos := s3, after := #[{ on := 2, ground := .data }, { on := 1, ground := .chain }], guard := none },
      { dst := some (S 4), op := .alloc 24, type := 0, pos := s4, after := #[], guard := none },
      { dst := some (S 5), op := .alloc 24, type := 0, pos := s5, after := #[], guard := none },
      { dst := none, op := .store 24 (.tmp (S 4)) (.tmp (S 1)), type := 0, pos := s6, after := e6, guard := none },
      { dst := none, op := .store 24 (.tmp (S 5)) (.tmp (S 3)), type := 0, pos := s7, after := e7, guard := none }])
    (h6 : ∀ j, j < 6 → j ≠ 2 → ∃ e ∈ e6, Region.binds .any e = true ∧ e.on = j) (h7 : ∀ j, j < 7 → ∃ e ∈ e7, Region.binds .any e = true ∧ e.on = j) (h6' : ∀ e ∈ e6, e.on < 6) (h7' : ∀ e ∈ e7, e.on < 7)
    (hm : Try.prog.follows .mixedOrders = true) (hS : ∀ i, i < 6 → ∀ j, j < 6 → S i = S j → i = j) (hSz : ∀ i, i < 6 → S i < a0.tmps.size)
    (hA : a0.tmps[tA]? = some (.pointer (some ⟨gA, 0, none⟩))) (hB : a0.tmps[tB]? = some (.pointer (some ⟨gB, 0, none⟩))) (hAS : ∀ j, j < 6 → S j ≠ tA) (hBS : ∀ j, j < 6 → S j ≠ tB)
    (kA : ∀ W, RowKit.Below w.heap.size w W → W.cell? ⟨gA, 0, none⟩ = some u0 ∧ W.cell? ⟨gA, 1, none⟩ = some u1 ∧ W.cell? ⟨gA, 2, none⟩ = some u2)
    (kB : ∀ W, RowKit.Below w.heap.size w W → W.cell? ⟨gB, 0, none⟩ = some v0 ∧ W.cell? ⟨gB, 1, none⟩ = some v1 ∧ W.cell? ⟨gB, 2, none⟩ = some v2)
    (qA : ∀ W, RowKit.Below w.heap.size w W → Calls Try.prog 28 #[.agg #[u0, u1, u2]] W fun e w' => e = .returned (.agg (boxE X)) ∧ RowKit.Below W.heap.size W w')
    (qB : ∀ W, RowKit.Below w.heap.size w W → Calls Try.prog 28 #[.agg #[v0, v1, v2]] W fun e w' => e = .returned (.agg (boxE Y)) ∧ RowKit.Below W.heap.size W w')
    (hQ : ∀ g g' w1, RowKit.Below w.heap.size w w1 → g ≠ g' → w.heap.size ≤ g → w.heap.size ≤ g' → Box w1 g X → Box w1 g' Y →
      Q .normal ((((((a0.put (some (S 0)) (.agg #[u0, u1, u2])).put (some (S 1)) (.agg (boxE X))).put (some (S 2)) (.agg #[v0, v1, v2])).put (some (S 3)) (.agg (boxE Y))).put (some (S 4)) (.pointer (some ⟨g, 0, none⟩))).put (some (S 5)) (.pointer (some ⟨g', 0, none⟩))) w1) :
    (Code.region id ops true).wp Try.prog Q a0 w := by
  have hn : ops.size = 8 := by rw [hops]; rfl
  -- what each slot holds
  obtain ⟨F, hF⟩ : ∃ F : Nat → Value → World → Prop, F = fun j v W => match j with
    | 0 => v = .agg #[u0, u1, u2]
    | 1 => v = .agg (boxE X)
    | 2 => v = .agg #[v0, v1, v2]
    | 3 => v = .agg (boxE Y)
    | _ => ∃ g, v = .pointer (some ⟨g, 0, none⟩) ∧ w.heap.size ≤ g ∧ Box W g default := ⟨_, rfl⟩
  have F0 : ∀ v W, F 0 v W ↔ v = .agg #[u0, u1, u2] := fun v W => by subst hF; exact Iff.rfl
  have F1 : ∀ v W, F 1 v W ↔ v = .agg (boxE X) := fun v W => by subst hF; exact Iff.rfl
  have F2 : ∀ v W, F 2 v W ↔ v = .agg #[v0, v1, v2] := fun v W => by subst hF; exact Iff.rfl
  have F3 : ∀ v W, F 3 v W ↔ v = .agg (boxE Y) := fun v W => by subst hF; exact Iff.rfl
  have F4 : ∀ v W, F 4 v W ↔ ∃ g, v = .pointer (some ⟨g, 0, none⟩) ∧ w.heap.size ≤ g ∧ Box W g default := fun v W => by subst hF; exact Iff.rfl
  have F5 : ∀ v W, F 5 v W ↔ ∃ g, v = .pointer (some ⟨g, 0, none⟩) ∧ w.heap.size ≤ g ∧ Box W g default := fun v W => by subst hF; exact Iff.rfl
  have Fmono : ∀ W W', RowKit.Below W.heap.size W W' → ∀ j v, j < 6 → F j v W → F j v W' := fun W W' hb j v hj h => by
    rcases (show j = 0 ∨ j = 1 ∨ j = 2 ∨ j = 3 ∨ j = 4 ∨ j = 5 by omega) with rfl | rfl | rfl | rfl | rfl | rfl
    · rw [F0] at h ⊢; exact h
    · rw [F1] at h ⊢; exact h
    · rw [F2] at h ⊢; exact h
    · rw [F3] at h ⊢; exact h
    · rw [F4] at h ⊢; obtain ⟨g, h1, h2, h3⟩ := h; exact ⟨g, h1, h2, h3.below hb⟩
    · rw [F5] at h ⊢; obtain ⟨g, h1, h2, h3⟩ := h; exact ⟨g, h1, h2, h3.below hb⟩
  clear hF
  -- the two variables are two
  have apart : ∀ (a : Act) (d : Tmp) (v : Value), d ≠ S 4 → d ≠ S 5 → ((a.put (some d) v).tmps[S 4]? = a.tmps[S 4]? ∧ (a.put (some d) v).tmps[S 5]? = a.tmps[S 5]?) := fun a d v h h' => ⟨tmps_put_ne h, tmps_put_ne h'⟩
  obtain ⟨fin, hfin⟩ : ∃ fin : Nat → Nat → Act, fin = fun g g' => (((((a0.put (some (S 0)) (.agg #[u0, u1, u2])).put (some (S 1)) (.agg (boxE X))).put (some (S 2)) (.agg #[v0, v1, v2])).put (some (S 3)) (.agg (boxE Y))).put (some (S 4)) (.pointer (some ⟨g, 0, none⟩))).put (some (S 5)) (.pointer (some ⟨g', 0, none⟩)) := ⟨_, rfl⟩
  have hne : ∀ i j, i < 6 → j < 6 → i ≠ j → S i ≠ S j := fun i j hi hj h e => h (hS i hi j hj e)
  have fin_in : ∀ g g', (fin g g').tmps[S 0]? = some (.agg #[u0, u1, u2]) ∧ (fin g g').tmps[S 1]? = some (.agg (boxE X)) ∧ (fin g g').tmps[S 2]? = some (.agg #[v0, v1, v2]) ∧ (fin g g').tmps[S 3]? = some (.agg (boxE Y)) ∧
      (fin g g').tmps[S 4]? = some (.pointer (some ⟨g, 0, none⟩)) ∧ (fin g g').tmps[S 5]? = some (.pointer (some ⟨g', 0, none⟩)) := fun g g' => by
    subst hfin
    have z := hSz
    refine ⟨?_, ?_, ?_, ?_, ?_, ?_⟩
    · rw [tmps_put_ne (hne 5 0 (by omega) (by omega) (by omega)), tmps_put_ne (hne 4 0 (by omega) (by omega) (by omega)), tmps_put_ne (hne 3 0 (by omega) (by omega) (by omega)), tmps_put_ne (hne 2 0 (by omega) (by omega) (by omega)), tmps_put_ne (hne 1 0 (by omega) (by omega) (by omega)), tmps_put_eq (z 0 (by omega))]
    · rw [tmps_put_ne (hne 5 1 (by omega) (by omega) (by omega)), tmps_put_ne (hne 4 1 (by omega) (by omega) (by omega)), tmps_put_ne (hne 3 1 (by omega) (by omega) (by omega)), tmps_put_ne (hne 2 1 (by omega) (by omega) (by omega)), tmps_put_eq (by simp only [tmps_put_size]; exact z 1 (by omega))]
    · rw [tmps_put_ne (hne 5 2 (by omega) (by omega) (by omega)), tmps_put_ne (hne 4 2 (by omega) (by omega) (by omega)), tmps_put_ne (hne 3 2 (by omega) (by omega) (by omega)), tmps_put_eq (by simp only [tmps_put_size]; exact z 2 (by omega))]
    · rw [tmps_put_ne (hne 5 3 (by omega) (by omega) (by omega)), tmps_put_ne (hne 4 3 (by omega) (by omega) (by omega)), tmps_put_eq (by simp only [tmps_put_size]; exact z 3 (by omega))]
    · rw [tmps_put_ne (hne 5 4 (by omega) (by omega) (by omega)), tmps_put_eq (by simp only [tmps_put_size]; exact z 4 (by omega))]
    · rw [tmps_put_eq (by simp only [tmps_put_size]; exact z 5 (by omega))]
  have fin_out : ∀ g g' t, (∀ j, j < 6 → S j ≠ t) → (fin g g').tmps[t]? = a0.tmps[t]? := fun g g' t ht => by
    subst hfin
    rw [tmps_put_ne (ht 5 (by omega)), tmps_put_ne (ht 4 (by omega)), tmps_put_ne (ht 3 (by omega)), tmps_put_ne (ht 2 (by omega)), tmps_put_ne (ht 1 (by omega)), tmps_put_ne (ht 0 (by omega))]
  have fin_defs : ∀ g g', (fin g g').defers = a0.defers := fun g g' => by subst hfin; simp only [tmps_put_defers]
  have hQ' : ∀ g g' w1, RowKit.Below w.heap.size w w1 → g ≠ g' → w.heap.size ≤ g → w.heap.size ≤ g' → Box w1 g X → Box w1 g' Y → Q .normal (fin g g') w1 := by subst hfin; exact hQ
  clear hQ hfin
  let I := fun (L : Array Bool) (a : Act) (w1 : World) => L.size = 8 ∧ RowKit.Below w.heap.size w w1 ∧
    ((L.getD 6 false = false ∧ L.getD 7 false = false ∧ Slots 6 S F a0 L a w1 ∧ (L.getD 4 false = true → L.getD 5 false = true → a.tmps[S 4]? ≠ a.tmps[S 5]?) ∧ (L.getD 3 false = true → L.getD 2 false = true)) ∨
     ((∀ j, j < 7 → L.getD j false = true) ∧ L.getD 7 false = false ∧ ∃ g g', a = fin g g' ∧ g ≠ g' ∧ w.heap.size ≤ g ∧ w.heap.size ≤ g' ∧ Box w1 g X ∧ Box w1 g' default) ∨
     ((∀ j, j < 8 → L.getD j false = true) ∧ ∃ g g', a = fin g g' ∧ g ≠ g' ∧ w.heap.size ≤ g ∧ w.heap.size ≤ g' ∧ Box w1 g X ∧ Box w1 g' Y))
  have un : ∀ (L : Array Bool) (i : Nat), L.getD i true = false → L.getD i false = false := fun L i h => by
    rw [Array.getD_eq_getD_getElem?] at h ⊢
    cases hl : L[i]? with
    | none => rw [hl] at h; cases h
    | some b => rw [hl] at h; exact h
  have un' : ∀ (L : Array Bool) (i : Nat), i < L.size → L.getD i false = false → L.getD i true = false := fun L i hi h => by
    rw [Array.getD_eq_getD_getElem?, Array.getElem?_eq_getElem hi] at h ⊢
    exact h
  have adv : ∀ (L : Array Bool) (a : Act) (w1 w2 : World) (i : Nat) (v : Value), L.size = 8 → RowKit.Below w.heap.size w w1 → L.getD 6 false = false → L.getD 7 false = false → Slots 6 S F a0 L a w1 → i < 6 → RowKit.Below w1.heap.size w1 w2 → F i v w2 →
      ((L.setIfInBounds i true).getD 4 false = true → (L.setIfInBounds i true).getD 5 false = true → (a.put (some (S i)) v).tmps[S 4]? ≠ (a.put (some (S i)) v).tmps[S 5]?) → ((L.setIfInBounds i true).getD 3 false = true → (L.setIfInBounds i true).getD 2 false = true) →
      I (L.setIfInBounds i true) (a.put (some (S i)) v) w2 := fun L a w1 w2 i v hs hb h6 h7 hsl hi hb2 hf hap h32 =>
    ⟨by simpa using hs, Below.next hb hb2, .inl ⟨by rw [listed_ne (by omega)]; exact h6, by rw [listed_ne (by omega)]; exact h7, hsl.step hS hi (hSz i hi) (fun j v hj h => Fmono w1 w2 hb2 j v hj h) hf, hap, h32⟩⟩
  refine wp_region_inv hm I (fun L a w1 h => by rw [hn]; exact h.1) ?_ ?_ ?_
  · rw [hn]
    have hr : ∀ j d, j < 8 → (Array.replicate 8 false).getD j d = false := fun j d hj => by simp [hj]
    exact ⟨by simp, RowKit.Below.drew (RowKit.Below.refl _ w), .inl ⟨hr 6 _ (by omega), hr 7 _ (by omega), ⟨rfl, rfl, fun _ _ => rfl, (fun j hj h => by rw [hr j _ (by omega)] at h; cases h)⟩, (fun h => by rw [hr 4 _ (by omega)] at h; cases h), (fun h => by rw [hr 3 _ (by omega)] at h; cases h)⟩⟩
  · intro L a w1 ⟨hs, hb, h⟩ i hi K hK
    obtain ⟨hun, o, ho, hall⟩ := mem_ready.1 hi
    have hi8 : i < 8 := by have := (Array.getElem?_eq_some_iff.1 ho).1; omega
    have hun' := un L i hun
    have ho' := ho
    rw [hops] at ho'
    by_cases hi6 : i < 6
    · have hph : L.getD 6 false = false ∧ L.getD 7 false = false ∧ Slots 6 S F a0 L a w1 ∧ (L.getD 4 false = true → L.getD 5 false = true → a.tmps[S 4]? ≠ a.tmps[S 5]?) ∧ (L.getD 3 false = true → L.getD 2 false = true) := by
        rcases h with h | ⟨h, _⟩ | ⟨h, _⟩
        · exact h
        · rw [h i (by omega)] at hun'; cases hun'
        · rw [h i (by omega)] at hun'; cases hun'
      obtain ⟨g6, g7, hsl, hap, h32⟩ := hph
      have hsame : ∀ i', i' < 4 → i' ≠ 2 → i' ≠ 3 → ∀ v, ((L.setIfInBounds i' true).getD 4 false = true → (L.setIfInBounds i' true).getD 5 false = true → (a.put (some (S i')) v).tmps[S 4]? ≠ (a.put (some (S i')) v).tmps[S 5]?) ∧ ((L.setIfInBounds i' true).getD 3 false = true → (L.setIfInBounds i' true).getD 2 false = true) := fun i' h4 h2 h3 v => by
        rw [listed_ne (by omega), listed_ne (by omega), listed_ne (by omega), listed_ne (by omega), (apart a (S i') v (hne i' 4 (by omega) (by omega) (by omega)) (hne i' 5 (by omega) (by omega) (by omega))).1, (apart a (S i') v (hne i' 4 (by omega) (by omega) (by omega)) (hne i' 5 (by omega) (by omega) (by omega))).2]
        exact ⟨hap, h32⟩
      have hap23 : ∀ i', i' = 2 ∨ i' = 3 → ∀ v, ((L.setIfInBounds i' true).getD 4 false = true → (L.setIfInBounds i' true).getD 5 false = true → (a.put (some (S i')) v).tmps[S 4]? ≠ (a.put (some (S i')) v).tmps[S 5]?) := fun i' h4 v => by
        rw [listed_ne (by omega), listed_ne (by omega), (apart a (S i') v (hne i' 4 (by omega) (by omega) (by omega)) (hne i' 5 (by omega) (by omega) (by omega))).1, (apart a (S i') v (hne i' 4 (by omega) (by omega) (by omega)) (hne i' 5 (by omega) (by omega) (by omega))).2]
        exact hap
      rcases (show i = 0 ∨ i = 1 ∨ i = 2 ∨ i = 3 ∨ i = 4 ∨ i = 5 by omega) with rfl | rfl | rfl | rfl | rfl | rfl
      · simp at ho'
        subst ho'
        obtain ⟨k0, k1, k2⟩ := kA w1 hb
        refine step_op ho rfl (upon_value (exec_load3 (.inl rfl) rfl (eval_tmp ((hsl.out tA hAS).trans hA)) k0 k1 k2) (hK _ _ ?_))
        exact adv L a w1 w1 0 _ hs hb g6 g7 hsl (by omega) (RowKit.Below.refl _ _) ((F0 _ _).2 rfl) (hsame 0 (by omega) (by omega) (by omega) _).1 (hsame 0 (by omega) (by omega) (by omega) undef).2
      · simp at ho'
        subst ho'
        have hl0 := hall ⟨0, .data⟩ (by simp) (by rfl)
        obtain ⟨v, hv, hf⟩ := hsl.ins 0 (by omega) hl0
        rw [F0] at hf
        subst hf
        refine step_op ho rfl ?_
        unfold Oper.wp
        rw [exec_call1 rfl (eval_tmp hv), Oper.upon_enter]
        refine (qA w1 hb).mono ?_
        rintro e w2 ⟨rfl, hb2⟩
        exact hK _ _ (adv L a w1 w2 1 _ hs hb g6 g7 hsl (by omega) hb2 ((F1 _ _).2 rfl) (hsame 1 (by omega) (by omega) (by omega) _).1 (hsame 1 (by omega) (by omega) (by omega) undef).2)
      · simp at ho'
        subst ho'
        obtain ⟨k0, k1, k2⟩ := kB w1 hb
        refine step_op ho rfl (upon_value (exec_load3 (.inl rfl) rfl (eval_tmp ((hsl.out tB hBS).trans hB)) k0 k1 k2) (hK _ _ ?_))
        exact adv L a w1 w1 2 _ hs hb g6 g7 hsl (by omega) (RowKit.Below.refl _ _) ((F2 _ _).2 rfl) (hap23 2 (.inl rfl) _) (fun _ => listed_self (by omega))
      · simp at ho'
        subst ho'
        have hl2 := hall ⟨2, .data⟩ (by simp) (by rfl)
        obtain ⟨v, hv, hf⟩ := hsl.ins 2 (by omega) hl2
        rw [F2] at hf
        subst hf
        refine step_op ho rfl ?_
        unfold Oper.wp
        rw [exec_call1 rfl (eval_tmp hv), Oper.upon_enter]
        refine (qB w1 hb).mono ?_
        rintro e w2 ⟨rfl, hb2⟩
        exact hK _ _ (adv L a w1 w2 3 _ hs hb g6 g7 hsl (by omega) hb2 ((F3 _ _).2 rfl) (hap23 3 (.inr rfl) _) (fun _ => by rw [listed_ne (by omega)]; exact hl2))
      · simp at ho'
        subst ho'
        have hx := exec_alloc24 (w := w1) (a := a) (o := { dst := some (S 4), op := .alloc 24, type := 0, pos := s4, after := #[], guard := none }) rfl
        refine step_op ho rfl (upon_value hx (hK _ _ ?_))
        refine adv L a w1 _ 4 _ hs hb g6 g7 hsl (by omega) (below_alloc w1 _) ((F4 _ _).2 ⟨_, rfl, hb.size, heap_alloc_new w1 _⟩) ?_ (by rw [listed_ne (by omega), listed_ne (by omega)]; exact h32)
        intro _ h5
        rw [listed_ne (by omega)] at h5
        obtain ⟨v, hv, hf⟩ := hsl.ins 5 (by omega) h5
        rw [F5] at hf
        obtain ⟨g, rfl, _, hbx⟩ := hf
        rw [tmps_put_eq (by rw [hsl.size]; exact hSz 4 (by omega)), tmps_put_ne (hne 4 5 (by omega) (by omega) (by omega)), hv]
        have := hbx.lt
        intro e
        injection e with e
        injection e with e
        injection e with e
        injection e with e
        omega
      · simp at ho'
        subst ho'
        have hx := exec_alloc24 (w := w1) (a := a) (o := { dst := some (S 5), op := .alloc 24, type := 0, pos := s5, after := #[], guard := none }) rfl
        refine step_op ho rfl (upon_value hx (hK _ _ ?_))
        refine adv L a w1 _ 5 _ hs hb g6 g7 hsl (by omega) (below_alloc w1 _) ((F5 _ _).2 ⟨_, rfl, hb.size, heap_alloc_new w1 _⟩) ?_ (by rw [listed_ne (by omega), listed_ne (by omega)]; exact h32)
        intro h4 _
        rw [listed_ne (by omega)] at h4
        obtain ⟨v, hv, hf⟩ := hsl.ins 4 (by omega) h4
        rw [F4] at hf
        obtain ⟨g, rfl, _, hbx⟩ := hf
        rw [tmps_put_eq (by rw [hsl.size]; exact hSz 5 (by omega)), tmps_put_ne (hne 5 4 (by omega) (by omega) (by omega)), hv]
        have := hbx.lt
        intro e
        injection e with e
        injection e with e
        injection e with e
        injection e with e
        omega
    · by_cases hi7 : i = 6
      · subst hi7
        simp at ho'
        subst ho'
        have hph : L.getD 7 false = false ∧ Slots 6 S F a0 L a w1 ∧ (L.getD 4 false = true → L.getD 5 false = true → a.tmps[S 4]? ≠ a.tmps[S 5]?) ∧ (L.getD 3 false = true → L.getD 2 false = true) := by
          rcases h with h | ⟨h, _⟩ | ⟨h, _⟩
          · exact h.2
          · rw [h 6 (by omega)] at hun'; cases hun'
          · rw [h 6 (by omega)] at hun'; cases hun'
        obtain ⟨g7, hsl, hap, h32⟩ := hph
        have hl : ∀ j, j < 6 → L.getD j false = true := fun j hj => by
          have hl' : ∀ j, j < 6 → j ≠ 2 → L.getD j false = true := fun j hj h2 => by
            obtain ⟨e, he, hbi, rfl⟩ := h6 j hj h2
            exact hall e he hbi
          by_cases e : j = 2
          · subst e; exact h32 (hl' 3 (by omega) (by omega))
          · exact hl' j hj e
        obtain ⟨x0, y0, f0⟩ := hsl.ins 0 (by omega) (hl 0 (by omega))
        obtain ⟨x1, y1, f1⟩ := hsl.ins 1 (by omega) (hl 1 (by omega))
        obtain ⟨x2, y2, f2⟩ := hsl.ins 2 (by omega) (hl 2 (by omega))
        obtain ⟨x3, y3, f3⟩ := hsl.ins 3 (by omega) (hl 3 (by omega))
        obtain ⟨x4, y4, f4⟩ := hsl.ins 4 (by omega) (hl 4 (by omega))
        obtain ⟨x5, y5, f5⟩ := hsl.ins 5 (by omega) (hl 5 (by omega))
        rw [F0] at f0
        rw [F1] at f1
        rw [F2] at f2
        rw [F3] at f3
        rw [F4] at f4
        rw [F5] at f5
        subst f0 f1 f2 f3
        obtain ⟨g, rfl, hg, hbg⟩ := f4
        obtain ⟨g', rfl, hg', hbg'⟩ := f5
        have hgg : g ≠ g' := fun e => hap (hl 4 (by omega)) (hl 5 (by omega)) (by rw [y4, y5, e])
        obtain ⟨z0, z1, z2, z3, z4, z5⟩ := fin_in g g'
        have ha : a = fin g g' := act_ext (fun t => by
          by_cases ht : ∀ j, j < 6 → S j ≠ t
          · rw [hsl.out t ht, fin_out g g' t ht]
          · obtain ⟨j, hj⟩ := Classical.not_forall.1 ht
            obtain ⟨hj6, hjt⟩ := Classical.not_imp.1 hj
            have hjt := Classical.not_not.1 hjt
            subst hjt
            rcases (show j = 0 ∨ j = 1 ∨ j = 2 ∨ j = 3 ∨ j = 4 ∨ j = 5 by omega) with rfl | rfl | rfl | rfl | rfl | rfl
            · rw [y0, z0]
            · rw [y1, z1]
            · rw [y2, z2]
            · rw [y3, z3]
            · rw [y4, z4]
            · rw [y5, z5]) (by rw [hsl.defs, fin_defs])
        obtain ⟨w2, hrun, hbx, hgr⟩ := exec_store24 (o := { dst := none, op := .store 24 (.tmp (S 4)) (.tmp (S 1)), type := 0, pos := s6, after := e6, guard := none }) (e := default) rfl (eval_tmp y4) (eval_tmp y1) hbg
        refine step_op ho rfl ?_
        unfold Oper.wp
        rw [hrun]
        refine hK _ _ ⟨by simpa using hs, hb.grown hgr hb.size (fun k hk => by cases hk; exact hg), .inr (.inl ⟨fun j hj => ?_, by rw [listed_ne (by omega)]; exact g7, g, g', ha, hgg, hg, hg', hbx, (hgr.block g' hbg'.lt (by simp; exact fun e => hgg e.symm)).trans hbg'⟩)⟩
        by_cases e : j = 6
        · subst e; exact listed_self (by omega)
        · rw [listed_ne (by omega)]; exact hl j (by omega)
      · obtain rfl : i = 7 := by omega
        simp at ho'
        subst ho'
        have hl : ∀ j, j < 7 → L.getD j false = true := fun j hj => by
          obtain ⟨e, he, hbi, rfl⟩ := h7 j hj
          exact hall e he hbi
        have hph : ∃ g g', a = fin g g' ∧ g ≠ g' ∧ w.heap.size ≤ g ∧ w.heap.size ≤ g' ∧ Box w1 g X ∧ Box w1 g' default := by
          rcases h with h | ⟨_, _, h⟩ | ⟨h, _⟩
          · rw [hl 6 (by omega)] at h; cases h.1
          · exact h
          · rw [h 7 (by omega)] at hun'; cases hun'
        obtain ⟨g, g', rfl, hgg, hg, hg', hbg, hbg'⟩ := hph
        obtain ⟨z0, z1, z2, z3, z4, z5⟩ := fin_in g g'
        obtain ⟨w2, hrun, hbx, hgr⟩ := exec_store24 (o := { dst := none, op := .store 24 (.tmp (S 5)) (.tmp (S 3)), type := 0, pos := s7, after := e7, guard := none }) (e := default) rfl (eval_tmp z5) (eval_tmp z3) hbg'
        refine step_op ho rfl ?_
        unfold Oper.wp
        rw [hrun]
        refine hK _ _ ⟨by simpa using hs, hb.grown hgr hb.size (fun k hk => by cases hk; exact hg'), .inr (.inr ⟨fun j hj => ?_, g, g', rfl, hgg, hg, hg', (hgr.block g hbg.lt (by simp; exact hgg)).trans hbg, hbx⟩)⟩
        by_cases e : j = 7
        · subst e; exact listed_self (by omega)
        · rw [listed_ne (by omega)]; exact hl j (by omega)
  · intro L a w1 ⟨hs, hb, h⟩ hr
    have hready : ∀ i o, i < 8 → ops[i]? = some o → (∀ e ∈ o.after, Region.binds .any e = true → L.getD e.on false = true) → L.getD i false = true := fun i o hi ho hall => by
      cases hl : L.getD i false with
      | true => rfl
      | false =>
        have : i ∈ Region.ready .any ops L := mem_ready.2 ⟨un' L i (by omega) hl, o, ho, hall⟩
        rw [hr] at this
        cases this
    have l0 := hready 0 _ (by omega) (by rw [hops]; rfl) (by simp)
    have l1 := hready 1 _ (by omega) (by rw [hops]; rfl) (fun e he _ => by simp at he; subst he; exact l0)
    have l2 := hready 2 _ (by omega) (by rw [hops]; rfl) (by simp)
    have l3 := hready 3 _ (by omega) (by rw [hops]; rfl) (fun e he _ => by simp at he; rcases he with rfl | rfl; exact l2; exact l1)
    have l4 := hready 4 _ (by omega) (by rw [hops]; rfl) (by simp)
    have l5 := hready 5 _ (by omega) (by rw [hops]; rfl) (by simp)
    have l05 : ∀ j, j < 6 → L.getD j false = true := fun j hj => by
      rcases (show j = 0 ∨ j = 1 ∨ j = 2 ∨ j = 3 ∨ j = 4 ∨ j = 5 by omega) with rfl | rfl | rfl | rfl | rfl | rfl <;> assumption
    have l6 := hready 6 _ (by omega) (by rw [hops]; rfl) (fun e he _ => l05 _ (h6' e he))
    have l7 := hready 7 _ (by omega) (by rw [hops]; rfl) (fun e he _ => by
      have := h7' e he
      by_cases e6 : e.on = 6
      · rw [e6]; exact l6
      · exact l05 _ (by omega))
    rcases h with h | ⟨_, h, _⟩ | ⟨_, g, g', rfl, hgg, hg, hg', hbg, hbg'⟩
    · rw [l6] at h; cases h.1
    · rw [l7] at h; cases h
    · exact hQ' g g' w1 hb hgg hg hg' hbg hbg'
end Go.Proofs.Ytfnmmnbndfdpiaa

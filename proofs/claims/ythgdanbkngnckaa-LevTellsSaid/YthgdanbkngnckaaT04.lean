/-
  Boxes, rows of cells, and what a statement or an iterator turns beside them; an append that is known, taken in any order. A range over an iterator that makes memory and turns none: each state has a footprint, the blocks that it stands in; a round turns blocks of the footprint alone. What is handed to the body is told by a relation.
-/
import Derived.Test.YthgdanbkngnckaaT03
import Derived.RangeFuncNested
import Derived.RangeFuncBound
import Derived.RangeFuncLeaves
import Derived.RangeFuncBox
import Derived.RangeFuncRecord
import Derived.Shelf.Abstract
import Derived.Shelf.RegionOpen
import Derived.OwnWalkIn
import Derived.TacticsInMore
import Derived.LoopNIn
import Derived.LoopIn
import Derived.Maps.AppendAt
set_option linter.unusedVariables false
set_option linter.unusedSimpArgs false
namespace Go.Proofs.Ythgdanbkngnckaa
open Go.RowKit Go.Shelf

theorem cells_setCell {w : World} {b : Nat} {cs : Array Value} {T : TypeId} (h : w.heap[b]? = some (.cells cs T (0, 0))) (i : Nat) (v : Value) : (w.setCell ⟨b, i, none⟩ v).heap[b]? = some (.cells (cs.setIfInBounds i v) T (0, 0)) := by
  obtain ⟨hlt, hk⟩ := Array.getElem?_eq_some_iff.1 h
  show (w.heap.modify b _)[b]? = _
  rw [Array.getElem?_eq_getElem (by rw [Array.size_modify]; exact hlt), Array.getElem_modify_self, hk]
  rfl

theorem grown_setCell (W : World) (b i : Nat) (v : Value) : W.grownBy (W.setCell ⟨b, i, none⟩ v) (some b) :=
  ⟨rfl, rfl, rfl, by simp, fun k _ hk => Below.heap_setCell W ⟨b, i, none⟩ v k (fun e => hk (by rw [e]))⟩

/-- The block that is turned holds no cells of type t. -/
def OffT (W : World) (row : Option Nat) (t : TypeId) : Prop := ∀ r cs fz, row = some r → W.heap[r]? ≠ some (.cells cs t fz)

theorem off_cells {W : World} {row : Option Nat} {B : Nat} {T t : TypeId} (h : ∀ r, row = some r → B ≤ r ∧ ∃ cs fz, W.heap[r]? = some (.cells cs T fz)) (hne : T ≠ t) : OffT W row t := fun r cs fz e hr => by
  obtain ⟨_, cs', fz', hc⟩ := h r e
  rw [hc] at hr
  cases hr
  exact hne rfl
theorem off_own {W : World} {row : Option Nat} {B : Nat} {t : TypeId} (h : ∀ r, row = some r → B ≤ r ∧ ∃ o : Obj, W.heap[r]? = some o ∧ o.isCells = false) : OffT W row t := fun r cs fz e hr => by
  obtain ⟨_, o, hc, ho⟩ := h r e
  rw [hc] at hr
  cases hr
  cases ho
theorem boxed_off {W W' : World} {row : Option Nat} {b : Nat} {t : TypeId} {v : Value} (h : Boxed W b t v) (hg : W.grownBy W' row) (ho : OffT W row t) : Boxed W' b t v :=
  h.kept hg (fun e => ho b _ _ e.symm h)
theorem owns_off {W W' : World} {row : Option Nat} {base size k : Nat} {e : TypeId} {v : Value} {xs : List Value} (h : W.ownsRow base e size v k xs) (hg : W.grownBy W' row) (ho : OffT W row e) : W'.ownsRow base e size v k xs := by
  refine h.kept hg ?_
  rcases h.2 with ⟨rfl, _⟩ | ⟨g, cap, cur, rfl, _, hgg, _⟩
  · exact .inl rfl
  · exact .inr (fun e => ho g _ _ e.symm hgg)

theorem boxed_drew {W : World} {b : Nat} {t : TypeId} {v : Value} (h : Boxed W b t v) : Boxed W.drew b t v := h

theorem boxed_below {W W' : World} {b : Nat} {t : TypeId} {v : Value} (h : Boxed W b t v) (hb : Below W.heap.size W W') : Boxed W' b t v := (hb.block b h.lt).trans h
theorem off_box {W : World} {b : Nat} {t T : TypeId} {v : Value} (h : Boxed W b t v) (hne : t ≠ T) : OffT W (some b) T := fun r cs fz e hr => by
  cases e
  rw [show W.heap[b]? = _ from h] at hr
  cases hr
  exact hne rfl
theorem keepsCells_grown {W W' : World} {row : Option Nat} {T : TypeId} (hg : W.grownBy W' row) (ho : OffT W row T) : KeepsCells T W W' := fun r cs fz h =>
  (hg.block r (Array.getElem?_eq_some_iff.1 h).1 (fun e => ho r cs fz e.symm h)).trans h

theorem step_append_known {F : Fence} {n : Nat} {P : Program} {ops : Array Oper} {o : Oper} {a : Act} {w : World} {K : Act → World → Prop} {Q : Exit → Act → World → Prop} {E : Prop}
    (hg : o.guard = none) (s x : Operand) (t : TypeId) (hop : o.op = Op.call { callee := Callee.builtin Builtin.append, args := #[s, x], argTypes := #[t, t] }) (v sl v' : Value) (w1 : World)
    (hs : a.eval s = v) (hx : a.eval x = sl) (hrun : (Builtin.append_ #[t, t] o.type #[v, sl]).run P w = .ok v' w1) (hF : ∀ f, o.about P w a.eval = some f → F.fn f) (hK : K (a.put o.dst v') w1) :
    if Region.wanted o (yielded ops a.tmps) = true then Oper.wpIn F n P o a w K Q else E := by
  have hw : Region.wanted o (yielded ops a.tmps) = true := by simp [Region.wanted, hg]
  rw [if_pos hw]
  refine ⟨hF, ?_⟩
  rw [Oper.semAt_eq _ _ _ (fun c h => by rw [hop] at h; cases h)]
  unfold execOp
  simp only [hop, resolve, invoke, builtin, Sem.run_bind, Sem.run_pure, Result.andThen_ok, List.map_toArray, List.map_cons, List.map_nil, hs, hx, hrun]
  exact hK

theorem owns_cells {W : World} {base : Nat} {e : TypeId} {size k : Nat} {v : Value} {xs : List Value} (h : W.ownsRow base e size v k xs) : ∀ r, v.ownBlock = some r → base ≤ r ∧ ∃ cs fz, W.heap[r]? = some (.cells cs e fz) := by
  intro r hr
  rcases h.2 with ⟨rfl, _⟩ | ⟨g, cap, cur, rfl, hb, hgg, _⟩
  · simp [Value.ownBlock] at hr
  · simp [Value.ownBlock] at hr
    subst hr
    exact ⟨hb, cur, _, hgg⟩

end Go.Proofs.Ythgdanbkngnckaa
namespace Go.Proofs.Ythgdanbkngnckaa
open Go.RowKit

/-- What holds in a world goes on to hold where blocks at or beyond B turn that are none of X. -/
def Bides (B : Nat) (X : Nat → Prop) (I : World → Prop) : Prop := ∀ W W' row, I W → W.grownBy W' row → (∀ r, row = some r → B ≤ r ∧ ¬ X r) → I W'

/-- Cells that are none of X lie as they lay. -/
def KeepsX (X : Nat → Prop) (W W' : World) : Prop := ∀ (r : Nat) cs T fz, W.heap[r]? = some (.cells cs T fz) → ¬ X r → W'.heap[r]? = some (.cells cs T fz)
theorem KeepsX.trans {X : Nat → Prop} {A B C : World} (h : KeepsX X A B) (k : KeepsX X B C) : KeepsX X A C := fun r cs T fz hr hx => k r cs T fz (h r cs T fz hr hx) hx
theorem KeepsX.putObj {X : Nat → Prop} {W : World} {l : Nat} {o : Obj} (o' : Obj) (hl : W.heap[l]? = some o) (ho : o.isCells = false) : KeepsX X W (W.putObj l o') := fun r cs T fz hr _ => by
  refine (World.putObj_heap_other (fun e => ?_)).trans hr
  rw [e, hl] at hr
  cases hr
  cases ho

/-- How a round's body may be left. -/
def roundFoot {σ : Type} (B : Nat) (foot : σ → Nat → Prop) (nx : σ → σ → Prop) (I : σ → World → Prop) (Ix : Code → World → Prop) (s : σ) (W : World) : Exit → Act → World → Prop
  | .normal, _, W' => (W'.heap[B]? = W.heap[B]? ∧ W'.heap[B + 1]? = W.heap[B + 1]?) ∧ W.heap.size ≤ W'.heap.size ∧ KeepsX (foot s) W W' ∧ ∃ s', nx s s' ∧ (∀ g, foot s' g → foot s g ∨ W.heap.size ≤ g) ∧ I s' W'
  | .ret, _, W' => (W'.heap[B]? = W.heap[B]? ∧ W'.heap[B + 1]? = W.heap[B + 1]?) ∧ Ix .ret W'
  | .exit id, _, W' => (W'.heap[B]? = W.heap[B]? ∧ W'.heap[B + 1]? = W.heap[B + 1]?) ∧ Ix (.exit id) W'
  | .goto t, _, W' => (W'.heap[B]? = W.heap[B]? ∧ W'.heap[B + 1]? = W.heap[B + 1]?) ∧ Ix (.goto t) W'
  | .panic _, _, _ => False
  | .outgrown, _, _ => False

/-- The contract of such an iterator's value. -/
def IterFoot {σ : Type} (n : Nat) (P : Program) (gf : Nat) (lb : Array Value) (Rd : σ → Array Value → World → Prop) (foot : σ → Nat → Prop) (nx : σ → σ → Prop) (fin : σ → Prop) (s0 : σ) (more : (σ → World → Prop) → Prop) (w : World) : Prop :=
  ∀ (l : Nat) (J : σ → World → Prop) (Jx : World → Prop) (W : World), Below w.heap.size w W → (∀ s, Bides W.heap.size (foot s) (J s)) → more J → (∀ g, foot s0 g → g < W.heap.size) →
    (∀ s args W1, ¬ fin s → Rd s args W1 → J s W1 → YieldAt Fence.wide (n - 1) P l args W1 fun e W' => (e = .returned (.bool true) ∧ (∃ s', nx s s' ∧ (∀ g, foot s' g → foot s g ∨ W1.heap.size ≤ g) ∧ J s' W') ∧ W1.heap.size ≤ W'.heap.size ∧ KeepsX (foot s) W1 W') ∨ (e = .returned (.bool false) ∧ Jx W')) →
    J s0 W → CallsIn Fence.wide n P gf (#[.func (.yield l) #[] #[]] ++ lb) W fun e W' => (∃ v, e = .returned v) ∧ ((∃ s, fin s ∧ J s W') ∨ Jx W')

theorem wpIn_range_foot {σ : Type} {n : Nat} {P : Program} {g : Operand} {ps : Array Tmp} {assign body : Code} {Q : Exit → Act → World → Prop} {a : Act} {w : World}
    (h1 : 1 ≤ n) {gf : Nat} {lb : Array Value} (hg : a.eval g = .func (.func gf) #[] lb) (eg : ∀ args w, (callFunc gf args).run P w = .ok (.enter gf args) w)
    {Rd : σ → Array Value → World → Prop} {foot : σ → Nat → Prop} {nx : σ → σ → Prop} {fin : σ → Prop} {s0 : σ} {more : (σ → World → Prop) → Prop}
    (hit : IterFoot (n - 1) P gf lb Rd foot nx fin s0 more w) (hps : ∀ s args W, Rd s args W → args.size = ps.size)
    (I : σ → World → Prop) (Ix : Code → World → Prop) (Ax : σ → Act → World → Prop)
    (hI : ∀ s, Bides w.heap.size (foot s) (I s)) (hIx : ∀ c, ∀ W W', Ix c W → W.grownBy W' (some (w.heap.size + 1)) → Ix c W') (hAx : ∀ s a' W (r : Nat) (o o' : Obj), W.heap[r]? = some o → o.isCells = false → Ax s a' W → Ax s a' (W.putObj r o'))
    (hmore : ∀ R : σ → World → Prop, more fun s W => I s W ∧ R s W) (hf0 : ∀ g, foot s0 g → g < w.heap.size) (h0 : I s0 w)
    (hassign : ∀ l s args W, I s W → Rd s args W → assign.wpIn (Fence.wide.inRound l) (n - 1 - 1) P (Exit.then (fun a' W' => W.grownBy W' none ∧ Ax s a' W') (fun _ _ _ => False))
      { tmps := (ps.zip args).foldl (fun t (p, v) => t.setIfInBounds p v) a.tmps, defers := [] } W)
    (hbody : ∀ l s a' W, ¬ fin s → (∀ g, foot s g → g < w.heap.size ∨ w.heap.size + 2 ≤ g) → w.heap.size + 2 ≤ W.heap.size → I s W → Ax s a' W → body.wpIn (Fence.wide.inRound l) (n - 1 - 1) P (roundFoot w.heap.size foot nx I Ix s W) a' W)
    (hdone : ∀ D s W, w.heap.size ≤ D → fin s → I s W → W.heap[D]? = some (.deferred (some [])) → ¬ foot s D → Q .normal { a with defers := { target := .collected D, args := #[] } :: a.defers } W)
    (hstop : ∀ D c W, w.heap.size ≤ D → Ix c W → W.heap[D]? = some (.deferred (some [])) → c.wpIn Fence.wide n P Q { a with defers := { target := .collected D, args := #[] } :: a.defers } W) :
    (Code.rangeFunc g ps assign body).wpIn Fence.wide n P Q a w := by
  refine wpIn_rangeFunc fun fn _ => ?_
  rw [show Fence.wide.round = none from rfl]
  obtain ⟨rec, hrec⟩ : ∃ rec : LoopState → Option Code → Loop, rec = fun st pe => { state := st, pending := pe, fn, tmps := a.tmps, params := ps, assign, body, defers := w.heap.size } := ⟨_, rfl⟩
  obtain ⟨W1, hW1⟩ : ∃ W1, (w.alloc (.deferred (some []))).alloc (.loop (rec .ready none)) = W1 := ⟨_, rfl⟩
  have hL1 : W1.heap[w.heap.size + 1]? = some (.loop (rec .ready none)) := by
    rw [← hW1]; have := World.alloc_heap_new (w.alloc (.deferred (some []))) (.loop (rec .ready none)); rwa [World.size_alloc] at this
  have hK1 : W1.heap[w.heap.size]? = some (.deferred (some [])) := by
    rw [← hW1]; exact (Below.heap_alloc _ _ _ (by simp)).trans (World.alloc_heap_new w _)
  have hI1 : I s0 W1 := by
    rw [← hW1]
    exact hI _ _ _ none (hI _ _ _ none h0 (World.grownBy_alloc w _ none) (fun r e => by cases e)) (World.grownBy_alloc _ _ none) (fun r e => by cases e)
  have hb1 : Below w.heap.size w W1 := by
    rw [← hW1]; exact ((Below.refl _ w).alloc (Nat.le_refl _) _).alloc (by simp) _
  have hsz1 : w.heap.size + 2 ≤ W1.heap.size := by rw [← hW1]; simp
  refine ⟨w.heap.size + 1, [{ target := .collected w.heap.size, args := #[] }], W1, { target := .fn (.func gf) lb, args := #[.func (.yield (w.heap.size + 1)) #[] #[]] }, W1, gf,
    #[.func (.yield (w.heap.size + 1)) #[] #[]] ++ lb, W1, ?_, ?_, fun _ _ => trivial, ?_, fun _ => h1, ?_⟩
  · rw [← hW1, hrec]; exact run_enterLoop_outer _ _ _ _ _
  · simp only [resolve, hg]
    simp [go_sem]
  · simp [invoke, go_sem, eg]
  · have ne : ∀ {A B : World} {row : Option Nat}, A.grownBy B row → (∀ r, row = some r → W1.heap.size ≤ r) → ∀ (k : Nat) (o : Obj), k < W1.heap.size → A.heap[k]? = some o → B.heap[k]? = some o := by
      intro A B row hgr hr k o hk2 hk
      refine (hgr.block k (Array.getElem?_eq_some_iff.1 hk).1 (fun e => ?_)).trans hk
      have := hr k e.symm
      omega
    refine (hit (w.heap.size + 1)
      (fun s W => I s W ∧ ((W.heap[w.heap.size + 1]? = some (.loop (rec .ready none)) ∧ W.heap[w.heap.size]? = some (.deferred (some []))) ∧ (∀ g, foot s g → g < w.heap.size ∨ w.heap.size + 2 ≤ g)))
      (fun W => ∃ c, Ix c W ∧ W.heap[w.heap.size + 1]? = some (.loop (rec .done (some c))) ∧ W.heap[w.heap.size]? = some (.deferred (some [])))
      W1 hb1
      (fun s A B row hs hgr hr => ⟨hI s A B row hs.1 hgr (fun r e => ⟨by have := (hr r e).1; omega, (hr r e).2⟩), ⟨ne hgr (fun r e => (hr r e).1) _ _ (by omega) hs.2.1.1, ne hgr (fun r e => (hr r e).1) _ _ (by omega) hs.2.1.2⟩, hs.2.2⟩)
      ?_ (fun g hg => by have := hf0 g hg; omega) ?_ ⟨hI1, ⟨hL1, hK1⟩, fun g hg => .inl (hf0 g hg)⟩).mono ?_
    · exact hmore (fun s W => (W.heap[w.heap.size + 1]? = some (.loop (rec .ready none)) ∧ W.heap[w.heap.size]? = some (.deferred (some []))) ∧ (∀ g, foot s g → g < w.heap.size ∨ w.heap.size + 2 ≤ g))
    · -- one round
      rintro s args W hnf hrd ⟨hi, ⟨hl, hk⟩, hft⟩
      have hy := run_yield (P := P) (args := args) hl (by rw [hrec]; exact hps s args W hrd)
      rw [hrec] at hy
      refine ⟨fn, _, assign, body, hy, roundIn_of_wpIn trivial (wpIn_mono (hassign _ s args W hi hrd) ?_)⟩
      clear hy
      rintro e a' Wa hp
      cases e with
      | normal =>
        obtain ⟨hga, hax⟩ := hp
        have hia : I s Wa := hI s _ _ none hi hga (fun r e => by cases e)
        have hl2 := (hga.block _ (Array.getElem?_eq_some_iff.1 hl).1 (by simp)).trans hl
        have hk2 := (hga.block _ (Array.getElem?_eq_some_iff.1 hk).1 (by simp)).trans hk
        have hca : KeepsX (foot s) W Wa := fun r cs T fz hr _ => (hga.block r (Array.getElem?_eq_some_iff.1 hr).1 (by simp)).trans hr
        refine ⟨_, run_beginRound hl2 (by rw [hrec]), ?_⟩
        obtain ⟨Wb, hWb⟩ : ∃ Wb, Wb = Wa.putObj (w.heap.size + 1) (.loop { rec .ready none with state := .busy }) := ⟨_, rfl⟩
        have hl3 : Wb.heap[w.heap.size + 1]? = some (.loop { rec .ready none with state := .busy }) := by rw [hWb]; exact World.putObj_heap_same (Array.getElem?_eq_some_iff.1 hl2).1
        have hk3 : Wb.heap[w.heap.size]? = some (.deferred (some [])) := by rw [hWb]; exact (World.putObj_heap_other (by omega)).trans hk2
        have hc3 : KeepsX (foot s) Wa Wb := hWb ▸ KeepsX.putObj _ hl2 rfl
        have hz3 : Wb.heap.size = Wa.heap.size := by rw [hWb]; simp [World.putObj]
        have nof : ∀ r, some (w.heap.size + 1) = some r → w.heap.size ≤ r ∧ ¬ foot s r := fun r e => by
          cases e
          exact ⟨by omega, fun h => by have := hft _ h; omega⟩
        have hi3 : I s Wb := hWb ▸ hI s _ _ _ hia (grownBy_putObj' Wa _ _) nof
        have hx3 : Ax s a' Wb := hWb ▸ hAx s a' _ _ _ _ hl2 rfl hax
        show body.wpIn _ _ _ _ a' (Wa.putObj (w.heap.size + 1) (.loop { rec .ready none with state := .busy }))
        rw [← hWb]
        refine wpIn_mono (hbody _ s a' Wb hnf hft (by rw [hz3]; exact (Array.getElem?_eq_some_iff.1 hl2).1) hi3 hx3) ?_
        have fin' : ∀ (jump : Option Code) (W3 : World), (W3.heap[w.heap.size]? = Wb.heap[w.heap.size]? ∧ W3.heap[w.heap.size + 1]? = Wb.heap[w.heap.size + 1]?) →
            (Instr.endRound (w.heap.size + 1) jump).run P W3 = .ok (.bool jump.isNone) (W3.putObj (w.heap.size + 1) (.loop (rec (if jump.isNone then .ready else .done) jump))) ∧
            W3.heap[w.heap.size + 1]? = some (.loop { rec .ready none with state := .busy }) ∧
            (W3.putObj (w.heap.size + 1) (.loop (rec (if jump.isNone then .ready else .done) jump))).heap[w.heap.size + 1]? = some (.loop (rec (if jump.isNone then .ready else .done) jump)) ∧
            (W3.putObj (w.heap.size + 1) (.loop (rec (if jump.isNone then .ready else .done) jump))).heap[w.heap.size]? = some (.deferred (some [])) := fun jump W3 hkf => by
          have hl4 := hkf.2.trans hl3
          have := run_endRound (P := P) jump hl4
          rw [hrec] at this ⊢
          exact ⟨this, by rw [hrec] at hl4; exact hl4, World.putObj_heap_same (Array.getElem?_eq_some_iff.1 hl4).1, (World.putObj_heap_other (by omega)).trans (hkf.1.trans hk3)⟩
        rintro e a3 W3 hp
        cases e with
        | normal =>
          obtain ⟨hkf, hsz3, hkc, s', hnx, hgf, hi4⟩ := hp
          obtain ⟨hr, hl4, hl5, hk5⟩ := fin' none W3 hkf
          have hzz : W.heap.size ≤ Wb.heap.size := by rw [hz3]; exact hga.size
          have hw2 : w.heap.size + 2 ≤ W.heap.size := by have := (Array.getElem?_eq_some_iff.1 hl).1; omega
          have hgf' : ∀ g, foot s' g → foot s g ∨ W.heap.size ≤ g := fun g hg => (hgf g hg).imp id (fun h => by omega)
          have hft' : ∀ g, foot s' g → g < w.heap.size ∨ w.heap.size + 2 ≤ g := fun g hg => by
            rcases hgf' g hg with h | h
            · exact hft g h
            · omega
          refine ⟨_, _, hr, .inl ⟨rfl, ⟨s', hnx, hgf', hI _ _ _ _ hi4 (grownBy_putObj' W3 _ _) (fun r e => by cases e; exact ⟨by omega, fun h => by have := hft' _ h; omega⟩), ⟨hl5, hk5⟩, hft'⟩, ?_, ((hca.trans hc3).trans hkc).trans (KeepsX.putObj _ hl4 rfl)⟩⟩
          have : (W3.putObj (w.heap.size + 1) (.loop (rec (if (none : Option Code).isNone then .ready else .done) none))).heap.size = W3.heap.size := by simp [World.putObj]
          omega
        | ret =>
          obtain ⟨hkf, hi4⟩ := hp
          obtain ⟨hr, hl4, hl5, hk5⟩ := fin' (some .ret) W3 hkf
          exact ⟨_, _, hr, .inr ⟨rfl, .ret, hIx _ _ _ hi4 (grownBy_putObj' W3 _ _), hl5, hk5⟩⟩
        | exit id =>
          obtain ⟨hkf, hi4⟩ := hp
          obtain ⟨hr, hl4, hl5, hk5⟩ := fin' (some (.exit id)) W3 hkf
          exact ⟨_, _, hr, .inr ⟨rfl, .exit id, hIx _ _ _ hi4 (grownBy_putObj' W3 _ _), hl5, hk5⟩⟩
        | goto t =>
          obtain ⟨hkf, hi4⟩ := hp
          obtain ⟨hr, hl4, hl5, hk5⟩ := fin' (some (.goto t)) W3 hkf
          exact ⟨_, _, hr, .inr ⟨rfl, .goto t, hIx _ _ _ hi4 (grownBy_putObj' W3 _ _), hl5, hk5⟩⟩
        | panic ch => exact hp.elim
        | outgrown => exact hp.elim
      | exit id => exact hp.elim
      | goto t => exact hp.elim
      | ret => exact hp.elim
      | panic chain => exact hp.elim
      | outgrown => exact hp.elim
    · -- behind the iterator
      rintro e W2 ⟨⟨v, rfl⟩, (⟨s, hf, hi, ⟨hl, hk⟩, hft⟩ | ⟨c, hi, hl, hk⟩)⟩
      · refine ⟨none, _, by have := run_endLoop (P := P) hl (by rw [hrec]; simp); rw [hrec] at this; exact this, hdone _ s _ (Nat.le_refl _) hf (hI s _ _ _ hi (grownBy_putObj' W2 _ _) (fun r e => by cases e; exact ⟨by omega, fun h => by have := hft _ h; omega⟩)) ((World.putObj_heap_other (by omega)).trans hk) (fun h => by have := hft _ h; omega)⟩
      · exact ⟨some c, _, by have := run_endLoop (P := P) hl (by rw [hrec]; simp); rw [hrec] at this; exact this, hstop _ c _ (Nat.le_refl _) (hIx c _ _ hi (grownBy_putObj' W2 _ _)) ((World.putObj_heap_other (by omega)).trans hk)⟩
end Go.Proofs.Ythgdanbkngnckaa

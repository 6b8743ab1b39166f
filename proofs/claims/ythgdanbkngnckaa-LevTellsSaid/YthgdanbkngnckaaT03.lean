/-
  A region that draws its order, in a round of a loop over a function: it is walked as outside of one.
-/
import Derived.Test.YthgdanbkngnckaaProg
import Derived.RangeFuncNested
import Derived.RangeFuncLeaves
import Derived.OrdersIn
set_option linter.unusedVariables false
set_option linter.unusedSimpArgs false
namespace Go.Proofs.Ythgdanbkngnckaa
open Go.RowKit

/-- Operations that defer nothing do in a round what they do outside of one. -/
theorem wpAnyIn_round {F : Fence} {n : Nat} {P : Program} {md : Region.Mode} {ops : Array Oper} {Q : Exit → Act → World → Prop} (l : Nat) (hd : (ops.all fun o => match o.op with | .defer _ => false | _ => true) = true) :
    ∀ (fuel : Nat) (listed : Array Bool) (a : Act) (w : World), wpAnyIn F n P md ops Q fuel listed a w → wpAnyIn (F.inRound l) n P md ops Q fuel listed a w := by
  intro fuel
  induction fuel with
  | zero => exact fun _ _ _ h => h
  | succ fuel ih =>
    intro listed a w h
    refine ⟨h.1, fun i hi => ?_⟩
    have h2 := h.2 i hi
    unfold wpOpIn at h2 ⊢
    cases ho : ops[i]? with
    | none => rw [ho] at h2; exact ih _ _ _ h2
    | some o =>
      rw [ho] at h2
      have hnd : ∀ c, o.op ≠ .defer c := fun c hc => by
        have hm : o ∈ ops := Array.mem_of_getElem? ho
        have := (Array.all_eq_true_iff_forall_mem.1 hd) o hm
        rw [hc] at this
        cases this
      by_cases hw : Region.wanted o (yielded ops a.tmps) = true
      · simp only [hw, if_true] at h2 ⊢
        refine Oper.wpIn_mono (F := F.inRound l) (fun a w hk => ih _ a w hk) ?_
        unfold Oper.wpIn at h2 ⊢
        refine ⟨h2.1, ?_⟩
        have e1 : o.semAt (F.inRound l).round a.eval = execOp a.eval o := Oper.semAt_eq _ _ _ hnd
        have e2 : o.semAt F.round a.eval = execOp a.eval o := Oper.semAt_eq _ _ _ hnd
        rw [e1]
        rw [e2] at h2
        exact h2.2
      · simp only [hw, if_false, Bool.false_eq_true] at h2 ⊢
        exact ⟨h2.1, ih _ _ _ h2.2⟩

theorem region_inRound {F : Fence} {n l id : Nat} {P : Program} {ops : Array Oper} {Q : Exit → Act → World → Prop} {a : Act} {w : World} (hm : P.follows .mixedOrders = true)
    (hd : (ops.all fun o => match o.op with | .defer _ => false | _ => true) = true)
    (h : wpAnyIn F n P .any ops Q ops.size (Array.replicate ops.size false) a w.drew) : (Code.region id ops true).wpIn (F.inRound l) n P Q a w :=
  wpIn_region_any hm (wpAnyIn_round l hd _ _ _ _ h)

theorem any_step {F : Fence} {n : Nat} {P : Program} {md : Region.Mode} {ops : Array Oper} {Q : Exit → Act → World → Prop} {fuel : Nat} {listed : Array Bool} {a : Act} {w : World} (hne : (Region.ready md ops listed).isEmpty = false)
    (h : AllReadyIn F n P md ops Q fuel listed a w (Region.ready md ops listed)) : wpAnyIn F n P md ops Q (fuel + 1) listed a w :=
  wpAnyIn_ready rfl (fun e => by rw [e] at hne; cases hne) h

/-! ### A loop over an iterator that keeps state in cells of its own, all of one type T -/

/-- What such an iterator may do to the world: make new blocks, and turn one block of cells of type T that lies at or beyond B. -/
def BidesCells (B : Nat) (T : TypeId) (I : World → Prop) : Prop :=
  ∀ W W' row, I W → W.grownBy W' row → (∀ r, row = some r → B ≤ r ∧ ∃ cs fz, W.heap[r]? = some (.cells cs T fz)) → I W'

/-- What the statement itself does: it makes new blocks, and turns blocks of its own that are no cells. -/
def BidesOwn (B : Nat) (I : World → Prop) : Prop :=
  ∀ W W' row, I W → W.grownBy W' row → (∀ r, row = some r → B ≤ r ∧ ∃ o : Obj, W.heap[r]? = some o ∧ o.isCells = false) → I W'

/-- What a round owes such an iterator: every block of cells of type T lies as it lay. -/
def KeepsCells (T : TypeId) (W W' : World) : Prop := ∀ (r : Nat) cs fz, W.heap[r]? = some (.cells cs T fz) → W'.heap[r]? = some (.cells cs T fz)

theorem KeepsCells.trans {T : TypeId} {A B C : World} (h : KeepsCells T A B) (k : KeepsCells T B C) : KeepsCells T A C := fun r cs fz hr => k r cs fz (h r cs fz hr)

theorem KeepsCells.putObj {T : TypeId} {W : World} {l : Nat} {o : Obj} (o' : Obj) (hl : W.heap[l]? = some o) (ho : o.isCells = false) : KeepsCells T W (W.putObj l o') := fun r cs fz hr => by
  refine (World.putObj_heap_other (fun e => ?_)).trans hr
  rw [e, hl] at hr
  cases hr
  cases ho

theorem BidesOwn.putObj {B : Nat} {I : World → Prop} (h : BidesOwn B I) {W : World} {l : Nat} {o : Obj} (o' : Obj) (hI : I W) (hB : B ≤ l) (hl : W.heap[l]? = some o) (ho : o.isCells = false) : I (W.putObj l o') :=
  h W _ (some l) hI (grownBy_putObj' W l o') (fun r e => by cases e; exact ⟨hB, o, hl, ho⟩)

theorem BidesOwn.alloc {B : Nat} {I : World → Prop} (h : BidesOwn B I) {W : World} (o : Obj) (hI : I W) : I (W.alloc o) :=
  h W _ none hI (World.grownBy_alloc W o none) (fun r e => by cases e)

/-- How a round's body may be left. -/
def roundLeft {σ : Type} (B : Nat) (T : TypeId) (nx : σ → σ → Prop) (I : σ → World → Prop) (Ix : Code → World → Prop) (s : σ) (W : World) : Exit → Act → World → Prop
  | .normal, _, W' => KeepsFrom B W W' ∧ KeepsCells T W W' ∧ ∃ s', nx s s' ∧ I s' W'
  | .ret, _, W' => KeepsFrom B W W' ∧ Ix .ret W'
  | .exit id, _, W' => KeepsFrom B W W' ∧ Ix (.exit id) W'
  | .goto t, _, W' => KeepsFrom B W W' ∧ Ix (.goto t) W'
  | .panic _, _, _ => False
  | .outgrown, _, _ => False

/-- The contract of an iterator value that keeps state in cells of type T: what is handed to the body in state s is enc s; a round that goes on leads to a next state; it ends where a state is final, or where a round has said no more. -/
def IterCells {σ : Type} (n : Nat) (P : Program) (gf : Nat) (lb : Array Value) (T : TypeId) (enc : σ → Array Value) (nx : σ → σ → Prop) (fin : σ → Prop) (s0 : σ) (more : (σ → World → Prop) → Prop) (w : World) : Prop :=
  ∀ (l : Nat) (J : σ → World → Prop) (Jx : World → Prop) (W : World), Below w.heap.size w W → (∀ s, BidesCells W.heap.size T (J s)) → more J →
    (∀ s W1, J s W1 → YieldAt Fence.wide (n - 1) P l (enc s) W1 fun e W' => (e = .returned (.bool true) ∧ (∃ s', nx s s' ∧ J s' W') ∧ KeepsCells T W1 W') ∨ (e = .returned (.bool false) ∧ Jx W')) →
    J s0 W → CallsIn Fence.wide n P gf (#[.func (.yield l) #[] #[]] ++ lb) W fun e W' => (∃ v, e = .returned v) ∧ ((∃ s, fin s ∧ J s W') ∨ Jx W')

theorem wpIn_range_cells {σ : Type} {n : Nat} {P : Program} {g : Operand} {ps : Array Tmp} {assign body : Code} {Q : Exit → Act → World → Prop} {a : Act} {w : World}
    (h1 : 1 ≤ n) {gf : Nat} {lb : Array Value} (hg : a.eval g = .func (.func gf) #[] lb) (eg : ∀ args w, (callFunc gf args).run P w = .ok (.enter gf args) w)
    {T : TypeId} {enc : σ → Array Value} {nx : σ → σ → Prop} {fin : σ → Prop} {s0 : σ} {more : (σ → World → Prop) → Prop}
    (hit : IterCells (n - 1) P gf lb T enc nx fin s0 more w) (hps : ∀ s, (enc s).size = ps.size)
    (I : σ → World → Prop) (Ix : Code → World → Prop) (Ax : σ → Act → World → Prop)
    (hI : ∀ s, BidesOwn w.heap.size (I s)) (hIc : ∀ s, BidesCells w.heap.size T (I s)) (hIx : ∀ c, BidesOwn w.heap.size (Ix c)) (hAx : ∀ s a', BidesOwn w.heap.size (Ax s a'))
    (hmore : ∀ R : World → Prop, more fun s W => I s W ∧ R W) (h0 : I s0 w)
    (hassign : ∀ l s W, I s W → assign.wpIn (Fence.wide.inRound l) (n - 1 - 1) P (Exit.then (fun a' W' => KeepsFrom w.heap.size W W' ∧ KeepsCells T W W' ∧ I s W' ∧ Ax s a' W') (fun _ _ _ => False))
      { tmps := (ps.zip (enc s)).foldl (fun t (p, v) => t.setIfInBounds p v) a.tmps, defers := [] } W)
    (hbody : ∀ l s a' W, I s W → Ax s a' W → body.wpIn (Fence.wide.inRound l) (n - 1 - 1) P (roundLeft w.heap.size T nx I Ix s W) a' W)
    (hdone : ∀ D s W, w.heap.size ≤ D → fin s → I s W → W.heap[D]? = some (.deferred (some [])) → Q .normal { a with defers := { target := .collected D, args := #[] } :: a.defers } W)
    (hstop : ∀ D c W, w.heap.size ≤ D → Ix c W → W.heap[D]? = some (.deferred (some [])) → c.wpIn Fence.wide n P Q { a with defers := { target := .collected D, args := #[] } :: a.defers } W) :
    (Code.rangeFunc g ps assign body).wpIn Fence.wide n P Q a w := by
  refine wpIn_rangeFunc fun fn _ => ?_
  rw [show Fence.wide.round = none from rfl]
  obtain ⟨rec, hrec⟩ : ∃ rec : LoopState → Option Code → Loop, rec = fun st pe => { state := st, pending := pe, fn, tmps := a.tmps, params := ps, assign, body, defers := w.heap.size } := ⟨_, rfl⟩
  obtain ⟨W1, hW1⟩ : ∃ W1, (w.alloc (.deferred (some []))).alloc (.loop (rec .ready none)) = W1 := ⟨_, rfl⟩
  have hL1 : W1.heap[w.heap.size + 1]? = some (.loop (rec .ready none)) := by
    rw [← hW1]; have := World.alloc_heap_new (w.alloc (.deferred (some []))) (.loop (rec .ready none)); rwa [World.size_alloc] at this
  have hK1 : W1.heap[w.heap.size]? = some (.deferred (some [])) := by
    rw [← hW1]; exact (Below.heap_alloc _ _ _ (by simp)).trans (World.alloc_heap_new w _)
  have hI1 : I s0 W1 := by rw [← hW1]; exact (hI _).alloc _ ((hI _).alloc _ h0)
  have hb1 : Below w.heap.size w W1 := by
    rw [← hW1]; exact ((Below.refl _ w).alloc (Nat.le_refl _) _).alloc (by simp) _
  have hsz1 := hb1.size
  refine ⟨w.heap.size + 1, [{ target := .collected w.heap.size, args := #[] }], W1, { target := .fn (.func gf) lb, args := #[.func (.yield (w.heap.size + 1)) #[] #[]] }, W1, gf,
    #[.func (.yield (w.heap.size + 1)) #[] #[]] ++ lb, W1, ?_, ?_, fun _ _ => trivial, ?_, fun _ => h1, ?_⟩
  · rw [← hW1, hrec]; exact run_enterLoop_outer _ _ _ _ _
  · simp only [resolve, hg]
    simp [go_sem]
  · simp [invoke, go_sem, eg]
  · -- what the statement adds to the caller's own: its record, and the block for deferred calls
    have ne : ∀ {A B : World} {row : Option Nat}, A.grownBy B row → (∀ r, row = some r → W1.heap.size ≤ r ∧ ∃ cs fz, A.heap[r]? = some (.cells cs T fz)) → ∀ (k : Nat) (o : Obj), A.heap[k]? = some o → o.isCells = false → B.heap[k]? = some o := by
      intro A B row hgr hr k o hk ho
      refine (hgr.block k (Array.getElem?_eq_some_iff.1 hk).1 (fun e => ?_)).trans hk
      obtain ⟨_, cs, fz, hc⟩ := hr k e.symm
      rw [hk] at hc
      cases hc
      cases ho
    refine (hit (w.heap.size + 1)
      (fun s W => I s W ∧ (W.heap[w.heap.size + 1]? = some (.loop (rec .ready none)) ∧ W.heap[w.heap.size]? = some (.deferred (some []))))
      (fun W => ∃ c, Ix c W ∧ W.heap[w.heap.size + 1]? = some (.loop (rec .done (some c))) ∧ W.heap[w.heap.size]? = some (.deferred (some [])))
      W1 hb1
      (fun s A B row hs hgr hr => ⟨hIc s A B row hs.1 hgr (fun r e => ⟨by have := (hr r e).1; omega, (hr r e).2⟩), ne hgr hr _ _ hs.2.1 rfl, ne hgr hr _ _ hs.2.2 rfl⟩)
      (hmore _) ?_ ⟨hI1, hL1, hK1⟩).mono ?_
    · -- one round
      rintro s W ⟨hi, hl, hk⟩
      have hy := run_yield (P := P) (args := enc s) hl (by rw [hrec]; exact hps s)
      rw [hrec] at hy
      refine ⟨fn, _, assign, body, hy, roundIn_of_wpIn trivial (wpIn_mono (hassign _ s W hi) ?_)⟩
      clear hy
      rintro e a' Wa hp
      cases e with
      | normal =>
        obtain ⟨hka, hca, hia, hax⟩ := hp
        have hl2 := hka.same _ _ (by omega) hl rfl
        have hk2 := hka.same _ _ (Nat.le_refl _) hk rfl
        refine ⟨_, run_beginRound hl2 (by rw [hrec]), ?_⟩
        obtain ⟨Wb, hWb⟩ : ∃ Wb, Wb = Wa.putObj (w.heap.size + 1) (.loop { rec .ready none with state := .busy }) := ⟨_, rfl⟩
        have hl3 : Wb.heap[w.heap.size + 1]? = some (.loop { rec .ready none with state := .busy }) := by rw [hWb]; exact World.putObj_heap_same (Array.getElem?_eq_some_iff.1 hl2).1
        have hk3 : Wb.heap[w.heap.size]? = some (.deferred (some [])) := by rw [hWb]; exact (World.putObj_heap_other (by omega)).trans hk2
        have hc3 : KeepsCells T Wa Wb := hWb ▸ KeepsCells.putObj _ hl2 rfl
        have hi3 : I s Wb := hWb ▸ (hI s).putObj _ hia (by omega) hl2 rfl
        have hx3 : Ax s a' Wb := hWb ▸ (hAx s a').putObj _ hax (by omega) hl2 rfl
        show body.wpIn _ _ _ _ a' (Wa.putObj (w.heap.size + 1) (.loop { rec .ready none with state := .busy }))
        rw [← hWb]
        refine wpIn_mono (hbody _ s a' Wb hi3 hx3) ?_
        have fin : ∀ (jump : Option Code) (W3 : World), KeepsFrom w.heap.size Wb W3 →
            (Instr.endRound (w.heap.size + 1) jump).run P W3 = .ok (.bool jump.isNone) (W3.putObj (w.heap.size + 1) (.loop (rec (if jump.isNone then .ready else .done) jump))) ∧
            W3.heap[w.heap.size + 1]? = some (.loop { rec .ready none with state := .busy }) ∧
            (W3.putObj (w.heap.size + 1) (.loop (rec (if jump.isNone then .ready else .done) jump))).heap[w.heap.size + 1]? = some (.loop (rec (if jump.isNone then .ready else .done) jump)) ∧
            (W3.putObj (w.heap.size + 1) (.loop (rec (if jump.isNone then .ready else .done) jump))).heap[w.heap.size]? = some (.deferred (some [])) := fun jump W3 hkf => by
          have hl4 := hkf.same _ _ (by omega) hl3 rfl
          have := run_endRound (P := P) jump hl4
          rw [hrec] at this ⊢
          exact ⟨this, by rw [hrec] at hl4; exact hl4, World.putObj_heap_same (Array.getElem?_eq_some_iff.1 hl4).1, (World.putObj_heap_other (by omega)).trans (hkf.same _ _ (Nat.le_refl _) hk3 rfl)⟩
        rintro e a3 W3 hp
        cases e with
        | normal =>
          obtain ⟨hkf, hkc, s', hnx, hi4⟩ := hp
          obtain ⟨hr, hl4, hl5, hk5⟩ := fin none W3 hkf
          exact ⟨_, _, hr, .inl ⟨rfl, ⟨s', hnx, (hI _).putObj _ hi4 (by omega) hl4 rfl, hl5, hk5⟩, ((hca.trans hc3).trans hkc).trans (KeepsCells.putObj _ hl4 rfl)⟩⟩
        | ret =>
          obtain ⟨hkf, hi4⟩ := hp
          obtain ⟨hr, hl4, hl5, hk5⟩ := fin (some .ret) W3 hkf
          exact ⟨_, _, hr, .inr ⟨rfl, .ret, (hIx _).putObj _ hi4 (by omega) hl4 rfl, hl5, hk5⟩⟩
        | exit id =>
          obtain ⟨hkf, hi4⟩ := hp
          obtain ⟨hr, hl4, hl5, hk5⟩ := fin (some (.exit id)) W3 hkf
          exact ⟨_, _, hr, .inr ⟨rfl, .exit id, (hIx _).putObj _ hi4 (by omega) hl4 rfl, hl5, hk5⟩⟩
        | goto t =>
          obtain ⟨hkf, hi4⟩ := hp
          obtain ⟨hr, hl4, hl5, hk5⟩ := fin (some (.goto t)) W3 hkf
          exact ⟨_, _, hr, .inr ⟨rfl, .goto t, (hIx _).putObj _ hi4 (by omega) hl4 rfl, hl5, hk5⟩⟩
        | panic ch => exact hp.elim
        | outgrown => exact hp.elim
      | exit id => exact hp.elim
      | goto t => exact hp.elim
      | ret => exact hp.elim
      | panic chain => exact hp.elim
      | outgrown => exact hp.elim
    · -- behind the iterator
      rintro e W2 ⟨⟨v, rfl⟩, (⟨s, hf, hi, hl, hk⟩ | ⟨c, hi, hl, hk⟩)⟩
      · exact ⟨none, _, by have := run_endLoop (P := P) hl (by rw [hrec]; simp); rw [hrec] at this; exact this, hdone _ s _ (Nat.le_refl _) hf ((hI s).putObj _ hi (by omega) hl rfl) ((World.putObj_heap_other (by omega)).trans hk)⟩
      · exact ⟨some c, _, by have := run_endLoop (P := P) hl (by rw [hrec]; simp); rw [hrec] at this; exact this, hstop _ c _ (Nat.le_refl _) ((hIx c).putObj _ hi (by omega) hl rfl) ((World.putObj_heap_other (by omega)).trans hk)⟩

end Go.Proofs.Ythgdanbkngnckaa

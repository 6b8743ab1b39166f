/-
  A range over an iterator that turns cells of some types of its own, and hands on what stands in memory; the body never leaves it.
-/
import Derived.Test.YtmfchlbafpkgaaaD05
import Derived.RangeFuncKeeps
set_option linter.unusedVariables false
set_option linter.unusedSimpArgs false
namespace Go.Proofs.Ytmfchlbafpkgaaa
open Go.RowKit

/-- What holds in a world goes on to hold where new blocks are made, or a block at or beyond B of cells of one of these types is turned. -/
def BidesS (B : Nat) (TS : TypeId → Prop) (I : World → Prop) : Prop :=
  ∀ W W' row, I W → W.grownBy W' row → (∀ r, row = some r → B ≤ r ∧ ∃ cs T fz, W.heap[r]? = some (.cells cs T fz) ∧ TS T) → I W'

/-- Blocks of cells of these types lie as they lay. -/
structure KeepsS (TS : TypeId → Prop) (W W' : World) : Prop where
  size : W.heap.size ≤ W'.heap.size
  same : ∀ (r : Nat) cs T fz, TS T → W.heap[r]? = some (.cells cs T fz) → W'.heap[r]? = some (.cells cs T fz)

theorem KeepsS.refl (TS : TypeId → Prop) (W : World) : KeepsS TS W W := ⟨Nat.le_refl _, fun _ _ _ _ _ h => h⟩
theorem KeepsS.trans {TS : TypeId → Prop} {A B C : World} (h : KeepsS TS A B) (k : KeepsS TS B C) : KeepsS TS A C := ⟨Nat.le_trans h.size k.size, fun r cs T fz ht hr => k.same r cs T fz ht (h.same r cs T fz ht hr)⟩
theorem KeepsS.putObj {TS : TypeId → Prop} {W : World} {l : Nat} {o : Obj} (o' : Obj) (hl : W.heap[l]? = some o) (ho : o.isCells = false) : KeepsS TS W (W.putObj l o') := ⟨by simp, fun r cs T fz _ hr => by
  refine (World.putObj_heap_other (fun e => ?_)).trans hr
  rw [e, hl] at hr
  cases hr
  cases ho⟩
theorem KeepsS.grown {TS : TypeId → Prop} {W W' : World} {row : Option Nat} (hg : W.grownBy W' row) (hr : ∀ r, row = some r → ∀ cs T fz, TS T → W.heap[r]? ≠ some (.cells cs T fz)) : KeepsS TS W W' :=
  ⟨hg.size, fun r cs T fz ht h => (hg.block r (Array.getElem?_eq_some_iff.1 h).1 (fun e => hr r e.symm cs T fz ht h)).trans h⟩

theorem room_none {F : Fence} (hd : F.depth = none) (k : Nat) : F.room k := fun d h => by rw [hd] at h; cases h
/-- At the wide fence a round may come from as deep as may be. -/
theorem yield_deep {m : Nat} (m' : Nat) {P : Program} {l : Nat} {args : Array Value} {W : World} {R : Ending → World → Prop} (h : YieldAt Fence.wide m P l args W R) : YieldAt Fence.wide m' P l args W R := by
  obtain ⟨fn, tmps, assign, body, hy, hR⟩ := h
  exact ⟨fn, tmps, assign, body, hy, ⟨hR.1, fun c cs _ => hR.2 c cs (room_none rfl _)⟩⟩

/-- The contract of such an iterator's value: it hands on all of S, one behind the other; At tells what stands in memory of each. -/
def IterAt {α : Type} (n : Nat) (P : Program) (gf : Nat) (lb : Array Value) (TS : TypeId → Prop) (At : α → Array Value → World → Prop) (S : List α) (n0 : Nat) (w : World) : Prop :=
  ∀ (l : Nat) (J : List α → World → Prop) (W : World), Below w.heap.size w W → (∀ s, BidesS W.heap.size TS (J s)) →
    (∀ pre x args W1, pre ++ [x] <+: S → Below n0 w W1 → J pre W1 → At x args W1 → ∀ m, YieldAt Fence.wide m P l args W1 fun e W' => e = .returned (.bool true) ∧ J (pre ++ [x]) W' ∧ KeepsS TS W1 W' ∧ Below n0 W1 W') →
    J [] W → CallsIn Fence.wide n P gf (#[.func (.yield l) #[] #[]] ++ lb) W fun e W' => (∃ v, e = .returned v) ∧ J S W'

/-- How a round's body ends. -/
def roundAt {α : Type} (n0 B : Nat) (TS : TypeId → Prop) (I : List α → World → Prop) (pre : List α) (x : α) (W : World) : Exit → Act → World → Prop
  | .normal, _, W' => KeepsFrom B W W' ∧ KeepsS TS W W' ∧ Below n0 W W' ∧ I (pre ++ [x]) W'
  | _, _, _ => False

theorem wpIn_range_at {α : Type} {n : Nat} {P : Program} {g : Operand} {ps : Array Tmp} {assign body : Code} {Q : Exit → Act → World → Prop} {a : Act} {w : World}
    (h1 : 1 ≤ n) {gf : Nat} {lb : Array Value} (hg : a.eval g = .func (.func gf) #[] lb) (eg : ∀ args w, (callFunc gf args).run P w = .ok (.enter gf args) w)
    {TS : TypeId → Prop} {At : α → Array Value → World → Prop} {S : List α} {n0 : Nat} (hn0 : n0 ≤ w.heap.size) (hit : IterAt (n - 1) P gf lb TS At S n0 w) (hps : ∀ x args W, At x args W → args.size = ps.size)
    (hAt : ∀ x args, BidesOwn w.heap.size (At x args))
    (I : List α → World → Prop) (hI : ∀ s, BidesOwn w.heap.size (I s)) (hIc : ∀ s, BidesS w.heap.size TS (I s)) (h0 : I [] w) (a₁ : Array Value → Act)
    (hassign : ∀ l args W (K : Act → World → Prop), args.size = ps.size → K (a₁ args) W → assign.wpIn (Fence.wide.inRound l) (n - 1 - 1) P (Exit.then K (fun _ _ _ => False))
      { tmps := (ps.zip args).foldl (fun t (p, v) => t.setIfInBounds p v) a.tmps, defers := [] } W)
    (hbody : ∀ l pre x args W, pre ++ [x] <+: S → I pre W → At x args W → body.wpIn (Fence.wide.inRound l) (n - 1 - 1) P (roundAt n0 w.heap.size TS I pre x W) (a₁ args) W)
    (hdone : ∀ D W, w.heap.size ≤ D → I S W → W.heap[D]? = some (.deferred (some [])) → Q .normal { a with defers := { target := .collected D, args := #[] } :: a.defers } W) :
    (Code.rangeFunc g ps assign body).wpIn Fence.wide n P Q a w := by
  refine wpIn_rangeFunc fun fn _ => ?_
  rw [show Fence.wide.round = none from rfl]
  obtain ⟨rec, hrec⟩ : ∃ rec : LoopState → Option Code → Loop, rec = fun st pe => { state := st, pending := pe, fn, tmps := a.tmps, params := ps, assign, body, defers := w.heap.size } := ⟨_, rfl⟩
  obtain ⟨W1, hW1⟩ : ∃ W1, (w.alloc (.deferred (some []))).alloc (.loop (rec .ready none)) = W1 := ⟨_, rfl⟩
  have hL1 : W1.heap[w.heap.size + 1]? = some (.loop (rec .ready none)) := by
    rw [← hW1]; have := World.alloc_heap_new (w.alloc (.deferred (some []))) (.loop (rec .ready none)); rwa [World.size_alloc] at this
  have hK1 : W1.heap[w.heap.size]? = some (.deferred (some [])) := by
    rw [← hW1]; exact (Below.heap_alloc _ _ _ (by simp)).trans (World.alloc_heap_new w _)
  have hI1 : I [] W1 := by rw [← hW1]; exact (hI _).alloc _ ((hI _).alloc _ h0)
  have hb1 : Below w.heap.size w W1 := by
    rw [← hW1]; exact ((Below.refl _ w).alloc (Nat.le_refl _) _).alloc (by simp) _
  have hsz1 := hb1.size
  refine ⟨w.heap.size + 1, [{ target := .collected w.heap.size, args := #[] }], W1, { target := .fn (.func gf) lb, args := #[.func (.yield (w.heap.size + 1)) #[] #[]] }, W1, gf,
    #[.func (.yield (w.heap.size + 1)) #[] #[]] ++ lb, W1, ?_, ?_, fun _ _ => trivial, ?_, fun _ => h1, ?_⟩
  · rw [← hW1, hrec]; exact run_enterLoop_outer _ _ _ _ _
  · simp only [resolve, hg]
    simp [go_sem]
  · simp [invoke, go_sem, eg]
  · have ne : ∀ {A B : World} {row : Option Nat}, A.grownBy B row → (∀ r, row = some r → W1.heap.size ≤ r ∧ ∃ cs T fz, A.heap[r]? = some (.cells cs T fz) ∧ TS T) → ∀ (k : Nat) (o : Obj), A.heap[k]? = some o → o.isCells = false → B.heap[k]? = some o := by
      intro A B row hgr hr k o hk ho
      refine (hgr.block k (Array.getElem?_eq_some_iff.1 hk).1 (fun e => ?_)).trans hk
      obtain ⟨_, cs, T, fz, hc, _⟩ := hr k e.symm
      rw [hk] at hc
      cases hc
      cases ho
    refine (hit (w.heap.size + 1)
      (fun s W => I s W ∧ (W.heap[w.heap.size + 1]? = some (.loop (rec .ready none)) ∧ W.heap[w.heap.size]? = some (.deferred (some []))))
      W1 hb1
      (fun s A B row hs hgr hr => ⟨hIc s A B row hs.1 hgr (fun r e => ⟨by have := (hr r e).1; omega, (hr r e).2⟩), ne hgr hr _ _ hs.2.1 rfl, ne hgr hr _ _ hs.2.2 rfl⟩)
      ?_ ⟨hI1, hL1, hK1⟩).mono ?_
    · -- one round
      rintro pre x args W hpre hbW ⟨hi, hl, hk⟩ hat m
      have hsz := hps x args W hat
      have hy := run_yield (P := P) (args := args) hl (by rw [hrec]; exact hsz)
      rw [hrec] at hy
      refine yield_deep (m := n - 1 - 1) m ⟨fn, _, assign, body, hy, roundIn_of_wpIn trivial (hassign _ args W _ hsz ?_)⟩
      clear hy
      refine ⟨_, run_beginRound hl (by rw [hrec]), ?_⟩
      obtain ⟨Wb, hWb⟩ : ∃ Wb, Wb = W.putObj (w.heap.size + 1) (.loop { rec .ready none with state := .busy }) := ⟨_, rfl⟩
      have hl3 : Wb.heap[w.heap.size + 1]? = some (.loop { rec .ready none with state := .busy }) := by rw [hWb]; exact World.putObj_heap_same (Array.getElem?_eq_some_iff.1 hl).1
      have hk3 : Wb.heap[w.heap.size]? = some (.deferred (some [])) := by rw [hWb]; exact (World.putObj_heap_other (by omega)).trans hk
      have hc3 : KeepsS TS W Wb := hWb ▸ KeepsS.putObj _ hl rfl
      have hi3 : I pre Wb := hWb ▸ (hI pre).putObj _ hi (by omega) hl rfl
      have ha3 : At x args Wb := hWb ▸ (hAt x args).putObj _ hat (by omega) hl rfl
      have hb3 : Below n0 W Wb := hWb ▸ (Below.refl _ W).grown (grownBy_putObj' W _ _) (Nat.le_trans hn0 hbW.size) (fun k e => by cases e; omega)
      show body.wpIn _ _ _ _ (a₁ args) (W.putObj (w.heap.size + 1) (.loop { rec .ready none with state := .busy }))
      rw [← hWb]
      refine wpIn_mono (hbody _ pre x args Wb hpre hi3 ha3) ?_
      rintro e a3 W3 hp
      cases e with
      | normal =>
        obtain ⟨hkf, hkc, hkb, hi4⟩ := hp
        have hl4 := hkf.same _ _ (by omega) hl3 rfl
        have hk4 := hkf.same _ _ (Nat.le_refl _) hk3 rfl
        have hr := run_endRound (P := P) none hl4
        rw [hrec] at hr
        refine ⟨_, _, hr, rfl, ⟨(hI _).putObj _ hi4 (by omega) hl4 rfl, ?_, (World.putObj_heap_other (by omega)).trans hk4⟩, (hc3.trans hkc).trans (KeepsS.putObj _ hl4 rfl), ?_⟩
        · rw [hrec]; exact World.putObj_heap_same (Array.getElem?_eq_some_iff.1 hl4).1
        · have hz3 : W.heap.size ≤ Wb.heap.size := hb3.size
          exact (hb3.trans hkb).grown (grownBy_putObj' W3 _ _) (by have := hkb.size; have := hbW.size; omega) (fun k e => by cases e; omega)
      | exit id => exact hp.elim
      | goto t => exact hp.elim
      | ret => exact hp.elim
      | panic chain => exact hp.elim
      | outgrown => exact hp.elim
    · rintro e W2 ⟨⟨v, rfl⟩, hi, hl, hk⟩
      exact ⟨none, _, by have := run_endLoop (P := P) hl (by rw [hrec]; simp); rw [hrec] at this; exact this, hdone _ _ (Nat.le_refl _) ((hI S).putObj _ hi (by omega) hl rfl) ((World.putObj_heap_other (by omega)).trans hk)⟩
end Go.Proofs.Ytmfchlbafpkgaaa

/-
  The walk of the iterator that vary.gots hands back: whatever loop body it is ranged over with.
-/
import Derived.Test.YtnndabjhdhnleaaVGet
import Derived.Test.YtnndabjhdhnleaaRounds
import Derived.RangeFuncNested
import Derived.RangeFuncBound
import Derived.RangeFuncLeaves
import Derived.Shelf.Abstract
import Derived.Shelf.RegionOpen
import Derived.OwnWalkIn
import Derived.TacticsInMore
import Derived.LoopNIn
import Derived.LoopIn
import Derived.Maps.AppendAt
namespace Go.Proofs.Ytnndabjhdhnleaa
open Go.RowKit Go.Shelf

attribute [local go_sem] Oper.semAt_some

theorem grown_setCell (W : World) (b i : Nat) (v : Value) : W.grownBy (W.setCell ⟨b, i, none⟩ v) (some b) :=
  ⟨rfl, rfl, rfl, by simp, fun k _ hk => Below.heap_setCell W ⟨b, i, none⟩ v k (fun e => hk (by rw [e]))⟩

/-- A got, as the program's value. -/
def gotAgg (r : Nat × Int × Nat) : Value := .agg #[.int .u64 (r.1 : Int), .int .i64 r.2.1, .int .i64 (r.2.2 : Int)]

theorem cells_setCell {w : World} {b : Nat} {cs : Array Value} {T : TypeId} (h : w.heap[b]? = some (.cells cs T (0, 0))) (i : Nat) (v : Value) : (w.setCell ⟨b, i, none⟩ v).heap[b]? = some (.cells (cs.setIfInBounds i v) T (0, 0)) := by
  obtain ⟨hlt, hk⟩ := Array.getElem?_eq_some_iff.1 h
  show (w.heap.modify b _)[b]? = _
  rw [Array.getElem?_eq_getElem (by rw [Array.size_modify]; exact hlt), Array.getElem_modify_self, hk]
  rfl

/-- The number that a cell holds. -/
def placeOf : Option Value → Nat
  | some (.int _ p) => p.toNat
  | _ => 0

set_option maxRecDepth 100000 in
set_option maxHeartbeats 2000000 in
theorem gots1_in (n : Nat) (hn : 1 ≤ n) (l B : Nat) (s : ByteArray) (a : Int) (ba bs : Nat) (J : List Nat → Int → World → Prop) (Jx : World → Prop) (hs : s.size ≤ maxLen)
    (hJo : ∀ acc p, BidesCells B 56 (J acc p)) (hJb : ∀ acc p W, J acc p W → Boxed W bs 9 (.string s))
    (hY : ∀ acc p W1, J acc p W1 → YieldAt Fence.wide (n - 1) Try.prog l #[gotAgg (Plain.get s.data.toList p)] W1 fun e W' =>
      (e = .returned (.bool true) ∧ (Plain.get s.data.toList p).2.2 = 0 ∧ J (acc ++ [(Plain.get s.data.toList p).1]) (Plain.get s.data.toList p).2.1 W' ∧ KeepsCells 56 W1 W') ∨ (e = .returned (.bool false) ∧ Jx W'))
    (W : World) (hB : B ≤ W.heap.size) (ha : Boxed W ba 3 (.int .i64 a)) (h0 : J [] a W) :
    CallsIn Fence.wide n Try.prog 25 #[.func (.yield l) #[] #[], .pointer (some ⟨ba, 0, none⟩), .pointer (some ⟨bs, 0, none⟩)] W fun e W' => (∃ v, e = .returned v) ∧ Jx W' := by
  refine callsIn_of_wp Try.func25 rfl trivial ?_ rfl
  simp only [Try.ntmps25, List.size_toArray, List.length_cons, List.length_nil, Nat.reduceAdd, Nat.reduceSub, Array.replicate_succ, Array.replicate_zero, List.push_toArray, List.append_toArray, List.nil_append, List.cons_append]
  have hac := ha.cell
  gi_wp2
  gi_loopw [9] (fun _ wr => ∃ (acc : List Nat) (p x : Int), wr.heap[W.heap.size]? = some (.cells #[.int .u64 x, .int .i64 p, .int .i64 0] 56 (0, 0)) ∧ J acc p wr)
    (fun _ wr => s.size - placeOf (wr.cell? ⟨W.heap.size, 1, none⟩))
  case atStart =>
    exact ⟨[], a, 0, World.alloc_heap_new W _, hJo _ _ _ _ none h0 (World.grownBy_alloc W _ none) (fun r e => by cases e)⟩
  case round =>
    obtain ⟨acc, p, x, hG, hJ⟩ := hrel
    have c0 : wr.cell? ⟨W.heap.size, 0, none⟩ = some (.int .u64 x) := by rw [Lib.cell_of_heap hG]; rfl
    have c1 : wr.cell? ⟨W.heap.size, 1, none⟩ = some (.int .i64 p) := by rw [Lib.cell_of_heap hG]; rfl
    have c2 : wr.cell? ⟨W.heap.size, 2, none⟩ = some (.int .i64 0) := by rw [Lib.cell_of_heap hG]; rfl
    have f0 : wr.frozen? ⟨W.heap.size, 0, none⟩ = false := Lib.frozen_of_heap hG 0
    have f1 : wr.frozen? ⟨W.heap.size, 1, none⟩ = false := Lib.frozen_of_heap hG 1
    have f2 : wr.frozen? ⟨W.heap.size, 2, none⟩ = false := Lib.frozen_of_heap hG 2
    have hbs := (hJb _ _ _ hJ).cell
    have q14 : ∀ w0, CallsIn Fence.wide (n - 1) Try.prog 16 #[.string s, .int .i64 p] w0 fun e w' => e = .returned (gotten (Plain.get s.data.toList p)) ∧ w0 = w' := fun w0 => callsIn_wide.2 (get_any s p w0 hs)
    obtain ⟨r0, hr0⟩ : ∃ r0, r0 = Plain.get s.data.toList p := ⟨_, rfl⟩
    have hy0 := hY acc p
    rw [← hr0] at q14 hy0
    obtain ⟨n0, p0, e0⟩ := r0
    simp only [gotten] at q14
    have hm : ∀ (w : World) (cs : Array Value), w.heap[W.heap.size]? = some (.cells cs 56 (0, 0)) → ∀ i v, J acc p w → J acc p (w.setCell ⟨W.heap.size, i, none⟩ v) := fun w cs hw i v hj =>
      hJo acc p w _ (some W.heap.size) hj (grown_setCell w _ i v) (fun r e => by cases e; exact ⟨hB, cs, _, hw⟩)
    have hst : ∀ (w : World) (cs : Array Value) i v, w.heap[W.heap.size]? = some (.cells cs 56 (0, 0)) → (w.setCell ⟨W.heap.size, i, none⟩ v).heap[W.heap.size]? = some (.cells (cs.setIfInBounds i v) 56 (0, 0)) := fun w cs i v hw => cells_setCell hw i v
    have hG1 := hst _ _ 0 (.int .u64 n0) hG
    have hJ1 := hm _ _ hG 0 (.int .u64 n0) hJ
    have hG2 := hst _ _ 1 (.int .i64 p0) hG1
    have hJ2 := hm _ _ hG1 1 (.int .i64 p0) hJ1
    have hG3 := hst _ _ 2 (.int .i64 e0) hG2
    have hJ3 := hm _ _ hG2 2 (.int .i64 e0) hJ2
    obtain ⟨fn, tmps, assign, body, hy, hR⟩ := hy0 _ hJ3
    dsimp only [gotAgg] at hy
    gi_wp2_with (refine ⟨trivial, ?_⟩; gi_at_call 16; refine (q14 _).mono ?_; rintro e w' ⟨rfl, rfl⟩)
    refine hR.mono ?_
    rintro e W3 (⟨rfl, he0, hJ3', hk3⟩ | ⟨rfl, hJx3⟩)
    · have hG4 := hk3 _ _ _ hG3
      have hplace : placeOf (wr.cell? ⟨W.heap.size, 1, none⟩) = p.toNat := by rw [c1]; rfl
      have hplace3 : placeOf (W3.cell? ⟨W.heap.size, 1, none⟩) = p0.toNat := by rw [Lib.cell_of_heap hG4]; rfl
      have hok := Plain.get_ok (s := s.data.toList) (p := p) (by rw [← hr0]; exact he0)
      rw [← hr0] at hok
      obtain ⟨k, u, rfl, hp0, hu, hku, _⟩ := hok
      simp only at hp0
      rw [ba_length] at hku
      clear hy hR hy0 hJ hJ1 hJ2 hJ3 hG1 hG2 hG3 hm hst hJo hJb hY q14
      subst he0
      gi_wp2
      refine ⟨⟨acc ++ [n0], p0, (n0 : Int), hG4, hJ3'⟩, ?_⟩
      rw [hplace, hplace3, hp0]
      omega
    · clear hy hR hy0 hJ hJ1 hJ2 hJ3 hG1 hG2 hG3 hm hst hJo hJb hY q14
      gi_wp2
      refine bodyPost_ret (results_none rfl _ _ _) rfl ?_
      exact ⟨⟨_, rfl⟩, hJx3⟩

/-- One got leads to the next: it was one, it is added, and the place is behind it. -/
def nextGot (s : List UInt8) (x y : List Nat × Int) : Prop := (Plain.get s x.2).2.2 = 0 ∧ y = (x.1 ++ [(Plain.get s x.2).1], (Plain.get s x.2).2.1)

theorem gots_iter (n : Nat) (hn : 1 ≤ n) (s : ByteArray) (a : Int) (ba bs : Nat) (hs : s.size ≤ maxLen) (w : World) (ha : Boxed w ba 3 (.int .i64 a)) :
    IterCells n Try.prog 25 #[.pointer (some ⟨ba, 0, none⟩), .pointer (some ⟨bs, 0, none⟩)] 56 (fun x : List Nat × Int => #[gotAgg (Plain.get s.data.toList x.2)]) (nextGot s.data.toList) (fun _ => False) ([], a)
      (fun J => ∀ x W, J x W → Boxed W bs 9 (.string s)) w := by
  intro l J Jx W hW hJ hm hY h0
  refine (gots1_in n hn l W.heap.size s a ba bs (fun acc p => J (acc, p)) Jx hs (fun acc p => hJ (acc, p)) (fun acc p W h => hm (acc, p) W h) ?_ W (Nat.le_refl _) ?_ h0).mono (fun e W' h => ⟨h.1, .inr h.2⟩)
  · intro acc p W1 h1
    refine (hY (acc, p) W1 h1).mono fun e W' hr => ?_
    rcases hr with ⟨he, ⟨y, hy, hj⟩, hk⟩ | ⟨he, hj⟩
    · obtain ⟨hy0, rfl⟩ := hy
      exact .inl ⟨he, hy0, hj, hk⟩
    · exact .inr ⟨he, hj⟩
  · exact (hW.block ba ha.lt).trans ha

end Go.Proofs.Ytnndabjhdhnleaa

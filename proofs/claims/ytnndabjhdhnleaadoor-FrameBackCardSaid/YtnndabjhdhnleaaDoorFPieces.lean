/-
  The walk of the iterator that frame.pieces hands back: whatever loop body it is ranged over with.
-/
import Derived.Test.YtnndabjhdhnleaaDoorFGet
import Derived.Test.YtnndabjhdhnleaaDoorBoxes
namespace Go.Proofs.YtnndabjhdhnleaaDoor
open Go.RowKit Go.Shelf

attribute [local go_sem] Oper.semAt_some

theorem pieces_any (s : ByteArray) (w : World) :
    Calls Tryd.prog 27 #[.string s] w fun e w' => e = .returned (.func (.func 54) #[] #[.pointer (some ⟨w.heap.size, 0, none⟩)]) ∧ w' = w.alloc (.cells #[.string s] 9) := by
  go_enter Tryd.func27, Tryd.ntmps27
  go_wp2
  go_ret
  exact ⟨rfl, rfl⟩

/-- A piece, as the program's value, and the error beside it. -/
def pieceArgs (r : ByteArray × Int × Nat) : Array Value := #[.agg #[.string r.1, .int .i64 r.2.1], .int .i64 (r.2.2 : Int)]

/-- What has been had; the place of the next piece; has it been told that there is none? -/
abbrev PSt := List ByteArray × Int × Bool

/-- One piece leads to the next, or there is none. -/
def nextPiece (s : ByteArray) (x y : PSt) : Prop :=
  ((fget s x.2.1).2.2 = 0 ∧ y = (x.1 ++ [(fget s x.2.1).1], (fget s x.2.1).2.1, false)) ∨ ((fget s x.2.1).2.2 ≠ 0 ∧ y = (x.1, x.2.1, true))

set_option maxRecDepth 100000 in
set_option maxHeartbeats 2000000 in
theorem pieces1_in (n : Nat) (hn : 1 ≤ n) (l : Nat) (T : TypeId) (s : ByteArray) (bs : Nat) (J : PSt → World → Prop) (Jx : World → Prop) (hs : s.size ≤ 1000000) (W : World)
    (hJo : ∀ x, BidesCells W.heap.size T (J x)) (hJb : ∀ x W1, J x W1 → Boxed W1 bs 9 (.string s)) (hJF : ∀ x W1, J x W1 → Fours W1)
    (hY : ∀ x W1, J x W1 → YieldAt Fence.wide (n - 1) Tryd.prog l (pieceArgs (fget s x.2.1)) W1 fun e W' =>
      (e = .returned (.bool true) ∧ (∃ y, nextPiece s x y ∧ J y W') ∧ KeepsCells T W1 W') ∨ (e = .returned (.bool false) ∧ Jx W'))
    (h0 : J ([], 0, false) W) :
    CallsIn Fence.wide n Tryd.prog 54 #[.func (.yield l) #[] #[], .pointer (some ⟨bs, 0, none⟩)] W fun e W' => (∃ v, e = .returned v) ∧ ((∃ x, x.2.2 = true ∧ J x W') ∨ Jx W') := by
  refine callsIn_of_wp Tryd.func54 rfl trivial ?_ rfl
  simp only [Tryd.ntmps54, List.size_toArray, List.length_cons, List.length_nil, Nat.reduceAdd, Nat.reduceSub, Array.replicate_succ, Array.replicate_zero, List.push_toArray, List.append_toArray, List.nil_append, List.cons_append]
  gi_wp2
  gi_loopw [3, 4, 5, 6, 7] (fun a _ _ _ _ wr => ∃ (acc : List ByteArray) (p : Int), a = .int .i64 p ∧ J (acc, p, false) wr)
    (fun a _ _ _ _ _ => s.size - (intOf a).toNat)
  case atStart => exact ⟨[], 0, rfl, h0⟩
  case round =>
    obtain ⟨acc, p, rfl, hJ⟩ := hrel
    have hbs := (hJb _ _ hJ).cell
    have q16 : CallsIn Fence.wide (n - 1) Tryd.prog 16 #[.string s, .int .i64 p] wr fun e w' => e = .returned (fgotten (fget s p)) ∧ Below wr.heap.size wr w' := callsIn_wide.2 (fget_any s p wr (hJF _ _ hJ) hs)
    have hy0 := hY (acc, p, false)
    unfold nextPiece at hy0
    dsimp only at hy0
    have hst := fget_stands (s := s) (a := p)
    obtain ⟨r0, hr0⟩ : ∃ r0, fget s p = r0 := ⟨_, rfl⟩
    rw [hr0] at q16 hy0 hst
    obtain ⟨P0, p0, e0⟩ := r0
    simp only [fgotten] at q16
    dsimp only at hst
    have hm : ∀ w', Below wr.heap.size wr w' → J (acc, p, false) w' := fun w' hb =>
      hJo _ _ _ none hJ ⟨hb.os, hb.tape, hb.output, hb.size, fun k hk _ => hb.block k hk⟩ (fun r e => by cases e)
    gi_wp2_with (refine ⟨trivial, ?_⟩; gi_at_call 16; refine q16.mono ?_; rintro e w1 ⟨rfl, hb1⟩; obtain ⟨fn, tmps, assign, body, hy, hR⟩ := hy0 _ (hm _ hb1); dsimp only [pieceArgs] at hy)
    clear hy0 hm hJ hbs q16 hJo hJb hJF hY h0
    have HR0 := Lib.hid hr0
    clear hr0
    refine hR.mono ?_
    clear hy hR
    rintro e W3 (⟨rfl, ⟨y, hy, hJ3⟩, _⟩ | ⟨rfl, hJx3⟩)
    · rcases hy with ⟨he0, rfl⟩ | ⟨he0, rfl⟩
      · obtain ⟨g1, g2, g3, _⟩ := stands_next (hst he0)
        subst he0
        clear hst
        gi_wp2
        exact ⟨⟨acc ++ [P0], p0, rfl, hJ3⟩, by simp [intOf]; omega⟩
      · have he' : ((e0 : Int) != 0) = true := by simp; omega
        clear hst he0
        gi_wp2
        refine bodyPost_ret (results_none rfl _ _ _) rfl ?_
        exact ⟨⟨_, rfl⟩, .inl ⟨_, rfl, hJ3⟩⟩
    · clear hst
      gi_wp2
      refine bodyPost_ret (results_none rfl _ _ _) rfl ?_
      exact ⟨⟨_, rfl⟩, .inr hJx3⟩

theorem pieces_iter (n : Nat) (hn : 1 ≤ n) (T : TypeId) (s : ByteArray) (bs : Nat) (hs : s.size ≤ 1000000) (w : World) :
    IterCells n Tryd.prog 54 #[.pointer (some ⟨bs, 0, none⟩)] T (fun x : PSt => pieceArgs (fget s x.2.1)) (nextPiece s) (fun x => x.2.2 = true) ([], 0, false)
      (fun J => ∀ x W, J x W → Boxed W bs 9 (.string s) ∧ Fours W) w := by
  intro l J Jx W _ hJ hm hY h0
  exact pieces1_in n hn l T s bs J Jx hs W hJ (fun x W1 h => (hm x W1 h).1) (fun x W1 h => (hm x W1 h).2) hY h0
end Go.Proofs.YtnndabjhdhnleaaDoor

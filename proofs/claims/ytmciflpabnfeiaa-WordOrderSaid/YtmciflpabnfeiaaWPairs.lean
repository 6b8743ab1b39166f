/-
  The walk of the iterator that word.neighbours hands back: whatever loop body it is ranged over with.
-/
import Derived.Test.YtmciflpabnfeiaaWRange
import Derived.Test.YtmciflpabnfeiaaWLists
namespace Go.Proofs.Ytmciflpabnfeiaa
open Go.RowKit Go.Shelf

attribute [local go_sem] Oper.semAt_some

theorem neighbours_any (v : Value) (hv : ∃ ad n c, v = .slice ad n c) (w : World) :
    Calls Try.prog 28 #[v] w fun e w' => e = .returned (.func (.func 37) #[] #[.pointer (some ⟨w.heap.size, 0, none⟩)]) ∧ w' = w.alloc (.cells #[v] 22) := by
  obtain ⟨ad, n, c, rfl⟩ := hv
  go_enter Try.func28, Try.ntmps28
  go_wp2
  go_ret
  exact ⟨rfl, rfl⟩

/-- Two neighbours, as the program's values. -/
def pairArgs (l : List ByteArray) (k : Nat) : Array Value := #[.string (at' l (k - 1)), .string (at' l k)]

set_option maxRecDepth 100000 in
set_option maxHeartbeats 2000000 in
theorem pairs1_in (n : Nat) (hn : 1 ≤ n) (y : Nat) (T : TypeId) (l : List ByteArray) (ad : Option Addr) (c bs : Nat) (J : Nat → World → Prop) (Jx : World → Prop) (hlen : l.length ≤ 9223372036854775806) (W : World)
    (hJo : ∀ k, BidesCells W.heap.size T (J k)) (hJb : ∀ k W1, J k W1 → Boxed W1 bs 22 (.slice ad l.length c) ∧ Strs W1 (.slice ad l.length c) l)
    (hY : ∀ k W1, ¬ l.length ≤ k → J k W1 → YieldAt Fence.wide (n - 1) Try.prog y (pairArgs l k) W1 fun e W' =>
      (e = .returned (.bool true) ∧ (∃ k', k' = k + 1 ∧ J k' W') ∧ KeepsCells T W1 W') ∨ (e = .returned (.bool false) ∧ Jx W'))
    (h0 : J 1 W) :
    CallsIn Fence.wide n Try.prog 37 #[.func (.yield y) #[] #[], .pointer (some ⟨bs, 0, none⟩)] W fun e W' => (∃ v, e = .returned v) ∧ ((∃ k, l.length ≤ k ∧ J k W') ∨ Jx W') := by
  refine callsIn_of_wp Try.func37 rfl trivial ?_ rfl
  simp only [Try.ntmps37, List.size_toArray, List.length_cons, List.length_nil, Nat.reduceAdd, Nat.reduceSub, Array.replicate_succ, Array.replicate_zero, List.push_toArray, List.append_toArray, List.nil_append, List.cons_append]
  gi_wp2
  gi_loopw [3] (fun i wr => ∃ k : Nat, 1 ≤ k ∧ k ≤ l.length + 1 ∧ i = .int .i64 k ∧ J k wr) (fun i _ => l.length - (intOf i).toNat)
  case atStart => exact ⟨1, Nat.le_refl _, by omega, rfl, h0⟩
  case round =>
    obtain ⟨k, hk1, hk, rfl, hJ⟩ := hrel
    obtain ⟨hbox, hstr⟩ := hJb _ _ hJ
    have hbs := hbox.cell
    by_cases hlt : k < l.length
    · obtain ⟨ad', c', hv, hc⟩ := strs_cell hstr
      cases hv
      obtain ⟨b, o, rfl, hcell⟩ := hc k hlt
      obtain ⟨b', o', he', hcell0⟩ := hc (k - 1) (by omega)
      cases he'
      have hJd : J k wr.drew := hJo _ _ _ none hJ ⟨rfl, rfl, rfl, Nat.le_refl _, fun _ _ _ => rfl⟩ (fun r e => by cases e)
      have hy0 := hY k wr.drew (by omega) hJd
      obtain ⟨j, hj⟩ : ∃ j, k - 1 = j := ⟨_, rfl⟩
      unfold pairArgs at hy0
      rw [hj] at hcell0 hy0
      obtain ⟨x, hx⟩ : ∃ x, x = at' l j := ⟨_, rfl⟩
      obtain ⟨z, hz⟩ : ∃ z, z = at' l k := ⟨_, rfl⟩
      rw [← hx] at hcell0 hy0
      rw [← hz] at hcell hy0
      have e0 : (k : Int) - 1 = (j : Int) := by omega
      have hjl : j < l.length := by omega
      have hew : IntKind.i64.wrap (j : Int) = (j : Int) := IntWalk.i64_in _ (by omega)
      have hmo : Try.prog.follows .mixedOrders = true := by kernel_rfl
      obtain ⟨fn, tmps, assign, body, hy, hR0⟩ := hy0
      have hR := hR0.mono (R' := fun e W' => ∃ bb : Bool, e = .returned (.bool bb) ∧ ((bb = true ∧ J (k + 1) W') ∨ (bb = false ∧ Jx W'))) (by
        rintro e W' (⟨rfl, ⟨k', rfl, h⟩, _⟩ | ⟨rfl, h⟩)
        · exact ⟨true, rfl, .inl ⟨rfl, h⟩⟩
        · exact ⟨false, rfl, .inr ⟨rfl, h⟩⟩)
      clear hR0
      clear hj hx hz hc hJo hJb hY h0 hJ hJd hstr hbox
      gi_wp2
      gi_region_with_o (refine hR.mono ?_; rintro e W3 ⟨bb, rfl, hres⟩)
      all_goals clear hy hR hcell hcell0 hbs hew
      all_goals
        cases bb
        · rcases hres with ⟨h, _⟩ | ⟨_, hres⟩
          · cases h
          · gi_wp2
            refine bodyPost_ret (results_none rfl _ _ _) rfl ?_
            exact ⟨⟨_, rfl⟩, .inr hres⟩
        · rcases hres with ⟨_, hres⟩ | ⟨h, _⟩
          · gi_wp2
            exact ⟨⟨k + 1, by omega, by omega, by go_num, hres⟩, by simp [intOf]; omega⟩
          · cases h
    · clear hY hJb hJo h0
      gi_wp2
      refine bodyPost_end (results_none rfl _ _ _) rfl ?_
      exact ⟨⟨_, rfl⟩, .inl ⟨k, by omega, hJ⟩⟩
theorem pairs_iter (n : Nat) (hn : 1 ≤ n) (T : TypeId) (l : List ByteArray) (ad : Option Addr) (c bs : Nat) (hlen : l.length ≤ 9223372036854775806) (w : World) :
    IterTo n Try.prog 37 #[.pointer (some ⟨bs, 0, none⟩)] T (pairArgs l) (fun k k' => k' = k + 1) (fun k => l.length ≤ k) 1
      (fun J => ∀ k W, J k W → Boxed W bs 22 (.slice ad l.length c) ∧ Strs W (.slice ad l.length c) l) w := by
  intro y J Jx W _ hJ hm hY h0
  exact pairs1_in n hn y T l ad c bs J Jx hlen W hJ hm hY h0
end Go.Proofs.Ytmciflpabnfeiaa

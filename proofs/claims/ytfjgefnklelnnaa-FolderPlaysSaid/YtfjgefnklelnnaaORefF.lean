/-
  The document's folder: what was there behind 0, 1, .. acts, and the greatest number.
-/
import Derived.Test.YtfjgefnklelnnaaORefL
namespace Go.Proofs.Ytfjgefnklelnnaa
open Go.RowKit Go.Shelf

/-- The document's folder in memory: at block q; Ws: what was there; J: the blocks that it stands in. -/
structure RefAt (w : World) (q : Nat) (Ws : List Names) (n : Nat) (J : Nat → Prop) : Prop where
  it : ∃ av vs, w.heap[q]? = some (.cells #[av, .int .i64 (n : Int)] 59 (0, 0)) ∧ w.ownsRow 0 64 1 av Ws.length vs ∧ vs.length = Ws.length ∧ J q ∧ (∀ g, av.ownBlock = some g → J g) ∧
    ∀ i (h : i < Ws.length), ∃ v, vs[i]? = some v ∧ w.ownsRow 0 68 2 v Ws[i].length (nams Ws[i]) ∧ ∀ g, v.ownBlock = some g → J g
  some : 1 ≤ Ws.length
  rising : ∀ i (h : i < Ws.length), Rising Ws[i]
  small : Ws.length ≤ 100000 ∧ n ≤ 100000 ∧ ∀ i (h : i < Ws.length), Ws[i].length ≤ 100000
  mem : ∀ g, J g → g < w.heap.size

theorem RefAt.same {w w' : World} {q n : Nat} {Ws : List Names} {J : Nat → Prop} (h : RefAt w q Ws n J) (he : ∀ g, J g → w'.heap[g]? = w.heap[g]?) (hs : w.heap.size ≤ w'.heap.size) : RefAt w' q Ws n J := by
  obtain ⟨av, vs, h1, h2, h3, h4, h5, h6⟩ := h.it
  refine ⟨⟨av, vs, (he q h4).trans h1, owns_same h2 fun g hg => he g (h5 g hg), h3, h4, h5, fun i hi => ?_⟩, h.some, h.rising, h.small, fun g hg => Nat.lt_of_lt_of_le (h.mem g hg) hs⟩
  obtain ⟨v, k1, k2, k3⟩ := h6 i hi
  exact ⟨v, k1, owns_same k2 fun g hg => he g (k3 g hg), k3⟩
theorem RefAt.kept {w w' : World} {q n : Nat} {Ws : List Names} {J N : Nat → Prop} (h : RefAt w q Ws n J) (hk : Kept N w w') (hn : ∀ g, J g → ¬ N g) : RefAt w' q Ws n J :=
  h.same (fun g hg => hk.block g (h.mem g hg) (hn g hg)) hk.size
theorem RefAt.below {w w' : World} {q n : Nat} {Ws : List Names} {J : Nat → Prop} (h : RefAt w q Ws n J) (hb : Below w.heap.size w w') : RefAt w' q Ws n J :=
  h.same (fun g hg => hb.block g (h.mem g hg)) hb.size

/-- What is there now. -/
def nowN (Ws : List Names) : Names := Ws.getLastD []

theorem nowN_at {Ws : List Names} (h : 1 ≤ Ws.length) : nowN Ws = Ws[Ws.length - 1] := by
  unfold nowN
  rw [List.getLastD_eq_getLast?, List.getLast?_eq_getElem?, List.getElem?_eq_getElem (by omega)]
  rfl

set_option maxRecDepth 100000 in
theorem refMay_any (s : ByteArray) (hs : s.size ≤ 1000000) (w : World) : Calls Try.prog 36 #[.string s] w fun e w' => e = .returned (.bool (mayB s)) ∧ w = w' := by
  have hm : mayB s = (decide (0 < s.size) && decide (s.size ≤ 64)) := by
    unfold mayB
    rw [Bool.eq_iff_iff]
    simp
  rw [hm]
  obtain ⟨z, hz⟩ : ∃ z, s.size = z := ⟨_, rfl⟩
  rw [hz] at hs ⊢
  rcases Nat.eq_zero_or_pos z with h0 | h0
  · have e1 : decide (0 < z) = false := decide_eq_false (by omega)
    have e1' : decide (0 < (z : Int)) = false := decide_eq_false (by omega)
    rw [e1]
    go_enter Try.func36, Try.ntmps36
    go_wp2
    go_ret
    exact ⟨rfl, rfl⟩
  · have e1 : decide (0 < z) = true := decide_eq_true h0
    have e1' : decide (0 < (z : Int)) = true := decide_eq_true (by omega)
    rw [e1]
    by_cases h1 : z ≤ 64
    · have e2 : decide (z ≤ 64) = true := decide_eq_true h1
      have e2' : decide ((z : Int) ≤ 64) = true := decide_eq_true (by omega)
      rw [e2]
      go_enter Try.func36, Try.ntmps36
      go_wp2
      go_ret
      exact ⟨rfl, rfl⟩
    · have e2 : decide (z ≤ 64) = false := decide_eq_false h1
      have e2' : decide ((z : Int) ≤ 64) = false := decide_eq_false (by omega)
      rw [e2]
      go_enter Try.func36, Try.ntmps36
      go_wp2
      go_ret
      exact ⟨rfl, rfl⟩

/-- The cells of what was there. -/
theorem was_cells {w : World} {av : Value} {vs : List Value} {n : Nat} (h : w.ownsRow 0 64 1 av n vs) (hv : vs.length = n) (hn : 1 ≤ n) : ∃ g c, av = .slice (some ⟨g, 0, none⟩) n c ∧ n ≤ c ∧ c ≤ 9223372036854775807 ∧ g < w.heap.size ∧ ∀ i (hi : i < n) v, vs[i]? = some v → w.cell? ⟨g, i, none⟩ = some v := by
  rcases h.2 with ⟨_, h0⟩ | ⟨g, cap, cur, rfl, _, hg, h1, h2, _, ht⟩
  · omega
  · unfold maxLen at h2
    refine ⟨g, cap, rfl, h1, h2, (Array.getElem?_eq_some_iff.1 hg).1, fun i hi v hx => ?_⟩
    rw [cell_of_row w g i cur 64 (0, 0) hg, ← Array.getElem?_toList]
    rw [← ht, List.getElem?_take] at hx
    split at hx
    · exact hx
    · cases hx

set_option maxRecDepth 100000 in
theorem refNow_any {w : World} {q n : Nat} {Ws : List Names} {J : Nat → Prop} (h : RefAt w q Ws n J) :
    Calls Try.prog 39 #[.pointer (some ⟨q, 0, none⟩)] w fun e w' => ∃ v, e = .returned v ∧ (w.ownsRow 0 68 2 v (nowN Ws).length (nams (nowN Ws)) ∧ ∀ g, v.ownBlock = some g → J g) ∧ Below w.heap.size w w' := by
  obtain ⟨av, vs, h1, h2, h3, h4, h5, h6⟩ := h.it
  have hs := h.some
  obtain ⟨v, k1, k2, k3⟩ := h6 (Ws.length - 1) (by omega)
  rw [← nowN_at hs] at k2
  obtain ⟨g, c, rfl, hc1, hc2, hlt, hcell⟩ := was_cells h2 h3 hs
  have k0 := hcell _ (by omega) _ k1
  have c0 : w.cell? ⟨q, 0, none⟩ = some (.slice (some ⟨g, 0, none⟩) Ws.length c) := by rw [cell_of_row w q 0 _ 59 (0, 0) h1]; rfl
  have HV := Lib.hid (And.intro k2 k3)
  obtain ⟨i, hi⟩ : ∃ i, Ws.length = i + 1 := ⟨Ws.length - 1, by omega⟩
  rw [hi] at c0
  rw [show Ws.length - 1 = i by omega] at k0
  have hsm := h.small.1
  have e1 : ((i + 1 : Nat) : Int) - 1 = (i : Int) := by omega
  have e2 : IntKind.i64.wrap (i : Int) = (i : Int) := IntWalk.i64_in _ ⟨by omega, by omega⟩
  clear k2 k3 hcell h6 h5 h4 h2 h1 h k1 h3
  go_enter Try.func39, Try.ntmps39
  have gc := fun d os => cell_regrown c0 d os
  have gk := fun d os => cell_regrown k0 d os
  go_upto_region 1 with fail
  refine wp_region_quiet_below (by kernel_rfl) (by kernel_rfl) ?_
  repeat (go_big_quiet_step (fail))
  refine wpQuiet_nil ?_
  intro _ hw'
  obtain ⟨⟨dq, osq⟩, hw''⟩ := hw'
  subst hw''
  have HB7 := Lib.hid (below_regrown w dq osq)
  generalize Sort.grow (redrawn w dq) osq = w7 at HB7 ⊢
  clear gc gk c0 k0
  go_wp2
  go_ret
  exact ⟨_, rfl, HV.out, HB7.out⟩
end Go.Proofs.Ytfjgefnklelnnaa

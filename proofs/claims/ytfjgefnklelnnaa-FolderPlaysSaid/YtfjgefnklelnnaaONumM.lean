/-
  FolderNumbers: the map of the numbers that were seen; what an act leaves of the greatest number.
-/
import Derived.Test.YtfjgefnklelnnaaOApart
import Derived.Maps.OwnOps
import Derived.Maps.OwnSet
import Derived.Laws.Cover1
import Derived.Sort.Walk0
namespace Go.Proofs.Ytfjgefnklelnnaa
open Go.RowKit Go.Shelf

theorem keyI : Maps.Keyed Try.prog 3 := Maps.int_keyed Try.underlying3

/-- Block m is a map in which no other numbers stand than those of the first j names. -/
def Seen (w : World) (m : Nat) (L : Names) (j : Nat) : Prop :=
  ∃ D : DataW Unit, w.ownsMap Try.prog 3 (plainElem Try.prog 3) m j D ∧ ∀ x : Nat, (∀ p ∈ L.take j, p.2 ≠ x) → D.atKey (.int .i64 (x : Int)) (.lit (.int .i64 0)) = .lit (.int .i64 0)

theorem seen_made (w : World) (L : Names) : Seen (w.alloc (.map #[] 0)) w.heap.size L 0 := ⟨_, World.ownsMap_made _ _ _ _, fun _ _ => rfl⟩
theorem Seen.same {w w' : World} {m j : Nat} {L : Names} (h : Seen w m L j) (he : w'.heap[m]? = w.heap[m]?) : Seen w' m L j := by
  obtain ⟨D, ⟨es, clock, hb, F, hs, hD⟩, h2⟩ := h
  exact ⟨D, ⟨es, clock, he.trans hb, F, hs, hD⟩, h2⟩
theorem Seen.lt {w : World} {m j : Nat} {L : Names} (h : Seen w m L j) : m < w.heap.size := by
  obtain ⟨D, h1, _⟩ := h
  exact h1.lt
theorem Seen.look {w : World} {m j : Nat} {L : Names} (h : Seen w m L j) (x : Nat) (hx : x ≤ 1000000) (hn : ∀ p ∈ L.take j, p.2 ≠ x) :
    (Instr.lookup 49 (.map (some m)) (.int .i64 (x : Int)) false).run Try.prog w = .ok (.int .i64 0) w := by
  obtain ⟨D, h1, h2⟩ := h
  obtain ⟨c, hrun, hat, _⟩ := h1.lookup_int keyI Try.underlying49 Try.underlying3 (zero3 w) (Maps.keyOf_int_mk Try.underlying3 (a := (x : Int)) (WalkArith.wf_i64 (by omega)))
  rw [h2 x hn] at hat
  cases hat
  exact hrun
theorem Seen.put {w : World} {m j : Nat} {L : Names} (h : Seen w m L j) (hj : j < L.length) (hj2 : j ≤ 1000000) (x : Nat) (hx : x ≤ 1000000) (hn : L[j].2 = x) :
    ∃ w', (Instr.mapUpdate 49 (.map (some m)) (.int .i64 (x : Int)) (.int .i64 1)).run Try.prog w = .ok () w' ∧ Seen w' m L (j + 1) ∧ w.grownBy w' (some m) := by
  obtain ⟨D, h1, h2⟩ := h
  obtain ⟨w', k1, k2, k3⟩ := h1.update keyI Try.underlying49 (by unfold maxLen; omega) (Maps.keyOf_int_mk Try.underlying3 (a := (x : Int)) (WalkArith.wf_i64 (by omega))) (plainElem_int Try.underlying3 (a := (1 : Int)) (by decide))
  refine ⟨w', k1, ⟨_, k2, fun y hy => ?_⟩, k3⟩
  have hne : y ≠ x := fun e => hy L[j] (by rw [List.take_succ_eq_append_getElem hj]; exact List.mem_append.2 (.inr (List.mem_singleton.2 rfl))) (by rw [hn, e])
  rw [Maps.atKey_put_other (by intro e; injection e with _ e; exact hne (by omega))]
  exact h2 y fun p hp => hy p (by rw [List.take_succ_eq_append_getElem hj]; exact List.mem_append.2 (.inl hp))

section
variable (w : World) {ops : Array Oper} {rest : List Oper} {o : Oper} {a : Act} {Q : Exit → Act → World → Prop}
theorem wpList_put_seen (hg : o.guard = none) (mm x v : Operand) (hop : o.op = Op.mapUpdate 49 mm x v) (m : Nat) (L : Names) (j n : Nat)
    (hm : a.eval mm = .map (some m)) (hx : a.eval x = .int .i64 (n : Int)) (hv : a.eval v = .int .i64 1) (h : Seen w m L j) (hj : j < L.length) (hj2 : j ≤ 1000000) (hn : n ≤ 1000000) (hL : L[j].2 = n)
    (hK : ∀ w', Seen w' m L (j + 1) → w.grownBy w' (some m) → wpList Try.prog ops Q rest (a.put o.dst undef) w') : wpList Try.prog ops Q (o :: rest) a w := by
  refine wpList_plain hg fun K' hK' => ?_
  obtain ⟨w', hrun, r1, r2⟩ := h.put hj hj2 n hn hL
  unfold Oper.wp
  simp [execOp, hop, hm, hx, hv, hrun, Result.andThen]
  exact hK' _ _ (hK w' r1 r2)
end

/-- A list that is good: a name's number stands at no earlier one; its text lies behind the one before. -/
theorem good_fresh {L : Names} {n j : Nat} (h : GoodN L n) (hj : j < L.length) : ∀ p ∈ L.take j, p.2 ≠ L[j].2 := fun p hp e => by
  obtain ⟨i, hi, rfl⟩ := List.mem_iff_getElem.1 hp
  rw [List.length_take] at hi
  have hij : i < j := by omega
  rw [List.getElem_take] at e
  have h2 := h.one L[i] (List.getElem_mem _) L[j] (List.getElem_mem _) e
  have h3 : L[i].1 < L[j].1 := List.pairwise_iff_getElem.1 h.rising i j (by omega) hj hij
  rw [h2] at h3
  exact lt_irrefl' _ h3
theorem good_found {L : Names} {n j : Nat} (h : GoodN L n) (hj : j < L.length) : foundN L L[j].1 = L[j].2 ∧ foundB L L[j].1 = true := by
  have h2 : findT L L[j].1 = some L[j].2 := (find_some h.rising).2 (List.getElem_mem _)
  exact ⟨foundN_of h2, foundB_of h2⟩
theorem good_next {L : Names} {n j : Nat} (h : GoodN L n) (hj : j + 1 < L.length) : L[j].1 < L[j + 1].1 := List.pairwise_iff_getElem.1 h.rising j (j + 1) (by omega) hj (by omega)
theorem leq_false {a b : ByteArray} (h : a.data.toList < b.data.toList) : (Op.bytesLess b.toList a.toList || b.toList == a.toList) = false := by
  rw [bytesLess_eq, Lib.toList_data, Lib.toList_data, decide_eq_false fun h' => lt_irrefl' _ (lt_trans' h h')]
  have h2 : (b.data.toList == a.data.toList) = false := by
    rw [beq_eq_false_iff_ne]
    intro e
    rw [e] at h
    exact lt_irrefl' _ h
  rw [h2]
  rfl

/-- The cells of a row of names. -/
theorem row_cells {w : World} {base : Nat} {ad : Option Addr} {c : Nat} {L : Names} (h : w.ownsRow base 9 1 (.slice ad L.length c) L.length ((textsOf L).map Value.string)) (hp : 0 < L.length) :
    ∃ g, ad = some ⟨g, 0, none⟩ ∧ ∀ W, Below w.heap.size w W → ∀ (j : Nat) (hj : j < L.length), W.cell? ⟨g, j, none⟩ = some (.string (strO L[j].1)) := by
  rcases h.2 with ⟨_, h0⟩ | ⟨g, cap, cur, hs, _, hh, hc1, _, _, ht⟩
  · omega
  · cases hs
    refine ⟨g, rfl, fun W hW j hj => ?_⟩
    rw [hW.cell (p := ⟨g, j, none⟩) (Array.getElem?_eq_some_iff.1 hh).1]
    rw [cell_of_row w g j cur 9 (0, 0) hh, ← Array.getElem?_toList]
    have hx : ((textsOf L).map Value.string)[j]? = some (.string (strO L[j].1)) := by simp [textsOf, hj]
    rw [← ht, List.getElem?_take] at hx
    split at hx
    · exact hx
    · cases hx

theorem does_n (S : FS) (x a b : Nat) (hx : x % 3 ≠ 0) : (S.does x a b).n = S.n := by
  unfold FS.does
  rw [if_neg hx]
  split
  · unfold FS.rename
    split
    · rfl
    · split <;> rfl
  · unfold FS.remove
    split <;> rfl
/-- What a creation tells: no error, and the next number; or an error, and none. -/
theorem create_n (S : FS) (s : ByteArray) : ((S.create s).2.2 = 0 ∧ (S.create s).2.1 = S.n + 1 ∧ (S.create s).1.n = S.n + 1) ∨ (((S.create s).2.2 = 2 ∨ (S.create s).2.2 = 8) ∧ (S.create s).2.1 = 0 ∧ (S.create s).1.n = S.n) := by
  unfold FS.create
  split
  · exact .inr ⟨.inl rfl, rfl, rfl⟩
  · split
    · exact .inr ⟨.inr rfl, rfl, rfl⟩
    · exact .inl ⟨rfl, rfl, rfl⟩
end Go.Proofs.Ytfjgefnklelnnaa

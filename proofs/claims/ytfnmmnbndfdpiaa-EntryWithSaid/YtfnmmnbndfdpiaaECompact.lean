/-
  Of a sorted row of entries each word once: the library's CompactFunc.
-/
import Derived.Test.YtfnmmnbndfdpiaaEEnts
import Derived.Test.YtfnmmnbndfdpiaaESort4
namespace Go.Proofs.Ytfnmmnbndfdpiaa
open Go.RowKit Go.Sort

/-- A row of the function's own: these entries, and room to write. -/
def RowW (W : World) (g : Nat) (l : List Ent) : Prop := (∀ i, i < l.length → EntAt W g (i * 3) (ent l i)) ∧ ∀ o, o < l.length * 3 → W.frozen? ⟨g, o, none⟩ = false

theorem RowW.below {W W' : World} {g : Nat} {l : List Ent} (h : RowW W g l) (hg : g < W.heap.size) (hb : RowKit.Below W.heap.size W W') : RowW W' g l :=
  ⟨fun i hi => (h.1 i hi).below hb, fun o ho => by rw [hb.frozen (p := ⟨g, o, none⟩) hg]; exact h.2 o ho⟩

theorem RowW.ents {W : World} {g c : Nat} {l : List Ent} (h : RowW W g l) : Ents W (.slice (some ⟨g, 0, none⟩) l.length c) l :=
  ⟨_, c, rfl, fun i hi => ⟨g, 0, rfl, by rw [Nat.zero_add]; exact h.1 i hi⟩⟩

theorem ent_set (l : List Ent) (i j : Nat) (x : Ent) (hj : j < l.length) : ent (l.set i x) j = if i = j then x else ent l j := by
  rw [ent_lt (by simpa using hj), ent_lt hj, List.getElem_set]

/-- An entry stored into the row. -/
theorem RowW.set {W : World} {g : Nat} {l : List Ent} (h : RowW W g l) (i : Nat) (hi : i < l.length) (x : Ent) :
    RowW (((W.setCell ⟨g, i * 3, none⟩ (.string x.word)).setCell ⟨g, i * 3 + 1, none⟩ (.int .u32 (x.weight : Int))).setCell ⟨g, i * 3 + 2, none⟩ (.bool x.gone)) g (l.set i x) := by
  constructor
  · intro j hj
    rw [List.length_set] at hj
    rw [ent_set l i j x hj]
    by_cases e : i = j
    · subst e
      rw [if_pos rfl]
      obtain ⟨h1, h2, h3⟩ := h.1 i hi
      have a1 : (W.setCell ⟨g, i * 3, none⟩ (.string x.word)).cell? ⟨g, i * 3, none⟩ = some (.string x.word) := World.cell?_setCell_same _ _ _ h1
      have a2 : (W.setCell ⟨g, i * 3, none⟩ (.string x.word)).cell? ⟨g, i * 3 + 1, none⟩ = some (.int .u32 ((ent l i).weight : Int)) := by rw [World.cell?_setCell_other (h := by simp)]; exact h2
      have a3 : (W.setCell ⟨g, i * 3, none⟩ (.string x.word)).cell? ⟨g, i * 3 + 2, none⟩ = some (.bool (ent l i).gone) := by rw [World.cell?_setCell_other (h := by simp)]; exact h3
      have b1 : ((W.setCell ⟨g, i * 3, none⟩ (.string x.word)).setCell ⟨g, i * 3 + 1, none⟩ (.int .u32 (x.weight : Int))).cell? ⟨g, i * 3, none⟩ = some (.string x.word) := by rw [World.cell?_setCell_other (h := by simp)]; exact a1
      have b2 : ((W.setCell ⟨g, i * 3, none⟩ (.string x.word)).setCell ⟨g, i * 3 + 1, none⟩ (.int .u32 (x.weight : Int))).cell? ⟨g, i * 3 + 1, none⟩ = some (.int .u32 (x.weight : Int)) := World.cell?_setCell_same _ _ _ a2
      have b3 : ((W.setCell ⟨g, i * 3, none⟩ (.string x.word)).setCell ⟨g, i * 3 + 1, none⟩ (.int .u32 (x.weight : Int))).cell? ⟨g, i * 3 + 2, none⟩ = some (.bool (ent l i).gone) := by rw [World.cell?_setCell_other (h := by simp)]; exact a3
      exact ⟨by rw [World.cell?_setCell_other (h := by simp)]; exact b1, by rw [World.cell?_setCell_other (h := by simp)]; exact b2, World.cell?_setCell_same _ _ _ b3⟩
    · rw [if_neg e]
      have hcell : ∀ c, c < 3 → (((W.setCell ⟨g, i * 3, none⟩ (.string x.word)).setCell ⟨g, i * 3 + 1, none⟩ (.int .u32 (x.weight : Int))).setCell ⟨g, i * 3 + 2, none⟩ (.bool x.gone)).cell? ⟨g, j * 3 + c, none⟩ = W.cell? ⟨g, j * 3 + c, none⟩ := fun c hc => by
        rw [World.cell?_setCell_other (h := by simp; try omega), World.cell?_setCell_other (h := by simp; try omega), World.cell?_setCell_other (h := by simp; try omega)]
      exact entAt_of fun c hc => by rw [hcell c hc]; exact (h.1 j hj).get c hc
  · intro o ho
    rw [List.length_set] at ho
    rw [World.frozen?_setCell, World.frozen?_setCell, World.frozen?_setCell]
    exact h.2 o ho

theorem RowW.below3 {B : Nat} {w W : World} {g i : Nat} (hb : RowKit.Below B w W) (hg : B ≤ g) (x : Ent) :
    RowKit.Below B w (((W.setCell ⟨g, i * 3, none⟩ (.string x.word)).setCell ⟨g, i * 3 + 1, none⟩ (.int .u32 (x.weight : Int))).setCell ⟨g, i * 3 + 2, none⟩ (.bool x.gone)) :=
  ((hb.setCell (p := ⟨g, i * 3, none⟩) hg _).setCell (p := ⟨g, i * 3 + 1, none⟩) hg _).setCell (p := ⟨g, i * 3 + 2, none⟩) hg _

/-- Out of the sort's words. -/
theorem rowW_of_holds {W : World} {g : Nat} {d : Array Ent} (h : HoldsK enc 3 W g 0 d) : RowW W g d.toList := by
  constructor
  · intro i hi
    have hi' : i < d.size := by simpa using hi
    have he : ent d.toList i = d[i]! := by rw [ent_lt hi]; simp [hi']
    refine entAt_of fun c hc => ?_
    have := (h.cell hi' hc).1
    rw [Nat.zero_add] at this
    rw [this, he, getElem!_pos (enc d[i]!) c (by simp [enc]; omega), List.getElem?_eq_getElem (by simp [enc]; omega)]
  · intro o ho
    have ho' : o / 3 < d.size := by simp at ho; omega
    have := (h.cell ho' (show o % 3 < 3 by omega)).2
    rwa [Nat.zero_add, show o / 3 * 3 + o % 3 = o by omega] at this

theorem below_setCells {B : Nat} {w : World} {g : Nat} (hg : B ≤ g) : ∀ (vs : List Value) (o : Nat) (W : World), RowKit.Below B w W → RowKit.Below B w (W.setCells g o vs)
  | [], _, _, h => h
  | v :: r, o, _, h => below_setCells hg r (o + 1) _ (h.setCell (p := ⟨g, o, none⟩) hg v)

/-- clear, of entries. -/
theorem run_clear3 (w : World) (b o n c : Nat) (hn : 0 < n) (hc : ∀ j, j < n * 3 → (w.cell? ⟨b, o + j, none⟩).isSome = true) (hf : ∀ j, j < n * 3 → w.frozen? ⟨b, o + j, none⟩ = false) :
    ∃ zs : List Value, ∀ ty : TypeId, (Builtin.clear_ #[37] ty #[.slice (some ⟨b, o, none⟩) n c]).run Try.prog w = .ok (.tuple #[]) (w.setCells b o zs) := by
  refine ⟨(Builtin.zeroCells (Value.agg #[.string ⟨#[]⟩, .int .u32 0, .bool false]).cells n).toList, fun ty => ?_⟩
  have hlen : (Builtin.zeroCells (Value.agg #[.string ⟨#[]⟩, .int .u32 0, .bool false]).cells n).toList.length = n * 3 := by simp [Builtin.zeroCells, Value.cells]
  have hst := run_storeCells_cells (P := Try.prog) b o (Builtin.zeroCells (Value.agg #[.string ⟨#[]⟩, .int .u32 0, .bool false]).cells n).toList 0 w (by rw [hlen]; simpa using hc) (by rw [hlen]; simpa using hf) (by
    intro v hv
    simp only [Builtin.zeroCells, Array.toList_map, List.mem_map] at hv
    obtain ⟨i, _, rfl⟩ := hv
    have h3 : i % (Value.agg #[.string ⟨#[]⟩, .int .u32 0, .bool false]).cells.size < 3 := Nat.mod_lt _ (by decide)
    generalize i % (Value.agg #[.string ⟨#[]⟩, .int .u32 0, .bool false]).cells.size = q at h3
    rcases (show q = 0 ∨ q = 1 ∨ q = 2 by omega) with rfl | rfl | rfl <;> rfl)
  simp only [Nat.add_zero] at hst
  obtain ⟨m, rfl⟩ : ∃ m, n = m + 1 := ⟨n - 1, by omega⟩
  simp [Builtin.clear_, run_underlying Try.underlying37, Try.zeroValue24, hst]

theorem onceE_none {l : List Ent} : ∀ k, k ≤ l.length → (∀ j, 0 < j → j < k → key (ent l j) ≠ key (ent l (j - 1))) → onceE (l.take k) = l.take k
  | 0, _, _ => rfl
  | 1, h, _ => by
    cases l with
    | nil => rfl
    | cons x l => rfl
  | k + 2, h, hd => by
    have ih := onceE_none (l := l) (k + 1) (by omega) fun j h1 h2 => hd j h1 (by omega)
    have h1 := onceE_next l (k + 1) (by omega) (by omega)
    have h2 := hd (k + 1) (by omega) (by omega)
    rw [ent_lt (by omega), ent_lt (by omega)] at h2
    rw [h1, if_neg h2, ih]
    exact (List.take_succ_eq_append_getElem (by omega)).symm

theorem onceE_step {l : List Ent} {k : Nat} (h0 : 0 < k) (hk : k < l.length) : onceE (l.take (k + 1)) = if key (ent l k) = key (ent l (k - 1)) then onceE (l.take k) else onceE (l.take k) ++ [ent l k] := by
  rw [ent_lt hk, ent_lt (by omega)]
  exact onceE_next l k h0 hk

/-- Where the inner loop stands: what was kept stands ahead, the rest is as it was. -/
structure Kept (d : List Ent) (m kk : Nat) (dk : List Ent) : Prop where
  len : dk.length = d.length
  lt : kk < m
  done : dk.take kk = onceE (d.take m)
  rest : ∀ i, m - 1 ≤ i → i < d.length → ent dk i = ent d i

theorem Kept.skip {d dk : List Ent} {m kk : Nat} (h : Kept d m kk dk) (hm : m < d.length) (h0 : 0 < m) (e : key (ent d m) = key (ent d (m - 1))) : Kept d (m + 1) kk dk :=
  ⟨h.len, by have := h.lt; omega, by rw [onceE_step h0 hm, if_pos e]; exact h.done, fun i h1 h2 => h.rest i (by omega) h2⟩

theorem Kept.keep {d dk : List Ent} {m kk : Nat} (h : Kept d m kk dk) (hm : m < d.length) (h0 : 0 < m) (e : key (ent d m) ≠ key (ent d (m - 1))) : Kept d (m + 1) (kk + 1) (dk.set kk (ent d m)) := by
  have hlt := h.lt
  have hl := h.len
  refine ⟨by rw [List.length_set]; exact h.len, by omega, ?_, fun i h1 h2 => ?_⟩
  · rw [onceE_step h0 hm, if_neg e, ← h.done, List.take_succ_eq_append_getElem (by rw [List.length_set]; omega)]
    congr 1
    · rw [List.take_set_of_le (Nat.le_refl _)]
    · simp
  · rw [ent_set _ _ _ _ (by omega), if_neg (by omega)]
    exact h.rest i (by omega) h2
end Go.Proofs.Ytfnmmnbndfdpiaa

/-
  What came in: rows of entries, opened.
-/
import Derived.Test.YtclaadiclgfbmaaG24
import Derived.ProofKit
import Derived.OpenShut
import Derived.Lib.SmallJoins
import Derived.Deep.Slices
import Derived.Deep.Strs
import Derived.Deep.Fields
set_option linter.unusedVariables false
set_option linter.unusedSimpArgs false
namespace Go.Proofs.Ytclaadiclgfbmaa
open Go.ChangeShapes Go.WideShapes Go.ChangeAt Go.RowKit Go.Deep Go.Joins

theorem laidOut : laidOutB Try.prog = true := by kernel_rfl

section
variable {H : Type} {enc : TypeId × Value → H} {P : Program} {w : World} {base : Nat} {spare : Nat → Bool} {held : Bool}
/-- A slice of structs of three cells: each element's cells, and what each of them reads as. -/
theorem slice_three {t e : TypeId} {f0 f1 f2 : Field} {fuel : Nat} {a0 : Option Addr} {len cap : Nat} {x : DataW H × List MemPlace} (ht : P.underlying t = some (.slice e)) (he : P.underlying e = some (.struct #[f0, f1, f2]))
    (hone : oneCellFields P #[f0, f1, f2] = true) (hC : P.cellsOf e = 3) (h : DataW.trod enc P w base spare held fuel t [.slice a0 len cap] = some x) :
    len ≤ cap ∧ cap ≤ maxLen ∧ ∀ i, i < len → ∃ (b o : Nat) (v0 v1 v2 : Value) (y0 y1 y2 : DataW H × List MemPlace) (n : Nat), a0 = some ⟨b, o, none⟩ ∧
      w.cell? ⟨b, o + i * 3, none⟩ = some v0 ∧ w.cell? ⟨b, o + i * 3 + 1, none⟩ = some v1 ∧ w.cell? ⟨b, o + i * 3 + 2, none⟩ = some v2 ∧
      DataW.trod enc P w base spare held n f0.type [v0] = some y0 ∧ DataW.trod enc P w base spare held n f1.type [v1] = some y1 ∧ DataW.trod enc P w base spare held n f2.type [v2] = some y2 := by
  rcases open_slice ht h with ⟨hcs, _⟩ | ⟨a, len', cap', m, n, D, Pl, hcs, _, hl, hm, hmm, _, hi⟩
  · simp at hcs
    obtain ⟨rfl, rfl, rfl⟩ := hcs
    exact ⟨Nat.le_refl _, Nat.zero_le _, fun i h => by omega⟩
  · simp at hcs
    obtain ⟨rfl, rfl, rfl⟩ := hcs
    refine ⟨hl, hm, fun i hlt => ?_⟩
    have him : i < m := by rw [hmm]; split <;> omega
    obtain ⟨cs, hc, htr⟩ := hi i him
    rw [hC] at hc
    obtain ⟨_, hlen, hcell⟩ := World.cells?_some hc
    match cs, hlen with
    | [c0, c1, c2], _ =>
      obtain ⟨y0, y1, y2, n', _, _, h0, h1, h2⟩ := trod_struct3 he htr
      obtain ⟨o0, k0⟩ := hone_of hone 0 f0 rfl
      obtain ⟨o1, k1⟩ := hone_of hone 1 f1 rfl
      obtain ⟨o2, k2⟩ := hone_of hone 2 f2 rfl
      have e0 := hcell 0 (by omega)
      have e1 := hcell 1 (by omega)
      have e2 := hcell 2 (by omega)
      simp only [List.getElem?_cons_zero, List.getElem?_cons_succ] at e0 e1 e2
      obtain ⟨b, o, spot⟩ := a
      have hspot : spot = none := by
        obtain ⟨cs', hc', _⟩ := hi 0 (by omega)
        rw [hC] at hc'
        obtain ⟨_, hlen', hcell'⟩ := World.cells?_some hc'
        have h0' := hcell' 0 (by omega)
        rw [List.getElem?_eq_getElem (by omega)] at h0'
        simpa [Addr.add] using World.cell?_spot h0'
      subst hspot
      rw [Addr.add_lit, Addr.add_lit] at e0 e1 e2
      exact ⟨b, o, c0, c1, c2, y0, y1, y2, n', rfl, e0, e1, e2, by simpa [o0, k0] using h0, by simpa [o1, k1] using h1, by simpa [o2, k2] using h2⟩
end

set_option maxRecDepth 100000 in
/-- A row of entries. -/
theorem ents_of_trod {H : Type} {enc : TypeId × Value → H} {W : World} {fuel : Nat} {a0 : Option Addr} {len cap : Nat} {x : DataW H × List MemPlace} (h : DataW.trod enc Try.prog W 0 (fun _ => true) true fuel 22 [.slice a0 len cap] = some x) :
    ∃ l : List Ent, Ents W (.slice a0 len cap) l ∧ l.length ≤ 9223372036854775807 ∧ ∀ y ∈ l, y.word.size ≤ 9223372036854775807 := by
  obtain ⟨hl, hm, hi⟩ := slice_three Try.underlying22 Try.underlying33 (by kernel_rfl) (by kernel_rfl) h
  unfold maxLen at hm
  obtain ⟨f, hf⟩ := choose_lt (α := Ent) (n := len) (p := fun i d => d.word.size ≤ 9223372036854775807 ∧ ∃ b o, a0 = some ⟨b, o, none⟩ ∧ EntAt W b (o + i * 3) d) (fun i hlt => by
    obtain ⟨b, o, v0, v1, v2, y0, y1, y2, n, ha, c0, c1, c2, h0, h1, h2⟩ := hi i hlt
    obtain ⟨s, q0, rfl, z0⟩ := DataW.trod_string Try.underlying9 h0
    obtain ⟨k, q1, rfl, w1⟩ := DataW.trod_int Try.underlying31 h1
    obtain ⟨g, q2, rfl⟩ := DataW.trod_bool Try.underlying4 h2
    simp at q0 q1 q2
    subst q0 q1 q2
    have b1 := bounds_u32 w1
    unfold maxLen at z0
    have m1 : ((k.toNat : Nat) : Int) = k := by omega
    refine ⟨⟨s, k.toNat, g⟩, z0, b, o, ha, c0, ?_, c2⟩
    show _ = some (Value.int .u32 ((k.toNat : Nat) : Int))
    rw [m1, c1])
  have hlen : ((List.range len).map f).length = len := by simp
  refine ⟨(List.range len).map f, ⟨a0, cap, by rw [hlen], fun i hlt => ?_⟩, by rw [hlen]; omega, fun y hy => ?_⟩
  · rw [hlen] at hlt
    rw [show ent ((List.range len).map f) i = f i by simp [ent, List.getD, hlt]]
    exact (hf i hlt).2
  · obtain ⟨i, hr, rfl⟩ := List.mem_map.1 hy
    exact (hf i (List.mem_range.1 hr)).1
end Go.Proofs.Ytclaadiclgfbmaa

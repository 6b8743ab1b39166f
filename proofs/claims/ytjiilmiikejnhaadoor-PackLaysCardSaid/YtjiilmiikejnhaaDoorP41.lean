/-
  Drafts that came in, opened.
-/
import Derived.Test.YtjiilmiikejnhaaDoorP39
import Derived.OpenShut
import Derived.ProofKit
import Derived.Lib.SmallJoins
import Derived.Deep.Slices
import Derived.Deep.Strs
import Derived.Deep.Fields
set_option linter.unusedVariables false
set_option linter.unusedSimpArgs false
namespace Go.Proofs.YtjiilmiikejnhaaDoor.Ev
open Go.ChangeShapes Go.WideShapes Go.ChangeAt Go.RowKit Go.Deep

section
variable {H : Type} {enc : TypeId × Value → H} {P : Program} {w : World} {base : Nat} {spare : Nat → Bool} {held : Bool}
/-- A slice of structs of three cells: each element's cells, and what each of them reads as. -/
theorem slice_three {t e : TypeId} {f0 f1 f2 : Field} {fuel : Nat} {a0 : Option Addr} {len cap : Nat} {x : DataW H × List MemPlace} (ht : P.underlying t = some (.slice e)) (he : P.underlying e = some (.struct #[f0, f1, f2]))
    (hone : oneCellFields P #[f0, f1, f2] = true) (hC : P.cellsOf e = 3) (h : DataW.trod enc P w base spare held fuel t [.slice a0 len cap] = some x) :
    len ≤ cap ∧ cap ≤ maxLen ∧ ∀ i, i < len → ∃ (b o : Nat) (v0 v1 v2 : Value) (y0 y1 y2 : DataW H × List MemPlace) (n : Nat), a0 = some ⟨b, o, none⟩ ∧
      w.cell? ⟨b, o + i * 3, none⟩ = some v0 ∧ w.cell? ⟨b, o + i * 3 + 1, none⟩ = some v1 ∧ w.cell? ⟨b, o + i * 3 + 2, none⟩ = some v2 ∧
      DataW.trod enc P w base spare held n f0.type [v0] = some y0 ∧ DataW.trod enc P w base spare held n f1.type [v1] = some y1 ∧ DataW.trod enc P w base spare held n f2.type [v2] = some y2 := by
  rcases open_slice ht h with ⟨hcs, _⟩ | ⟨a, len', cap', m, n, D, Pl, hcs, _, hl, hm, hmm, _, hi⟩
  · simp at hcs
    obtain ⟨rfl, rfl, rfl⟩ := hcs
    exact ⟨Nat.le_refl _, Nat.zero_le _, fun i h => by omega⟩
  · simp at hcs
    obtain ⟨rfl, rfl, rfl⟩ := hcs
    refine ⟨hl, hm, fun i hlt => ?_⟩
    have him : i < m := by rw [hmm]; split <;> omega
    obtain ⟨cs, hc, htr⟩ := hi i him
    rw [hC] at hc
    obtain ⟨_, hlen, hcell⟩ := World.cells?_some hc
    match cs, hlen with
    | [c0, c1, c2], _ =>
      obtain ⟨y0, y1, y2, n', _, _, h0, h1, h2⟩ := trod_struct3 he htr
      obtain ⟨o0, k0⟩ := hone_of hone 0 f0 rfl
      obtain ⟨o1, k1⟩ := hone_of hone 1 f1 rfl
      obtain ⟨o2, k2⟩ := hone_of hone 2 f2 rfl
      have e0 := hcell 0 (by omega)
      have e1 := hcell 1 (by omega)
      have e2 := hcell 2 (by omega)
      simp only [List.getElem?_cons_zero, List.getElem?_cons_succ] at e0 e1 e2
      obtain ⟨b, o, spot⟩ := a
      have hspot : spot = none := by
        obtain ⟨cs', hc', _⟩ := hi 0 (by omega)
        rw [hC] at hc'
        obtain ⟨_, hlen', hcell'⟩ := World.cells?_some hc'
        have h0' := hcell' 0 (by omega)
        rw [List.getElem?_eq_getElem (by omega)] at h0'
        simpa [Addr.add] using World.cell?_spot h0'
      subst hspot
      rw [Addr.add_lit, Addr.add_lit] at e0 e1 e2
      exact ⟨b, o, c0, c1, c2, y0, y1, y2, n', rfl, e0, e1, e2, by simpa [o0, k0] using h0, by simpa [o1, k1] using h1, by simpa [o2, k2] using h2⟩
end

theorem cells5 : Tryd.prog.cellsOf 5 = 1 := by kernel_rfl

set_option maxRecDepth 100000 in
/-- Bytes that came in. -/
theorem nums8_of_trod {H : Type} {enc : TypeId × Value → H} {W : World} {fuel : Nat} {v : Value} {x : DataW H × List MemPlace} (h : DataW.trod enc Tryd.prog W 0 (fun _ => true) true fuel 43 [v] = some x) :
    ∃ l : List Nat, l.length ≤ 9223372036854775807 ∧ (∀ c ∈ l, c < 256) ∧ Nums8 W v l := by
  rcases open_ints Tryd.underlying43 Tryd.underlying5 cells5 h with ⟨hcs, _⟩ | ⟨a, len, cap, zs, hcs, _, hl, hm, hz, _, hcell, hwz⟩
  · simp at hcs
    subst hcs
    exact ⟨[], by simp, by simp, none, 0, rfl, fun i hi => by simp at hi⟩
  · simp at hcs
    subst hcs
    simp only [if_true] at hz
    have hnum : ∀ i, i < zs.length → zs.getD i 0 = (((zs.getD i 0).toNat : Nat) : Int) ∧ (zs.getD i 0).toNat < 256 := fun i hi => by
      have := bounds_u8 (hwz (zs.getD i 0) (by simp [List.getD, hi]))
      omega
    have hlen : ((zs.take len).map Int.toNat).length = len := by simp; omega
    unfold maxLen at hm
    refine ⟨(zs.take len).map Int.toNat, by omega, ?_, some a, cap, by rw [hlen], ?_⟩
    · intro n hn
      obtain ⟨i, hi, rfl⟩ := List.getElem_of_mem hn
      rw [hlen] at hi
      have := (hnum i (by omega)).2
      simpa [List.getD, show i < zs.length by omega] using this
    · intro i hi
      rw [hlen] at hi
      obtain ⟨b, off, spot⟩ := a
      have hi' : i < zs.length := by omega
      have hspot : spot = none := by simpa [Addr.add] using World.cell?_spot (hcell 0 (by omega))
      subst hspot
      refine ⟨b, off, rfl, ?_⟩
      have hc := hcell i hi'
      rw [(hnum i hi').1, Addr.add_lit] at hc
      have e : ((zs.take len).map Int.toNat).getD i 0 = (zs.getD i 0).toNat := by simp [List.getD, hi', hi]
      rw [e, ← hc]

set_option maxRecDepth 100000 in
/-- A slice of drafts. -/
theorem drafts_of_trod {H : Type} {enc : TypeId × Value → H} {W : World} {fuel : Nat} {a0 : Option Addr} {len cap : Nat} {x : DataW H × List MemPlace} (h : DataW.trod enc Tryd.prog W 0 (fun _ => true) true fuel 26 [.slice a0 len cap] = some x) :
    ∃ l : List Draft, l.length = len ∧ len ≤ 9223372036854775807 ∧ (∀ d ∈ l, d.weight < 4294967296) ∧ Drafts W (.slice a0 len cap) l := by
  obtain ⟨hl, hm, hi⟩ := slice_three Tryd.underlying26 Tryd.underlying138 (by kernel_rfl) (by kernel_rfl) h
  unfold maxLen at hm
  obtain ⟨f, hf⟩ := choose_lt (α := Draft) (n := len) (p := fun i d => d.weight < 4294967296 ∧ ∃ b o, a0 = some ⟨b, o, none⟩ ∧ DraftAt W b (o + i * 3) d) (fun i hlt => by
    obtain ⟨b, o, v0, v1, v2, y0, y1, y2, n, ha, c0, c1, c2, h0, h1, h2⟩ := hi i hlt
    obtain ⟨cs, hcl, hc, hn⟩ := nums8_of_trod h0
    obtain ⟨m, q1, rfl, w1⟩ := DataW.trod_int Tryd.underlying48 h1
    obtain ⟨g, q2, rfl⟩ := DataW.trod_bool Tryd.underlying4 h2
    simp at q1 q2
    subst q1 q2
    have b1 := bounds_u32 w1
    have hm' : ((m.toNat : Nat) : Int) = m := by omega
    refine ⟨⟨cs, m.toNat, g⟩, by show m.toNat < _; omega, b, o, ha, v0, c0, ?_, c2, ⟨⟨v0, rfl, hn⟩, hc⟩, hcl⟩
    show _ = some (Value.int .u32 ((m.toNat : Nat) : Int))
    rw [hm', c1])
  have hlen : ((List.range len).map f).length = len := by simp
  refine ⟨(List.range len).map f, hlen, by omega, fun d hd => ?_, a0, cap, by rw [hlen], fun i hlt => ?_⟩
  · obtain ⟨i, hr, rfl⟩ := List.mem_map.1 hd
    exact (hf i (List.mem_range.1 hr)).1
  · rw [hlen] at hlt
    obtain ⟨_, b, o, ha, hd⟩ := hf i hlt
    refine ⟨b, o, ha, ?_⟩
    rw [show ((List.range len).map f).getD i default = f i by simp [List.getD, hlt]]
    exact hd
end Go.Proofs.YtjiilmiikejnhaaDoor.Ev

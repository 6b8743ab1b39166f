/-
  What came in: rows of the statements' acts, opened.
-/
import Derived.Test.YtmmoilmfpiclgaaGreatT38
import Derived.ProofKit
import Derived.OpenShut
import Derived.Lib.SmallJoins
import Derived.Deep.Slices
import Derived.Deep.Strs
import Derived.Deep.Fields
import Derived.SizedLaws
set_option linter.unusedVariables false
set_option linter.unusedSimpArgs false
namespace Go.Proofs.YtmmoilmfpiclgaaGreat
open Go.ChangeShapes Go.WideShapes Go.ChangeAt Go.RowKit Go.Deep

theorem laidOut : laidOutB Tryz.prog = true := by kernel_rfl

theorem weightsAll_mem {H : Type} {P : Program} {e : TypeId} : ∀ {l : List (DataW H)} {d : DataW H}, d ∈ l → ∀ k, k ∈ d.weights P e → k ∈ DataW.weightsAll P e l
  | c :: l, d, h, k, hk => by
    rw [DataW.weightsAll, List.mem_append]
    rcases List.mem_cons.1 h with rfl | h
    · exact Or.inl hk
    · exact Or.inr (weightsAll_mem h k hk)

section
variable {H : Type} {enc : TypeId × Value → H} {P : Program} {w : World} {base : Nat} {spare : Nat → Bool} {held : Bool}
/-- A slice of structs of six cells: each element's cells, and what each of them reads as. -/
theorem slice_six {t e : TypeId} {f0 f1 f2 f3 f4 f5 : Field} {fuel : Nat} {a0 : Option Addr} {len cap : Nat} {x : DataW H × List MemPlace} (ht : P.underlying t = some (.slice e)) (he : P.underlying e = some (.struct #[f0, f1, f2, f3, f4, f5]))
    (hone : oneCellFields P #[f0, f1, f2, f3, f4, f5] = true) (hC : P.cellsOf e = 6) (h : DataW.trod enc P w base spare held fuel t [.slice a0 len cap] = some x) :
    len ≤ cap ∧ cap ≤ maxLen ∧ ∀ i, i < len → ∃ (b o : Nat) (v0 v1 v2 v3 v4 v5 : Value) (y0 y1 y2 y3 y4 y5 : DataW H × List MemPlace) (n : Nat), a0 = some ⟨b, o, none⟩ ∧
      w.cell? ⟨b, o + i * 6, none⟩ = some v0 ∧ w.cell? ⟨b, o + i * 6 + 1, none⟩ = some v1 ∧ w.cell? ⟨b, o + i * 6 + 2, none⟩ = some v2 ∧ w.cell? ⟨b, o + i * 6 + 3, none⟩ = some v3 ∧ w.cell? ⟨b, o + i * 6 + 4, none⟩ = some v4 ∧ w.cell? ⟨b, o + i * 6 + 5, none⟩ = some v5 ∧
      DataW.trod enc P w base spare held n f0.type [v0] = some y0 ∧ DataW.trod enc P w base spare held n f1.type [v1] = some y1 ∧ DataW.trod enc P w base spare held n f2.type [v2] = some y2 ∧ DataW.trod enc P w base spare held n f3.type [v3] = some y3 ∧ DataW.trod enc P w base spare held n f4.type [v4] = some y4 ∧ DataW.trod enc P w base spare held n f5.type [v5] = some y5 ∧ ∀ k, k ∈ y3.1.weights P f3.type → k ∈ x.1.weights P t := by
  rcases open_slice ht h with ⟨hcs, _⟩ | ⟨a, len', cap', m, n, D, Pl, hcs, _, hl, hm, hmm, hxx, hi⟩
  · simp at hcs
    obtain ⟨rfl, rfl, rfl⟩ := hcs
    exact ⟨Nat.le_refl _, Nat.zero_le _, fun i h => by omega⟩
  · simp at hcs
    obtain ⟨rfl, rfl, rfl⟩ := hcs
    refine ⟨hl, hm, fun i hlt => ?_⟩
    have him : i < m := by rw [hmm]; split <;> omega
    obtain ⟨cs, hc, htr⟩ := hi i him
    have hwt : ∀ k, k ∈ (D i).weights P e → k ∈ x.1.weights P t := fun k hk => by
      rw [hxx]
      simp only [DataW.weights, ht]
      exact List.mem_cons_of_mem _ (List.mem_append_left _ (weightsAll_mem (List.mem_map.2 ⟨i, List.mem_range.2 hlt, rfl⟩) k hk))
    rw [hC] at hc
    obtain ⟨_, hlen, hcell⟩ := World.cells?_some hc
    match cs, hlen with
    | [c0, c1, c2, c3, c4, c5], _ =>
      obtain ⟨xs, n', _, hxd, _, hxl, hf⟩ := DataW.trod_struct he htr
      match xs, hxl with
      | [y0, y1, y2, y3, y4, y5], _ =>
        have hD : D i = .agg [y0.1, y1.1, y2.1, y3.1, y4.1, y5.1] := congrArg Prod.fst hxd
        rw [hD] at hwt
        simp only [DataW.weights, he] at hwt
        have hw3 : ∀ k, k ∈ y3.1.weights P f3.type → k ∈ x.1.weights P t := fun k hk => hwt k (by
          simp only [List.map_cons, List.map_nil, DataW.weightsEach, List.mem_append]
          simp [hk])
        have h0 := hf 0 f0 rfl
        have h1 := hf 1 f1 rfl
        have h2 := hf 2 f2 rfl
        have h3 := hf 3 f3 rfl
        have h4 := hf 4 f4 rfl
        have h5 := hf 5 f5 rfl
        obtain ⟨o0, k0⟩ := hone_of hone 0 f0 rfl
        obtain ⟨o1, k1⟩ := hone_of hone 1 f1 rfl
        obtain ⟨o2, k2⟩ := hone_of hone 2 f2 rfl
        obtain ⟨o3, k3⟩ := hone_of hone 3 f3 rfl
        obtain ⟨o4, k4⟩ := hone_of hone 4 f4 rfl
        obtain ⟨o5, k5⟩ := hone_of hone 5 f5 rfl
        have e0 := hcell 0 (by omega)
        have e1 := hcell 1 (by omega)
        have e2 := hcell 2 (by omega)
        have e3 := hcell 3 (by omega)
        have e4 := hcell 4 (by omega)
        have e5 := hcell 5 (by omega)
        simp only [List.getElem?_cons_zero, List.getElem?_cons_succ] at e0 e1 e2 e3 e4 e5
        obtain ⟨b, o, spot⟩ := a
        have hspot : spot = none := by
          obtain ⟨cs', hc', _⟩ := hi 0 (by omega)
          rw [hC] at hc'
          obtain ⟨_, hlen', hcell'⟩ := World.cells?_some hc'
          have h0' := hcell' 0 (by omega)
          rw [List.getElem?_eq_getElem (by omega)] at h0'
          simpa [Addr.add] using World.cell?_spot h0'
        subst hspot
        rw [Addr.add_lit, Addr.add_lit] at e0 e1 e2 e3 e4 e5
        exact ⟨b, o, c0, c1, c2, c3, c4, c5, y0, y1, y2, y3, y4, y5, n', rfl, e0, e1, e2, e3, e4, e5, by simpa [o0, k0] using h0, by simpa [o1, k1] using h1, by simpa [o2, k2] using h2, by simpa [o3, k3] using h3, by simpa [o4, k4] using h4, by simpa [o5, k5] using h5, hw3⟩
end


set_option maxRecDepth 100000 in
/-- A row of acts. -/
theorem deeds_of_trod {H : Type} {enc : TypeId × Value → H} {W : World} {fuel : Nat} {a0 : Option Addr} {len cap : Nat} {x : DataW H × List MemPlace} (h : DataW.trod enc Tryz.prog W 0 (fun _ => true) true fuel 24 [.slice a0 len cap] = some x) (hx : ∀ k, k ∈ x.1.weights Tryz.prog 24 → k ≤ reachBytes) :
    ∃ l : List Deed, l.length = len ∧ len ≤ 9223372036854775807 ∧ (∀ d ∈ l, d.ok) ∧ Deeds W (.slice a0 len cap) l := by
  obtain ⟨hl, hm, hi⟩ := slice_six Tryz.underlying24 Tryz.underlying35 (by kernel_rfl) (by kernel_rfl) h
  unfold maxLen at hm
  obtain ⟨f, hf⟩ := choose_lt (α := Deed) (n := len) (p := fun i d => d.ok ∧ ∃ b o, a0 = some ⟨b, o, none⟩ ∧ b < W.heap.size ∧ DeedAt W b (o + i * 6) d) (fun i hlt => by
    obtain ⟨b, o, v0, v1, v2, v3, v4, v5, y0, y1, y2, y3, y4, y5, n, ha, c0, c1, c2, c3, c4, c5, h0, h1, h2, h3, h4, h5, hw⟩ := hi i hlt
    obtain ⟨a, q0, rfl, w0⟩ := DataW.trod_int Tryz.underlying5 h0
    obtain ⟨k, q1, rfl, w1⟩ := DataW.trod_int Tryz.underlying5 h1
    obtain ⟨j, q2, rfl, w2⟩ := DataW.trod_int Tryz.underlying5 h2
    obtain ⟨s, q3, rfl, _⟩ := DataW.trod_string Tryz.underlying9 h3
    have z3 : s.size ≤ Fld.nameMax := hx _ (hw _ (by simp [DataW.weights]))
    obtain ⟨m, q4, rfl, w4⟩ := DataW.trod_int Tryz.underlying23 h4
    have hv5 : ∃ ad n c, v5 = .slice ad n c := by
      rcases open_slice Tryz.underlying33 h5 with ⟨hcs, _⟩ | ⟨a, len', cap', m, n, D, Pl, hcs, _⟩
      · simp at hcs
        exact ⟨_, _, _, hcs⟩
      · simp at hcs
        exact ⟨_, _, _, hcs⟩
    simp at q0 q1 q2 q3 q4
    subst q0 q1 q2 q3 q4
    have b0 := bounds_u8 w0
    have b1 := bounds_u8 w1
    have b2 := bounds_u8 w2
    have b4 := bounds_i16 w4
    have m0 : ((a.toNat : Nat) : Int) = a := by omega
    have m1 : ((k.toNat : Nat) : Int) = k := by omega
    have m2 : ((j.toNat : Nat) : Int) = j := by omega
    refine ⟨⟨a.toNat, k.toNat, j.toNat, s, m, v5⟩, ⟨by show a.toNat ≤ _; omega, by show k.toNat ≤ _; omega, by show j.toNat ≤ _; omega, z3, b4.1, b4.2, hv5⟩, b, o, ha, block_lt_of_cell c0, ?_, ?_, ?_, c3, c4, c5⟩
    · show _ = some (Value.int .u8 ((a.toNat : Nat) : Int))
      rw [m0, c0]
    · show _ = some (Value.int .u8 ((k.toNat : Nat) : Int))
      rw [m1, c1]
    · show _ = some (Value.int .u8 ((j.toNat : Nat) : Int))
      rw [m2, c2])
  have hlen : ((List.range len).map f).length = len := by simp
  refine ⟨(List.range len).map f, hlen, by omega, fun d hd => ?_, a0, cap, by rw [hlen], fun i hlt => ?_⟩
  · obtain ⟨i, hr, rfl⟩ := List.mem_map.1 hd
    exact (hf i (List.mem_range.1 hr)).1
  · rw [hlen] at hlt
    obtain ⟨_, b, o, ha, hbl, hd⟩ := hf i hlt
    refine ⟨b, o, ha, hbl, ?_⟩
    rw [show ((List.range len).map f).getD i default = f i by simp [List.getD, hlt]]
    exact hd
end Go.Proofs.YtmmoilmfpiclgaaGreat

/-
  What came in: transducers, opened.
-/
import Derived.Test.YtjiilmiikejnhaaDoorP13
import Derived.ProofKit
import Derived.OpenShut
import Derived.Lib.SmallJoins
import Derived.Deep.Slices
import Derived.Deep.Strs
import Derived.Deep.Fields
set_option linter.unusedVariables false
set_option linter.unusedSimpArgs false
namespace Go.Proofs.YtjiilmiikejnhaaDoor
open Go.ChangeShapes Go.WideShapes Go.ChangeAt Go.RowKit Go.Deep Go.Joins

theorem laidOut : laidOutB Tryd.prog = true := by kernel_rfl

section
variable {H : Type} {enc : TypeId × Value → H} {P : Program} {w : World} {base : Nat} {spare : Nat → Bool} {held : Bool}
/-- A slice of structs of three cells: each element's cells, and what each of them reads as. -/
theorem slice_three {t e : TypeId} {f0 f1 f2 : Field} {fuel : Nat} {a0 : Option Addr} {len cap : Nat} {x : DataW H × List MemPlace} (ht : P.underlying t = some (.slice e)) (he : P.underlying e = some (.struct #[f0, f1, f2]))
    (hone : oneCellFields P #[f0, f1, f2] = true) (hC : P.cellsOf e = 3) (h : DataW.trod enc P w base spare held fuel t [.slice a0 len cap] = some x) :
    len ≤ cap ∧ cap ≤ maxLen ∧ ∀ i, i < len → ∃ (b o : Nat) (v0 v1 v2 : Value) (y0 y1 y2 : DataW H × List MemPlace) (n : Nat), a0 = some ⟨b, o, none⟩ ∧
      w.cell? ⟨b, o + i * 3, none⟩ = some v0 ∧ w.cell? ⟨b, o + i * 3 + 1, none⟩ = some v1 ∧ w.cell? ⟨b, o + i * 3 + 2, none⟩ = some v2 ∧
      DataW.trod enc P w base spare held n f0.type [v0] = some y0 ∧ DataW.trod enc P w base spare held n f1.type [v1] = some y1 ∧ DataW.trod enc P w base spare held n f2.type [v2] = some y2 := by
  rcases open_slice ht h with ⟨hcs, _⟩ | ⟨a, len', cap', m, n, D, Pl, hcs, _, hl, hm, hmm, _, hi⟩
  · simp at hcs
    obtain ⟨rfl, rfl, rfl⟩ := hcs
    exact ⟨Nat.le_refl _, Nat.zero_le _, fun i h => by omega⟩
  · simp at hcs
    obtain ⟨rfl, rfl, rfl⟩ := hcs
    refine ⟨hl, hm, fun i hlt => ?_⟩
    have him : i < m := by rw [hmm]; split <;> omega
    obtain ⟨cs, hc, htr⟩ := hi i him
    rw [hC] at hc
    obtain ⟨_, hlen, hcell⟩ := World.cells?_some hc
    match cs, hlen with
    | [c0, c1, c2], _ =>
      obtain ⟨y0, y1, y2, n', _, _, h0, h1, h2⟩ := trod_struct3 he htr
      obtain ⟨o0, k0⟩ := hone_of hone 0 f0 rfl
      obtain ⟨o1, k1⟩ := hone_of hone 1 f1 rfl
      obtain ⟨o2, k2⟩ := hone_of hone 2 f2 rfl
      have e0 := hcell 0 (by omega)
      have e1 := hcell 1 (by omega)
      have e2 := hcell 2 (by omega)
      simp only [List.getElem?_cons_zero, List.getElem?_cons_succ] at e0 e1 e2
      obtain ⟨b, o, spot⟩ := a
      have hspot : spot = none := by
        obtain ⟨cs', hc', _⟩ := hi 0 (by omega)
        rw [hC] at hc'
        obtain ⟨_, hlen', hcell'⟩ := World.cells?_some hc'
        have h0' := hcell' 0 (by omega)
        rw [List.getElem?_eq_getElem (by omega)] at h0'
        simpa [Addr.add] using World.cell?_spot h0'
      subst hspot
      rw [Addr.add_lit, Addr.add_lit] at e0 e1 e2
      exact ⟨b, o, c0, c1, c2, y0, y1, y2, n', rfl, e0, e1, e2, by simpa [o0, k0] using h0, by simpa [o1, k1] using h1, by simpa [o2, k2] using h2⟩
end


set_option maxRecDepth 100000 in
theorem arcs_of_trod {H : Type} {enc : TypeId × Value → H} {W : World} {fuel : Nat} {a0 : Option Addr} {len cap : Nat} {x : DataW H × List MemPlace} (h : DataW.trod enc Tryd.prog W 0 (fun _ => true) true fuel 62 [.slice a0 len cap] = some x) :
    ∃ l : List DArc, l.length = len ∧ (∀ a ∈ l, a.ok) ∧ ArcsC W (.slice a0 len cap) l := by
  obtain ⟨hl, hm, hi⟩ := slice_three Tryd.underlying62 Tryd.underlying66 (by kernel_rfl) (by kernel_rfl) h
  obtain ⟨f, hf⟩ := choose_lt (α := DArc) (n := len) (p := fun i d => d.ok ∧ ∃ b o, a0 = some ⟨b, o, none⟩ ∧ ArcIn W b (o + i * 3) d) (fun i hlt => by
    obtain ⟨b, o, v0, v1, v2, y0, y1, y2, n, ha, c0, c1, c2, h0, h1, h2⟩ := hi i hlt
    obtain ⟨k0, q0, rfl, w0⟩ := DataW.trod_int Tryd.underlying5 h0
    obtain ⟨k1, q1, rfl, w1⟩ := DataW.trod_int Tryd.underlying23 h1
    obtain ⟨k2, q2, rfl, w2⟩ := DataW.trod_int Tryd.underlying3 h2
    simp at q0 q1 q2
    subst q0 q1 q2
    have b0 := bounds_u8 w0
    have b1 := bounds_u64 w1
    have b2 := bounds_i64 w2
    have m0 : ((k0.toNat : Nat) : Int) = k0 := by omega
    have m1 : ((k1.toNat : Nat) : Int) = k1 := by omega
    refine ⟨⟨k0.toNat, k1.toNat, k2⟩, ⟨?_, ?_, ?_, ?_⟩, b, o, ha, ?_, ?_, c2⟩
    · show k0.toNat < 256; omega
    · show k1.toNat < 18446744073709551616; omega
    · show -9223372036854775808 ≤ k2; omega
    · show k2 < 9223372036854775808; omega
    · show _ = some (Value.int .u8 ((k0.toNat : Nat) : Int))
      rw [m0, c0]
    · show _ = some (Value.int .u64 ((k1.toNat : Nat) : Int))
      rw [m1, c1])
  have hlen : ((List.range len).map f).length = len := by simp
  refine ⟨(List.range len).map f, hlen, fun y hy => ?_, ⟨a0, cap, by rw [hlen], fun i hlt => ?_⟩, a0, cap, by rw [hlen], by rw [hlen]; exact hl⟩
  · obtain ⟨i, hr, rfl⟩ := List.mem_map.1 hy
    exact (hf i (List.mem_range.1 hr)).1
  · rw [hlen] at hlt
    rw [show arcAt ((List.range len).map f) i = f i by simp [arcAt, List.getD, hlt]]
    exact (hf i hlt).2

set_option maxRecDepth 100000 in
theorem stsC_of_trod {H : Type} {enc : TypeId × Value → H} {W : World} {fuel : Nat} {a0 : Option Addr} {len cap : Nat} {x : DataW H × List MemPlace} (h : DataW.trod enc Tryd.prog W 0 (fun _ => true) true fuel 22 [.slice a0 len cap] = some x) :
    ∃ l : List DSt, (∀ s ∈ l, s.ok) ∧ StsC W (.slice a0 len cap) l := by
  obtain ⟨hl, hm, hi⟩ := slice_three Tryd.underlying22 Tryd.underlying64 (by kernel_rfl) (by kernel_rfl) h
  obtain ⟨f, hf⟩ := choose_lt (α := DSt) (n := len) (p := fun i d => d.ok ∧ ∃ b o, a0 = some ⟨b, o, none⟩ ∧ ∃ u, W.cell? ⟨b, o + i * 3, none⟩ = some u ∧ W.cell? ⟨b, o + i * 3 + 1, none⟩ = some (.bool d.fin) ∧ W.cell? ⟨b, o + i * 3 + 2, none⟩ = some (.int .u64 (d.out : Int)) ∧ ArcsC W u d.arcs) (fun i hlt => by
    obtain ⟨b, o, v0, v1, v2, y0, y1, y2, n, ha, c0, c1, c2, h0, h1, h2⟩ := hi i hlt
    obtain ⟨a1, l1, c1', e⟩ := slice_form Tryd.underlying62 h0
    simp at e
    subst e
    obtain ⟨l, hll, hok, hA⟩ := arcs_of_trod h0
    obtain ⟨g, q1, rfl⟩ := DataW.trod_bool Tryd.underlying4 h1
    obtain ⟨k2, q2, rfl, w2⟩ := DataW.trod_int Tryd.underlying23 h2
    simp at q1 q2
    subst q1 q2
    have b2 := bounds_u64 w2
    have m2 : ((k2.toNat : Nat) : Int) = k2 := by omega
    refine ⟨⟨l, g, k2.toNat⟩, ⟨hok, ?_⟩, b, o, ha, _, c0, c1, ?_, hA⟩
    · show k2.toNat < 18446744073709551616; omega
    · show _ = some (Value.int .u64 ((k2.toNat : Nat) : Int))
      rw [m2, c2])
  have hlen : ((List.range len).map f).length = len := by simp
  refine ⟨(List.range len).map f, fun y hy => ?_, a0, cap, by rw [hlen], fun i hlt => ?_⟩
  · obtain ⟨i, hr, rfl⟩ := List.mem_map.1 hy
    exact (hf i (List.mem_range.1 hr)).1
  · rw [hlen] at hlt
    rw [show stAt ((List.range len).map f) i = f i by simp [stAt, List.getD, hlt]]
    exact (hf i hlt).2

set_option maxRecDepth 100000 in
/-- A transducer that came in. -/
theorem open_fst {H : Type} {enc : TypeId × Value → H} {W : World} {r : Reach} {b0 : Nat} {v : Value} {d : DataW H} {p : List MemPlace} (hv : Value.okWide Tryd.prog W r b0 25 v) (h : DataW.Trod enc Tryd.prog W 0 (fun _ => true) true 25 v d p) :
    ∃ (u : Value) (l : List DSt) (i : Nat), v = .agg #[u, .int .u64 (i : Int)] ∧ StsC W u l ∧ (∀ s ∈ l, s.ok) ∧ i < 18446744073709551616 := by
  obtain ⟨v0, v1, y0, y1, n, rfl, _, rfl, h0, h1⟩ := Joins.open_agg2 Tryd.underlying25 (by kernel_rfl) (by kernel_rfl) hv h
  obtain ⟨a1, l1, c1', e⟩ := slice_form Tryd.underlying22 h0
  simp at e
  subst e
  obtain ⟨l, hok, hA⟩ := stsC_of_trod h0
  obtain ⟨k, q, rfl, w⟩ := DataW.trod_int Tryd.underlying23 h1
  simp at q
  have b := bounds_u64 w
  refine ⟨_, l, k.toNat, ?_, hA, hok, by omega⟩
  rw [q, show ((k.toNat : Nat) : Int) = k by omega]

set_option maxRecDepth 100000 in
theorem open_back {H : Type} {enc : TypeId × Value → H} {W : World} {r : Reach} {b0 : Nat} {v : Value} {d : DataW H} {p : List MemPlace} (hv : Value.okWide Tryd.prog W r b0 50 v) (h : DataW.Trod enc Tryd.prog W 0 (fun _ => true) true 50 v d p) :
    ∃ (a b : Nat) (s : ByteArray), v = .agg #[.int .u32 (a : Int), .int .u32 (b : Int), .string s] ∧ a < 4294967296 ∧ b < 4294967296 ∧ s.size ≤ maxLen ∧ p = [] := by
  obtain ⟨v0, v1, v2, y0, y1, y2, n, rfl, _, rfl, h0, h1, h2⟩ := Joins.open_agg3 Tryd.underlying50 (by kernel_rfl) (by kernel_rfl) hv h
  obtain ⟨a, q0, rfl, w0⟩ := DataW.trod_int Tryd.underlying48 h0
  obtain ⟨b, q1, rfl, w1⟩ := DataW.trod_int Tryd.underlying48 h1
  obtain ⟨s, q2, rfl, z⟩ := DataW.trod_string Tryd.underlying9 h2
  simp at q0 q1 q2
  have b0 := bounds_u32 w0
  have b1 := bounds_u32 w1
  refine ⟨a.toNat, b.toNat, s, ?_, by omega, by omega, z, rfl⟩
  rw [q0, q1, q2, show ((a.toNat : Nat) : Int) = a by omega, show ((b.toNat : Nat) : Int) = b by omega]
set_option maxRecDepth 100000 in
theorem open_turn {H : Type} {enc : TypeId × Value → H} {W : World} {r : Reach} {b0 : Nat} {v : Value} {d : DataW H} {p : List MemPlace} (hv : Value.okWide Tryd.prog W r b0 40 v) (h : DataW.Trod enc Tryd.prog W 0 (fun _ => true) true 40 v d p) :
    ∃ (a c y : Nat), v = .agg #[.int .u16 (a : Int), .int .u16 (c : Int), .int .u8 (y : Int)] ∧ a < 65536 ∧ c < 65536 ∧ y < 256 ∧ p = [] := by
  obtain ⟨v0, v1, v2, y0, y1, y2, n, rfl, _, rfl, h0, h1, h2⟩ := Joins.open_agg3 Tryd.underlying40 (by kernel_rfl) (by kernel_rfl) hv h
  obtain ⟨a, q0, rfl, w0⟩ := DataW.trod_int Tryd.underlying38 h0
  obtain ⟨c, q1, rfl, w1⟩ := DataW.trod_int Tryd.underlying38 h1
  obtain ⟨y, q2, rfl, w2⟩ := DataW.trod_int Tryd.underlying5 h2
  simp at q0 q1 q2
  have b0 := bounds_u16 w0
  have b1 := bounds_u16 w1
  have b2 := bounds_u8 w2
  refine ⟨a.toNat, c.toNat, y.toNat, ?_, by omega, by omega, by omega, rfl⟩
  rw [q0, q1, q2, show ((a.toNat : Nat) : Int) = a by omega, show ((c.toNat : Nat) : Int) = c by omega, show ((y.toNat : Nat) : Int) = y by omega]
end Go.Proofs.YtjiilmiikejnhaaDoor

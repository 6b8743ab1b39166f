/-
  What came in: rows of the law's acts, in memory; opened.
-/
import Derived.Test.YtloijbhilfbliaaFDoes
import Derived.ProofKit
import Derived.OpenShut
import Derived.Lib.SmallJoins
import Derived.Deep.Slices
import Derived.Deep.Strs
import Derived.Deep.Fields
namespace Go.Proofs.Ytloijbhilfbliaa
open Go.ChangeShapes Go.WideShapes Go.ChangeAt Go.RowKit Go.Deep

theorem laidOut : laidOutB Try.prog = true := by kernel_rfl

/-- One of the law's acts. -/
structure Deed where
  what : Nat
  text : ByteArray
  n : Int
  m : Int
deriving Inhabited

/-- Its four numbers are such as they may be. -/
def Deed.ok (d : Deed) : Prop := d.what < 256 ∧ d.text.size ≤ 9223372036854775807 ∧ -32768 ≤ d.n ∧ d.n ≤ 32767 ∧ -32768 ≤ d.m ∧ d.m ≤ 32767

def DeedAt (w : World) (b o : Nat) (d : Deed) : Prop :=
  w.cell? ⟨b, o, none⟩ = some (.int .u8 (d.what : Int)) ∧ w.cell? ⟨b, o + 1, none⟩ = some (.string d.text) ∧ w.cell? ⟨b, o + 2, none⟩ = some (.int .i16 d.n) ∧ w.cell? ⟨b, o + 3, none⟩ = some (.int .i16 d.m)

/-- A row of them. -/
def Deeds (w : World) (v : Value) (l : List Deed) : Prop :=
  ∃ ad c, v = .slice ad l.length c ∧ ∀ i, i < l.length → ∃ b o, ad = some ⟨b, o, none⟩ ∧ b < w.heap.size ∧ DeedAt w b (o + i * 4) (l.getD i default)

theorem DeedAt.below {w w' : World} {b o : Nat} {d : Deed} (h : DeedAt w b o d) (hb : Below w.heap.size w w') (hlt : b < w.heap.size) : DeedAt w' b o d := by
  obtain ⟨h0, h1, h2, h3⟩ := h
  exact ⟨by rw [hb.cell (p := ⟨b, o, none⟩) hlt]; exact h0, by rw [hb.cell (p := ⟨b, o + 1, none⟩) hlt]; exact h1, by rw [hb.cell (p := ⟨b, o + 2, none⟩) hlt]; exact h2, by rw [hb.cell (p := ⟨b, o + 3, none⟩) hlt]; exact h3⟩

section
variable {H : Type} {enc : TypeId × Value → H} {P : Program} {w : World} {base : Nat} {spare : Nat → Bool} {held : Bool}
/-- A slice of structs of four cells: each element's cells, and what each of them reads as. -/
theorem slice_four {t e : TypeId} {f0 f1 f2 f3 : Field} {fuel : Nat} {a0 : Option Addr} {len cap : Nat} {x : DataW H × List MemPlace} (ht : P.underlying t = some (.slice e)) (he : P.underlying e = some (.struct #[f0, f1, f2, f3]))
    (hone : oneCellFields P #[f0, f1, f2, f3] = true) (hC : P.cellsOf e = 4) (h : DataW.trod enc P w base spare held fuel t [.slice a0 len cap] = some x) :
    len ≤ cap ∧ cap ≤ maxLen ∧ ∀ i, i < len → ∃ (b o : Nat) (v0 v1 v2 v3 : Value) (y0 y1 y2 y3 : DataW H × List MemPlace) (n : Nat), a0 = some ⟨b, o, none⟩ ∧
      w.cell? ⟨b, o + i * 4, none⟩ = some v0 ∧ w.cell? ⟨b, o + i * 4 + 1, none⟩ = some v1 ∧ w.cell? ⟨b, o + i * 4 + 2, none⟩ = some v2 ∧ w.cell? ⟨b, o + i * 4 + 3, none⟩ = some v3 ∧
      DataW.trod enc P w base spare held n f0.type [v0] = some y0 ∧ DataW.trod enc P w base spare held n f1.type [v1] = some y1 ∧ DataW.trod enc P w base spare held n f2.type [v2] = some y2 ∧ DataW.trod enc P w base spare held n f3.type [v3] = some y3 := by
  rcases open_slice ht h with ⟨hcs, _⟩ | ⟨a, len', cap', m, n, D, Pl, hcs, _, hl, hm, hmm, _, hi⟩
  · simp at hcs
    obtain ⟨rfl, rfl, rfl⟩ := hcs
    exact ⟨Nat.le_refl _, Nat.zero_le _, fun i h => by omega⟩
  · simp at hcs
    obtain ⟨rfl, rfl, rfl⟩ := hcs
    refine ⟨hl, hm, fun i hlt => ?_⟩
    have him : i < m := by rw [hmm]; split <;> omega
    obtain ⟨cs, hc, htr⟩ := hi i him
    rw [hC] at hc
    obtain ⟨_, hlen, hcell⟩ := World.cells?_some hc
    match cs, hlen with
    | [c0, c1, c2, c3], _ =>
      obtain ⟨y0, y1, y2, y3, n', _, _, h0, h1, h2, h3⟩ := Joins.trod_struct4 he htr
      obtain ⟨o0, k0⟩ := hone_of hone 0 f0 rfl
      obtain ⟨o1, k1⟩ := hone_of hone 1 f1 rfl
      obtain ⟨o2, k2⟩ := hone_of hone 2 f2 rfl
      obtain ⟨o3, k3⟩ := hone_of hone 3 f3 rfl
      have e0 := hcell 0 (by omega)
      have e1 := hcell 1 (by omega)
      have e2 := hcell 2 (by omega)
      have e3 := hcell 3 (by omega)
      simp only [List.getElem?_cons_zero, List.getElem?_cons_succ] at e0 e1 e2 e3
      obtain ⟨b, o, spot⟩ := a
      have hspot : spot = none := by
        obtain ⟨cs', hc', _⟩ := hi 0 (by omega)
        rw [hC] at hc'
        obtain ⟨_, hlen', hcell'⟩ := World.cells?_some hc'
        have h0' := hcell' 0 (by omega)
        rw [List.getElem?_eq_getElem (by omega)] at h0'
        simpa [Addr.add] using World.cell?_spot h0'
      subst hspot
      rw [Addr.add_lit, Addr.add_lit] at e0 e1 e2 e3
      exact ⟨b, o, c0, c1, c2, c3, y0, y1, y2, y3, n', rfl, e0, e1, e2, e3, by simpa [o0, k0] using h0, by simpa [o1, k1] using h1, by simpa [o2, k2] using h2, by simpa [o3, k3] using h3⟩
end

set_option maxRecDepth 100000 in
/-- A row of acts. -/
theorem deeds_of_trod {H : Type} {enc : TypeId × Value → H} {W : World} {fuel : Nat} {a0 : Option Addr} {len cap : Nat} {x : DataW H × List MemPlace} (h : DataW.trod enc Try.prog W 0 (fun _ => true) true fuel 22 [.slice a0 len cap] = some x) :
    ∃ l : List Deed, l.length = len ∧ len ≤ 9223372036854775807 ∧ (∀ d ∈ l, d.ok) ∧ Deeds W (.slice a0 len cap) l := by
  obtain ⟨hl, hm, hi⟩ := slice_four Try.underlying22 Try.underlying31 (by kernel_rfl) (by kernel_rfl) h
  unfold maxLen at hm
  obtain ⟨f, hf⟩ := choose_lt (α := Deed) (n := len) (p := fun i d => d.ok ∧ ∃ b o, a0 = some ⟨b, o, none⟩ ∧ b < W.heap.size ∧ DeedAt W b (o + i * 4) d) (fun i hlt => by
    obtain ⟨b, o, v0, v1, v2, v3, y0, y1, y2, y3, n, ha, c0, c1, c2, c3, h0, h1, h2, h3⟩ := hi i hlt
    obtain ⟨a, q0, rfl, w0⟩ := DataW.trod_int Try.underlying5 h0
    obtain ⟨s, q1, rfl, z1⟩ := DataW.trod_string Try.underlying9 h1
    obtain ⟨k, q2, rfl, w2⟩ := DataW.trod_int Try.underlying29 h2
    obtain ⟨j, q3, rfl, w3⟩ := DataW.trod_int Try.underlying29 h3
    simp at q0 q1 q2 q3
    subst q0 q1 q2 q3
    have b0 := bounds_u8 w0
    have b2 := bounds_i16 w2
    have b3 := bounds_i16 w3
    unfold maxLen at z1
    have hm' : ((a.toNat : Nat) : Int) = a := by omega
    refine ⟨⟨a.toNat, s, k, j⟩, ⟨by show a.toNat < _; omega, z1, b2.1, by show k ≤ _; omega, b3.1, by show j ≤ _; omega⟩, b, o, ha, block_lt_of_cell c0, ?_, c1, c2, c3⟩
    show _ = some (Value.int .u8 ((a.toNat : Nat) : Int))
    rw [hm', c0])
  have hlen : ((List.range len).map f).length = len := by simp
  refine ⟨(List.range len).map f, hlen, by omega, fun d hd => ?_, a0, cap, by rw [hlen], fun i hlt => ?_⟩
  · obtain ⟨i, hr, rfl⟩ := List.mem_map.1 hd
    exact (hf i (List.mem_range.1 hr)).1
  · rw [hlen] at hlt
    obtain ⟨_, b, o, ha, hbl, hd⟩ := hf i hlt
    refine ⟨b, o, ha, hbl, ?_⟩
    rw [show ((List.range len).map f).getD i default = f i by simp [List.getD, hlt]]
    exact hd
end Go.Proofs.Ytloijbhilfbliaa

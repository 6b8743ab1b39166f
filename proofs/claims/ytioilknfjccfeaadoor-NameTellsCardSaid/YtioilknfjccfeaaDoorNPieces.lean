/-
  The law's pieces: rows of them in memory; opened.
-/
import Derived.Test.YtioilknfjccfeaaDoorNOpens
import Derived.Lib.SmallJoins
import Derived.Deep.Slices
import Derived.Deep.Strs
import Derived.Deep.Fields
namespace Go.Proofs.YtioilknfjccfeaaDoor
open Go.ChangeShapes Go.WideShapes Go.ChangeAt Go.RowKit Go.Deep Go.Joins

/-- One piece. -/
structure Piece where
  head : Nat
  n : Nat
  tail : ByteArray
deriving Inhabited

def Piece.ok (d : Piece) : Prop := d.head < 256 ∧ d.n < 4294967296 ∧ d.tail.size ≤ 9223372036854775807

def PieceAt (w : World) (b o : Nat) (d : Piece) : Prop :=
  w.cell? ⟨b, o, none⟩ = some (.int .u8 (d.head : Int)) ∧ w.cell? ⟨b, o + 1, none⟩ = some (.int .u32 (d.n : Int)) ∧ w.cell? ⟨b, o + 2, none⟩ = some (.string d.tail)

/-- A row of them. -/
def Pieces (w : World) (v : Value) (l : List Piece) : Prop :=
  ∃ ad c, v = .slice ad l.length c ∧ ∀ i, i < l.length → (l.getD i default).ok ∧ ∃ b o, ad = some ⟨b, o, none⟩ ∧ b < w.heap.size ∧ PieceAt w b (o + i * 3) (l.getD i default)

theorem PieceAt.below {w w' : World} {b o : Nat} {d : Piece} (h : PieceAt w b o d) (hb : Below w.heap.size w w') (hlt : b < w.heap.size) : PieceAt w' b o d := by
  obtain ⟨h0, h1, h2⟩ := h
  exact ⟨by rw [hb.cell (p := ⟨b, o, none⟩) hlt]; exact h0, by rw [hb.cell (p := ⟨b, o + 1, none⟩) hlt]; exact h1, by rw [hb.cell (p := ⟨b, o + 2, none⟩) hlt]; exact h2⟩

section
variable {H : Type} {enc : TypeId × Value → H} {P : Program} {w : World} {base : Nat} {spare : Nat → Bool} {held : Bool}
/-- A slice of structs of three cells: each element's cells, and what each of them reads as. -/
theorem slice_three {t e : TypeId} {f0 f1 f2 : Field} {fuel : Nat} {a0 : Option Addr} {len cap : Nat} {x : DataW H × List MemPlace} (ht : P.underlying t = some (.slice e)) (he : P.underlying e = some (.struct #[f0, f1, f2]))
    (hone : oneCellFields P #[f0, f1, f2] = true) (hC : P.cellsOf e = 3) (h : DataW.trod enc P w base spare held fuel t [.slice a0 len cap] = some x) :
    len ≤ cap ∧ cap ≤ maxLen ∧ ∀ i, i < len → ∃ (b o : Nat) (v0 v1 v2 : Value) (y0 y1 y2 : DataW H × List MemPlace) (n : Nat), a0 = some ⟨b, o, none⟩ ∧
      w.cell? ⟨b, o + i * 3, none⟩ = some v0 ∧ w.cell? ⟨b, o + i * 3 + 1, none⟩ = some v1 ∧ w.cell? ⟨b, o + i * 3 + 2, none⟩ = some v2 ∧
      DataW.trod enc P w base spare held n f0.type [v0] = some y0 ∧ DataW.trod enc P w base spare held n f1.type [v1] = some y1 ∧ DataW.trod enc P w base spare held n f2.type [v2] = some y2 := by
  rcases open_slice ht h with ⟨hcs, _⟩ | ⟨a, len', cap', m, n, D, Pl, hcs, _, hl, hm, hmm, _, hi⟩
  · simp at hcs
    obtain ⟨rfl, rfl, rfl⟩ := hcs
    exact ⟨Nat.le_refl _, Nat.zero_le _, fun i h => by omega⟩
  · simp at hcs
    obtain ⟨rfl, rfl, rfl⟩ := hcs
    refine ⟨hl, hm, fun i hlt => ?_⟩
    have him : i < m := by rw [hmm]; split <;> omega
    obtain ⟨cs, hc, htr⟩ := hi i him
    rw [hC] at hc
    obtain ⟨_, hlen, hcell⟩ := World.cells?_some hc
    match cs, hlen with
    | [c0, c1, c2], _ =>
      obtain ⟨y0, y1, y2, n', _, _, h0, h1, h2⟩ := trod_struct3 he htr
      obtain ⟨o0, k0⟩ := hone_of hone 0 f0 rfl
      obtain ⟨o1, k1⟩ := hone_of hone 1 f1 rfl
      obtain ⟨o2, k2⟩ := hone_of hone 2 f2 rfl
      have e0 := hcell 0 (by omega)
      have e1 := hcell 1 (by omega)
      have e2 := hcell 2 (by omega)
      simp only [List.getElem?_cons_zero, List.getElem?_cons_succ] at e0 e1 e2
      obtain ⟨b, o, spot⟩ := a
      have hspot : spot = none := by
        obtain ⟨cs', hc', _⟩ := hi 0 (by omega)
        rw [hC] at hc'
        obtain ⟨_, hlen', hcell'⟩ := World.cells?_some hc'
        have h0' := hcell' 0 (by omega)
        rw [List.getElem?_eq_getElem (by omega)] at h0'
        simpa [Addr.add] using World.cell?_spot h0'
      subst hspot
      rw [Addr.add_lit, Addr.add_lit] at e0 e1 e2
      exact ⟨b, o, c0, c1, c2, y0, y1, y2, n', rfl, e0, e1, e2, by simpa [o0, k0] using h0, by simpa [o1, k1] using h1, by simpa [o2, k2] using h2⟩
end

set_option maxRecDepth 100000 in
theorem pieces_of_trod {H : Type} {enc : TypeId × Value → H} {W : World} {fuel : Nat} {a0 : Option Addr} {len cap : Nat} {x : DataW H × List MemPlace} (h : DataW.trod enc Tryd.prog W 0 (fun _ => true) true fuel 22 [.slice a0 len cap] = some x) :
    ∃ l : List Piece, Pieces W (.slice a0 len cap) l := by
  obtain ⟨hl, hm, hi⟩ := slice_three Tryd.underlying22 Tryd.underlying26 (by kernel_rfl) (by kernel_rfl) h
  obtain ⟨f, hf⟩ := choose_lt (α := Piece) (n := len) (p := fun i d => d.ok ∧ ∃ b o, a0 = some ⟨b, o, none⟩ ∧ b < W.heap.size ∧ PieceAt W b (o + i * 3) d) (fun i hlt => by
    obtain ⟨b, o, v0, v1, v2, y0, y1, y2, n, ha, c0, c1, c2, h0, h1, h2⟩ := hi i hlt
    obtain ⟨a, q0, rfl, w0⟩ := DataW.trod_int Tryd.underlying5 h0
    obtain ⟨k, q1, rfl, w1⟩ := DataW.trod_int Tryd.underlying24 h1
    obtain ⟨s, q2, rfl, z2⟩ := DataW.trod_string Tryd.underlying9 h2
    simp at q0 q1 q2
    subst q0 q1 q2
    have b0 := bounds_u8 w0
    have b1 := bounds_u32 w1
    unfold maxLen at z2
    have hm0 : ((a.toNat : Nat) : Int) = a := by omega
    have hm1 : ((k.toNat : Nat) : Int) = k := by omega
    refine ⟨⟨a.toNat, k.toNat, s⟩, ⟨by show a.toNat < _; omega, by show k.toNat < _; omega, z2⟩, b, o, ha, block_lt_of_cell c0, ?_, ?_, c2⟩
    · show _ = some (Value.int .u8 ((a.toNat : Nat) : Int))
      rw [hm0, c0]
    · show _ = some (Value.int .u32 ((k.toNat : Nat) : Int))
      rw [hm1, c1])
  have hlen : ((List.range len).map f).length = len := by simp
  refine ⟨(List.range len).map f, a0, cap, by rw [hlen], fun i hlt => ?_⟩
  rw [hlen] at hlt
  rw [show ((List.range len).map f).getD i default = f i by simp [List.getD, hlt]]
  exact hf i hlt
end Go.Proofs.YtioilknfjccfeaaDoor

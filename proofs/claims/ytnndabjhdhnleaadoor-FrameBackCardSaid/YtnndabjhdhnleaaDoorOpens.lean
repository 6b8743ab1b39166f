/-
  What came in, opened: a pair of texts, a Turn, a slice of texts.
-/
import Derived.Test.YtnndabjhdhnleaaDoorStrs
import Derived.ProofKit
import Derived.OpenShut
import Derived.Lib.SmallJoins
namespace Go.Proofs.YtnndabjhdhnleaaDoor
open Go.ChangeShapes Go.WideShapes Go.ChangeAt Go.RowKit
open Go.ChangeMaps (open_string shut_string)

theorem laidOut : laidOutB Tryd.prog = true := by kernel_rfl

theorem okWide_two {W : World} {r : Reach} {b0 : Nat} {v : Value} (h : Value.okWide Tryd.prog W r b0 45 v) : ∃ cs, v = .agg cs ∧ cs.size = 2 := by
  simp only [Value.okWide, Tryd.underlying45] at h
  obtain ⟨cs, h1, h2, _⟩ := h
  exact ⟨cs, h1, h2.trans (by kernel_rfl)⟩

set_option maxRecDepth 100000 in
/-- A pair of texts. -/
theorem open_two {H : Type} {enc : TypeId × Value → H} {W : World} {r : Reach} {b0 : Nat} {v : Value} {d : DataW H} {p : List MemPlace} (hv : Value.okWide Tryd.prog W r b0 45 v) (h : DataW.Trod enc Tryd.prog W 0 (fun _ => true) true 45 v d p) :
    ∃ s0 s1 : ByteArray, v = .agg #[.string s0, .string s1] ∧ s0.size ≤ maxLen ∧ s1.size ≤ maxLen ∧ p = [] := by
  obtain ⟨cs, rfl, hsz⟩ := okWide_two hv
  obtain ⟨c0, c1, rfl⟩ := Joins.array2 hsz
  obtain ⟨fuel, hf⟩ := h
  obtain ⟨xs, m, _, hx, _, hl, hi⟩ := DataW.trod_array Tryd.underlying45 hf
  have hc : Tryd.prog.cellsOf 9 = 1 := by kernel_rfl
  match xs, hl with
  | [y0, y1], _ =>
    have e0 := hi 0 (by decide)
    have e1 := hi 1 (by decide)
    rw [hc] at e0 e1
    obtain ⟨s0, q0, rfl, z0⟩ := DataW.trod_string Tryd.underlying9 e0
    obtain ⟨s1, q1, rfl, z1⟩ := DataW.trod_string Tryd.underlying9 e1
    simp [Value.cells] at q0 q1
    simp at hx
    exact ⟨s0, s1, by rw [q0, q1], z0, z1, hx.2⟩

set_option maxRecDepth 100000 in
/-- A Turn. -/
theorem open_turn {H : Type} {enc : TypeId × Value → H} {W : World} {r : Reach} {b0 : Nat} {v : Value} {d : DataW H} {p : List MemPlace} (hv : Value.okWide Tryd.prog W r b0 25 v) (h : DataW.Trod enc Tryd.prog W 0 (fun _ => true) true 25 v d p) :
    ∃ (a c y : Nat) (q : Int), v = .agg #[.int .u16 (a : Int), .int .u16 (c : Int), .int .u8 (y : Int), .int .i64 q] ∧ a < 65536 ∧ c < 65536 ∧ y < 256 ∧ -9223372036854775808 ≤ q ∧ q ≤ 9223372036854775807 ∧ p = [] := by
  obtain ⟨v0, v1, v2, v3, y0, y1, y2, y3, n, rfl, _, rfl, h0, h1, h2, h3⟩ := Joins.open_agg4 Tryd.underlying25 (by kernel_rfl) (by kernel_rfl) hv h
  obtain ⟨a, q0, rfl, w0⟩ := DataW.trod_int Tryd.underlying23 h0
  obtain ⟨c, q1, rfl, w1⟩ := DataW.trod_int Tryd.underlying23 h1
  obtain ⟨y, q2, rfl, w2⟩ := DataW.trod_int Tryd.underlying5 h2
  obtain ⟨q, q3, rfl, w3⟩ := DataW.trod_int Tryd.underlying3 h3
  simp at q0 q1 q2 q3
  have b0 := bounds_u16 w0
  have b1 := bounds_u16 w1
  have b2 := bounds_u8 w2
  have b3 := bounds_i64 w3
  refine ⟨a.toNat, c.toNat, y.toNat, q, ?_, by omega, by omega, by omega, by omega, by omega, rfl⟩
  rw [q0, q1, q2, q3, show ((a.toNat : Nat) : Int) = a by omega, show ((c.toNat : Nat) : Int) = c by omega, show ((y.toNat : Nat) : Int) = y by omega]

/-- A slice of texts that came in. -/
theorem strs_of_trod {H : Type} {enc : TypeId × Value → H} {W : World} {fuel : Nat} {a0 : Option Addr} {len cap : Nat} {x : DataW H × List MemPlace} (h : DataW.trod enc Tryd.prog W 0 (fun _ => true) true fuel 22 (Value.slice a0 len cap).cells.toList = some x) :
    ∃ l : List ByteArray, l.length = len ∧ len ≤ cap ∧ cap ≤ 9223372036854775807 ∧ (∀ s ∈ l, s.size ≤ 9223372036854775807) ∧ Strs W (.slice a0 len cap) l := by
  rcases open_strings Tryd.underlying22 Tryd.underlying9 (by kernel_rfl) h with ⟨hcs, _⟩ | ⟨a, len', cap', ss, hcs, _, hl, hm, hz, _, hcell, hsz⟩
  · simp [Value.cells] at hcs
    obtain ⟨rfl, rfl, rfl⟩ := hcs
    exact ⟨[], rfl, by omega, by omega, by simp, none, 0, rfl, fun i hi => by simp at hi⟩
  · simp [Value.cells] at hcs
    obtain ⟨rfl, rfl, rfl⟩ := hcs
    simp only [if_true] at hz
    have hlen : (ss.take len).length = len := by simp; omega
    refine ⟨ss.take len, hlen, hl, by unfold maxLen at hm; exact hm, fun s hs => by have := hsz s (List.mem_of_mem_take hs); unfold maxLen at this; exact this, some a, cap, by rw [hlen], ?_⟩
    intro i hi
    rw [hlen] at hi
    obtain ⟨b, off, spot⟩ := a
    have hi' : i < ss.length := by omega
    have hspot : spot = none := by simpa [Addr.add] using World.cell?_spot (hcell 0 (by omega))
    subst hspot
    refine ⟨b, off, rfl, ?_⟩
    have hc := hcell i hi'
    have e : (ss.take len).getD i ⟨#[]⟩ = ss.getD i ByteArray.empty := by
      simp [List.getD, hi', hi]
    rw [e, ← hc]
    congr 1
    unfold Addr.add
    split
    · rename_i h0; simp
    · rfl
end Go.Proofs.YtnndabjhdhnleaaDoor

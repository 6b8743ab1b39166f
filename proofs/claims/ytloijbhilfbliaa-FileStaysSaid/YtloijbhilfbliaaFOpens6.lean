/-
  What came in, opened: arrays of two numbers; rows of texts.
-/
import Derived.Test.YtloijbhilfbliaaFLaw
namespace Go.Proofs.Ytloijbhilfbliaa
open Go.ChangeShapes Go.WideShapes Go.ChangeAt Go.RowKit
open Go.ChangeMaps (open_string shut_string)

theorem okWide_i16s {W : World} {r : Reach} {b0 : Nat} {v : Value} (h : Value.okWide Try.prog W r b0 39 v) : ∃ cs, v = .agg cs ∧ cs.size = 2 := by
  simp only [Value.okWide, Try.underlying39] at h
  obtain ⟨cs, h1, h2, _⟩ := h
  exact ⟨cs, h1, h2.trans (by kernel_rfl)⟩

set_option maxRecDepth 100000 in
/-- A pair of numbers. -/
theorem open_i16s {H : Type} {enc : TypeId × Value → H} {W : World} {r : Reach} {b0 : Nat} {v : Value} {d : DataW H} {p : List MemPlace} (hv : Value.okWide Try.prog W r b0 39 v) (h : DataW.Trod enc Try.prog W 0 (fun _ => true) true 39 v d p) :
    ∃ s0 s1 : Int, v = .agg #[.int .i16 s0, .int .i16 s1] ∧ (-32768 ≤ s0 ∧ s0 ≤ 32767) ∧ (-32768 ≤ s1 ∧ s1 ≤ 32767) ∧ p = [] := by
  obtain ⟨cs, rfl, hsz⟩ := okWide_i16s hv
  obtain ⟨c0, c1, rfl⟩ := Joins.array2 hsz
  obtain ⟨fuel, hf⟩ := h
  obtain ⟨xs, m, _, hx, _, hl, hi⟩ := DataW.trod_array Try.underlying39 hf
  have hc : Try.prog.cellsOf 29 = 1 := by kernel_rfl
  match xs, hl with
  | [y0, y1], _ =>
    have e0 := hi 0 (by decide)
    have e1 := hi 1 (by decide)
    rw [hc] at e0 e1
    obtain ⟨s0, q0, rfl, z0⟩ := DataW.trod_int Try.underlying29 e0
    obtain ⟨s1, q1, rfl, z1⟩ := DataW.trod_int Try.underlying29 e1
    simp [Value.cells] at q0 q1
    simp at hx
    exact ⟨s0, s1, by rw [q0, q1], bounds_i16 z0, bounds_i16 z1, hx.2⟩

theorem okWide_u8s {W : World} {r : Reach} {b0 : Nat} {v : Value} (h : Value.okWide Try.prog W r b0 52 v) : ∃ cs, v = .agg cs ∧ cs.size = 2 := by
  simp only [Value.okWide, Try.underlying52] at h
  obtain ⟨cs, h1, h2, _⟩ := h
  exact ⟨cs, h1, h2.trans (by kernel_rfl)⟩

set_option maxRecDepth 100000 in
/-- A pair of numbers. -/
theorem open_u8s {H : Type} {enc : TypeId × Value → H} {W : World} {r : Reach} {b0 : Nat} {v : Value} {d : DataW H} {p : List MemPlace} (hv : Value.okWide Try.prog W r b0 52 v) (h : DataW.Trod enc Try.prog W 0 (fun _ => true) true 52 v d p) :
    ∃ s0 s1 : Nat, v = .agg #[.int .u8 (s0 : Int), .int .u8 (s1 : Int)] ∧ s0 < 256 ∧ s1 < 256 ∧ p = [] := by
  obtain ⟨cs, rfl, hsz⟩ := okWide_u8s hv
  obtain ⟨c0, c1, rfl⟩ := Joins.array2 hsz
  obtain ⟨fuel, hf⟩ := h
  obtain ⟨xs, m, _, hx, _, hl, hi⟩ := DataW.trod_array Try.underlying52 hf
  have hc : Try.prog.cellsOf 5 = 1 := by kernel_rfl
  match xs, hl with
  | [y0, y1], _ =>
    have e0 := hi 0 (by decide)
    have e1 := hi 1 (by decide)
    rw [hc] at e0 e1
    obtain ⟨s0, q0, rfl, z0⟩ := DataW.trod_int Try.underlying5 e0
    obtain ⟨s1, q1, rfl, z1⟩ := DataW.trod_int Try.underlying5 e1
    simp [Value.cells] at q0 q1
    simp at hx
    have b0 := bounds_u8 z0
    have b1 := bounds_u8 z1
    exact ⟨s0.toNat, s1.toNat, by rw [q0, q1, show ((s0.toNat : Nat) : Int) = s0 by omega, show ((s1.toNat : Nat) : Int) = s1 by omega], by omega, by omega, hx.2⟩

/-- A slice of texts that came in. -/
theorem strs_of_trod {H : Type} {enc : TypeId × Value → H} {W : World} {fuel : Nat} {a0 : Option Addr} {len cap : Nat} {x : DataW H × List MemPlace} (h : DataW.trod enc Try.prog W 0 (fun _ => true) true fuel 41 (Value.slice a0 len cap).cells.toList = some x) :
    ∃ l : List ByteArray, l.length = len ∧ len ≤ cap ∧ cap ≤ 9223372036854775807 ∧ (∀ s ∈ l, s.size ≤ 9223372036854775807) ∧ Strs W (.slice a0 len cap) l := by
  rcases open_strings Try.underlying41 Try.underlying9 (by kernel_rfl) h with ⟨hcs, _⟩ | ⟨a, len', cap', ss, hcs, _, hl, hm, hz, _, hcell, hsz⟩
  · simp [Value.cells] at hcs
    obtain ⟨rfl, rfl, rfl⟩ := hcs
    exact ⟨[], rfl, by omega, by omega, by simp, none, 0, rfl, fun i hi => by simp at hi⟩
  · simp [Value.cells] at hcs
    obtain ⟨rfl, rfl, rfl⟩ := hcs
    simp only [if_true] at hz
    have hlen : (ss.take len).length = len := by simp; omega
    refine ⟨ss.take len, hlen, hl, by unfold maxLen at hm; exact hm, fun s hs => by have := hsz s (List.mem_of_mem_take hs); unfold maxLen at this; exact this, some a, cap, by rw [hlen], ?_⟩
    intro i hi
    rw [hlen] at hi
    obtain ⟨b, off, spot⟩ := a
    have hi' : i < ss.length := by omega
    have hspot : spot = none := by simpa [Addr.add] using World.cell?_spot (hcell 0 (by omega))
    subst hspot
    refine ⟨b, off, rfl, ?_⟩
    have hc := hcell i hi'
    have e : (ss.take len).getD i ⟨#[]⟩ = ss.getD i ByteArray.empty := by
      simp [List.getD, hi', hi]
    rw [e, ← hc]
    congr 1
    unfold Addr.add
    split
    · rename_i h0; simp
    · rfl
end Go.Proofs.Ytloijbhilfbliaa

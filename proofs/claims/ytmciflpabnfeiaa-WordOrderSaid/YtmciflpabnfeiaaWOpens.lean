/-
  What came in, opened: three texts, a slice of texts.
-/
import Derived.Test.YtmciflpabnfeiaaStrs
import Derived.ProofKit
import Derived.OpenShut
import Derived.Lib.SmallJoins
namespace Go.Proofs.Ytmciflpabnfeiaa
open Go.ChangeShapes Go.WideShapes Go.ChangeAt Go.RowKit
open Go.ChangeMaps (open_string shut_string)

theorem laidOut : laidOutB Try.prog = true := by kernel_rfl

theorem okWide_three {W : World} {r : Reach} {b0 : Nat} {v : Value} (h : Value.okWide Try.prog W r b0 38 v) : ∃ cs, v = .agg cs ∧ cs.size = 3 := by
  simp only [Value.okWide, Try.underlying38] at h
  obtain ⟨cs, h1, h2, _⟩ := h
  exact ⟨cs, h1, h2.trans (by kernel_rfl)⟩

set_option maxRecDepth 100000 in
/-- Three texts. -/
theorem open_triple {H : Type} {enc : TypeId × Value → H} {W : World} {r : Reach} {b0 : Nat} {v : Value} {d : DataW H} {p : List MemPlace} (hv : Value.okWide Try.prog W r b0 38 v) (h : DataW.Trod enc Try.prog W 0 (fun _ => true) true 38 v d p) :
    ∃ s0 s1 s2 : ByteArray, v = .agg #[.string s0, .string s1, .string s2] ∧ s0.size ≤ 9223372036854775807 ∧ s1.size ≤ 9223372036854775807 ∧ s2.size ≤ 9223372036854775807 ∧ p = [] := by
  obtain ⟨cs, rfl, hsz⟩ := okWide_three hv
  obtain ⟨c0, c1, c2, rfl⟩ := Joins.array3 hsz
  obtain ⟨fuel, hf⟩ := h
  obtain ⟨xs, m, _, hx, _, hl, hi⟩ := DataW.trod_array Try.underlying38 hf
  have hc : Try.prog.cellsOf 9 = 1 := by kernel_rfl
  match xs, hl with
  | [y0, y1, y2], _ =>
    have e0 := hi 0 (by decide)
    have e1 := hi 1 (by decide)
    have e2 := hi 2 (by decide)
    rw [hc] at e0 e1 e2
    obtain ⟨s0, q0, rfl, z0⟩ := DataW.trod_string Try.underlying9 e0
    obtain ⟨s1, q1, rfl, z1⟩ := DataW.trod_string Try.underlying9 e1
    obtain ⟨s2, q2, rfl, z2⟩ := DataW.trod_string Try.underlying9 e2
    simp [Value.cells] at q0 q1 q2
    simp at hx
    unfold maxLen at z0 z1 z2
    exact ⟨s0, s1, s2, by rw [q0, q1, q2], z0, z1, z2, hx.2⟩

/-- A slice of texts that came in. -/
theorem strs_of_trod {H : Type} {enc : TypeId × Value → H} {W : World} {fuel : Nat} {a0 : Option Addr} {len cap : Nat} {x : DataW H × List MemPlace} (h : DataW.trod enc Try.prog W 0 (fun _ => true) true fuel 22 (Value.slice a0 len cap).cells.toList = some x) :
    ∃ l : List ByteArray, l.length = len ∧ len ≤ cap ∧ cap ≤ 9223372036854775807 ∧ (∀ s ∈ l, s.size ≤ 9223372036854775807) ∧ Strs W (.slice a0 len cap) l := by
  rcases open_strings Try.underlying22 Try.underlying9 (by kernel_rfl) h with ⟨hcs, _⟩ | ⟨a, len', cap', ss, hcs, _, hl, hm, hz, _, hcell, hsz⟩
  · simp [Value.cells] at hcs
    obtain ⟨rfl, rfl, rfl⟩ := hcs
    exact ⟨[], rfl, by omega, by omega, by simp, none, 0, rfl, fun i hi => by simp at hi⟩
  · simp [Value.cells] at hcs
    obtain ⟨rfl, rfl, rfl⟩ := hcs
    simp only [if_true] at hz
    have hlen : (ss.take len).length = len := by simp; omega
    refine ⟨ss.take len, hlen, hl, by unfold maxLen at hm; exact hm, fun s hs => by have := hsz s (List.mem_of_mem_take hs); unfold maxLen at this; exact this, some a, cap, by rw [hlen], ?_⟩
    intro i hi
    rw [hlen] at hi
    obtain ⟨b, off, spot⟩ := a
    have hi' : i < ss.length := by omega
    have hspot : spot = none := by simpa [Addr.add] using World.cell?_spot (hcell 0 (by omega))
    subst hspot
    refine ⟨b, off, rfl, ?_⟩
    have hc := hcell i hi'
    have e : (ss.take len).getD i ⟨#[]⟩ = ss.getD i ByteArray.empty := by
      simp [List.getD, hi', hi]
    rw [e, ← hc]
    congr 1
    unfold Addr.add
    split
    · rename_i h0; simp
    · rfl
end Go.Proofs.Ytmciflpabnfeiaa

/-
  The statements' acts in memory; the names that they mean. The statements' acts: a small number; rows of them, and of numbers, that came in.
-/
import Derived.Test.YtmmoilmfpiclgaaGreatT34
import Derived.ProofKit
import Derived.OpenShut
import Derived.Lib.SmallJoins
import Derived.Deep.Slices
import Derived.Deep.Strs
import Derived.Deep.Fields
set_option linter.unusedVariables false
set_option linter.unusedSimpArgs false
namespace Go.Proofs.YtmmoilmfpiclgaaGreat
open Go.RowKit Go.Shelf

/-- One of the statements' acts, as far as they look at it. -/
structure Deed where
  what : Nat
  a : Nat
  b : Nat
  raw : ByteArray
  n : Int
  l : Value
deriving Inhabited
def Deed.vals (d : Deed) : Array Value := #[.int .u8 (d.what : Int), .int .u8 (d.a : Int), .int .u8 (d.b : Int), .string d.raw, .int .i16 d.n, d.l]
def Deed.ok (d : Deed) : Prop := d.what ≤ 255 ∧ d.a ≤ 255 ∧ d.b ≤ 255 ∧ d.raw.size ≤ Fld.nameMax ∧ -32768 ≤ d.n ∧ d.n ≤ 32767 ∧ ∃ ad n c, d.l = .slice ad n c
def DeedAt (w : World) (b o : Nat) (d : Deed) : Prop :=
  w.cell? ⟨b, o, none⟩ = some (.int .u8 (d.what : Int)) ∧ w.cell? ⟨b, o + 1, none⟩ = some (.int .u8 (d.a : Int)) ∧ w.cell? ⟨b, o + 2, none⟩ = some (.int .u8 (d.b : Int)) ∧ w.cell? ⟨b, o + 3, none⟩ = some (.string d.raw) ∧ w.cell? ⟨b, o + 4, none⟩ = some (.int .i16 d.n) ∧ w.cell? ⟨b, o + 5, none⟩ = some d.l
/-- A row of them. -/
def Deeds (w : World) (v : Value) (l : List Deed) : Prop :=
  ∃ ad c, v = .slice ad l.length c ∧ ∀ i, i < l.length → ∃ b o, ad = some ⟨b, o, none⟩ ∧ b < w.heap.size ∧ DeedAt w b (o + i * 6) (l.getD i default)
theorem DeedAt.below {w w' : World} {b o : Nat} {d : Deed} (h : DeedAt w b o d) (hb : Below w.heap.size w w') (hlt : b < w.heap.size) : DeedAt w' b o d := by
  obtain ⟨h0, h1, h2, h3, h4, h5⟩ := h
  exact ⟨by rw [hb.cell (p := ⟨b, o, none⟩) hlt]; exact h0, by rw [hb.cell (p := ⟨b, o + 1, none⟩) hlt]; exact h1, by rw [hb.cell (p := ⟨b, o + 2, none⟩) hlt]; exact h2, by rw [hb.cell (p := ⟨b, o + 3, none⟩) hlt]; exact h3, by rw [hb.cell (p := ⟨b, o + 4, none⟩) hlt]; exact h4, by rw [hb.cell (p := ⟨b, o + 5, none⟩) hlt]; exact h5⟩

/-- The name that an act means. -/
def nameD (raw : ByteArray) (k : Nat) : ByteArray :=
  if k % 16 = 15 then raw else if k % 4 = 0 then ⟨#[97]⟩ else if k % 4 = 1 then ⟨#[98]⟩ else if k % 4 = 2 then ⟨#[99]⟩ else ⟨#[108, 111, 103]⟩
theorem nameD_size {raw : ByteArray} (h : raw.size ≤ Fld.nameMax) (k : Nat) : (nameD raw k).size ≤ Fld.nameMax := by
  unfold nameD
  split
  · exact h
  · split
    · decide
    · split
      · decide
      · split
        · decide
        · decide

set_option maxHeartbeats 2000000 in
set_option maxRecDepth 100000 in
theorem named_any (d : Deed) (hl : ∃ ad n c, d.l = .slice ad n c) (k : Nat) (hk : k ≤ 255) (w : World) : Calls Tryz.prog 18 #[.agg d.vals, .int .u8 (k : Int)] w fun e w' => e = .returned (.string (nameD d.raw k)) ∧ Below w.heap.size w w' := by
  obtain ⟨what, a, b, raw, n, lv⟩ := d
  obtain ⟨ad, ln, c, rfl⟩ := hl
  unfold Deed.vals
  dsimp only
  have m16 : (k : Int).tmod 16 = ((k % 16 : Nat) : Int) := by rw [Int.tmod_eq_emod_of_nonneg (by omega)]; omega
  have m4 : (k : Int).tmod 4 = ((k % 4 : Nat) : Int) := by rw [Int.tmod_eq_emod_of_nonneg (by omega)]; omega
  have m16' : (k : Int) % 16 = ((k % 16 : Nat) : Int) := by omega
  have m4' : (k : Int) % 4 = ((k % 4 : Nat) : Int) := by omega
  have hne : (k % 16 = 15) ∨ (k % 16 ≠ 15) := by omega
  obtain ⟨s, hs⟩ : ∃ s, nameD raw k = s := ⟨_, rfl⟩
  rw [hs]
  unfold nameD at hs
  obtain ⟨x, hx⟩ : ∃ x, k % 16 = x := ⟨_, rfl⟩
  obtain ⟨y, hy⟩ : ∃ y, k % 4 = y := ⟨_, rfl⟩
  rw [hx] at m16 m16' hne hs
  rw [hy] at m4 m4' hs
  have hy4 : y < 4 := by omega
  have hyi : (y : Int) < 4 := by omega
  clear hx hy
  have HB := Lib.hid (fun o => ((Below.refl _ w).alloc (Nat.le_refl _) o : Below w.heap.size w (w.alloc o)))
  have HB2 := Lib.hid (fun o o' => (HB.out o).alloc (by simp) o')
  go_enter Tryz.func18, Tryz.ntmps18
  rcases hne with rfl | h
  · rw [if_pos rfl] at hs
    subst hs
    go_wp2
    go_ret
    exact ⟨rfl, HB.out _⟩
  · have e1 : decide (x = 15) = false := decide_eq_false h
    have e2 : decide ((x : Int) = 15) = false := decide_eq_false (by omega)
    rw [if_neg h] at hs
    have hy' : y = 0 ∨ y = 1 ∨ y = 2 ∨ y = 3 := by omega
    rcases hy' with rfl | rfl | rfl | rfl
    all_goals
      simp at hs
      subst hs
      go_wp2
      go_ret
      exact ⟨rfl, HB2.out _ _⟩
end Go.Proofs.YtmmoilmfpiclgaaGreat
namespace Go.Proofs.YtmmoilmfpiclgaaGreat
open Go.RowKit Go.Shelf

/-- The number that an act means. -/
def smallD (n : Int) : Int := if n.tmod 7 = 6 then n else (n.tmod 32 + 32).tmod 32 - 1
theorem smallD_small {n : Int} (h1 : -32768 ≤ n) (h2 : n ≤ 32767) : -32768 ≤ smallD n ∧ smallD n ≤ 32767 := by
  unfold smallD
  split
  · exact ⟨h1, h2⟩
  · have h3 : -32 < n.tmod 32 ∧ n.tmod 32 < 32 := by
      constructor
      · have := Int.lt_tmod_of_pos n (b := 32) (by omega); omega
      · exact Int.tmod_lt_of_pos n (by omega)
    have h4 : (n.tmod 32 + 32).tmod 32 = (n.tmod 32 + 32) % 32 := Int.tmod_eq_emod_of_nonneg (by omega)
    rw [h4]
    omega

set_option maxHeartbeats 2000000 in
set_option maxRecDepth 100000 in
theorem small_any (d : Deed) (hl : ∃ ad n c, d.l = .slice ad n c) (h1 : -32768 ≤ d.n) (h2 : d.n ≤ 32767) (w : World) : Calls Tryz.prog 21 #[.agg d.vals] w fun e w' => e = .returned (.int .i64 (smallD d.n)) ∧ Below w.heap.size w w' := by
  obtain ⟨what, a, b, raw, n, lv⟩ := d
  obtain ⟨ad, ln, c, rfl⟩ := hl
  unfold Deed.vals
  dsimp only at h1 h2 ⊢
  have HB := Lib.hid (fun o => ((Below.refl _ w).alloc (Nat.le_refl _) o : Below w.heap.size w (w.alloc o)))
  obtain ⟨r, hr⟩ : ∃ r, smallD n = r := ⟨_, rfl⟩
  rw [hr]
  unfold smallD at hr
  obtain ⟨m7, hm7⟩ : ∃ m7, n.tmod 7 = m7 := ⟨_, rfl⟩
  obtain ⟨m32, hm32⟩ : ∃ m32, n.tmod 32 = m32 := ⟨_, rfl⟩
  have b32 : -32 < m32 ∧ m32 < 32 := by
    rw [← hm32]
    constructor
    · have := Int.lt_tmod_of_pos n (b := 32) (by omega); omega
    · exact Int.tmod_lt_of_pos n (by omega)
  obtain ⟨q, hq⟩ : ∃ q, m32 + 32 = q := ⟨_, rfl⟩
  have w1 : wrap64 (m32 + 32) = q := by unfold wrap64; omega
  have w1' : IntKind.i64.wrap (m32 + 32) = q := by rw [hq]; exact IntWalk.i64_in _ (by omega)
  obtain ⟨t, ht⟩ : ∃ t, q.tmod 32 = t := ⟨_, rfl⟩
  have ht2 : 0 ≤ t ∧ t < 32 := by
    rw [← ht, Int.tmod_eq_emod_of_nonneg (by omega)]
    omega
  obtain ⟨u, hu⟩ : ∃ u, t - 1 = u := ⟨_, rfl⟩
  have w2 : wrap64 (t - 1) = u := by unfold wrap64; omega
  have w2' : IntKind.i64.wrap (t - 1) = u := by rw [hu]; exact IntWalk.i64_in _ (by omega)
  rw [hm7, hm32, hq, ht, hu] at hr
  clear hq hu ht2 b32
  by_cases h : m7 = 6
  · rw [if_pos h] at hr
    subst hr
    have e1 : (m7 == 6) = true := by rw [h]; rfl
    have e2 : decide (m7 = 6) = true := decide_eq_true h
    clear h w1 w1' w2 w2' hm32 ht
    go_enter Tryz.func21, Tryz.ntmps21
    go_wp2
    go_ret
    exact ⟨rfl, HB.out _⟩
  · rw [if_neg h] at hr
    subst hr
    have e1 : (m7 == 6) = false := by simpa using h
    have e2 : decide (m7 = 6) = false := decide_eq_false h
    clear h
    go_enter Tryz.func21, Tryz.ntmps21
    go_wp2
    go_ret
    exact ⟨rfl, HB.out _⟩
end Go.Proofs.YtmmoilmfpiclgaaGreat

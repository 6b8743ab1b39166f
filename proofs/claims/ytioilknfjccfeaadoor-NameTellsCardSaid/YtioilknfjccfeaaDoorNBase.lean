/-
  What the tables hold, and numbered, number, digits: the first contracts.
-/
import Derived.Test.YtioilknfjccfeaaDoorKit
import Derived.Test.YtioilknfjccfeaaDoorStrs
import Derived.Test.YtioilknfjccfeaaDoorNMath2
import Derived.Test.YtioilknfjccfeaaDoorShelf
import Derived.Test.YtioilknfjccfeaaDoorNIter
import Derived.Lib.SmallJoins
namespace Go.Proofs.YtioilknfjccfeaaDoor
open Go.RowKit

/-- What the program's text lays in its variables. -/
structure Tabs (W : World) : Prop where
  texts : ∀ j, j < 5 → W.cell? ⟨0, j, none⟩ = some (.string (Plain.headT j))
  pow : Lib.TabIs Tryd.prog W "internal/strconv.uint64pow10" .u64 Lib.pow10Tab
  syn : ∃ te pe, W.cell? ⟨1, 0, none⟩ = some (.iface te pe)
  rng : ∃ te pe, W.cell? ⟨2, 0, none⟩ = some (.iface te pe)

theorem gPow : Tryd.prog.globalNamed "internal/strconv.uint64pow10" = some 3 := by kernel_rfl

theorem Tabs.below {W W' : World} (h : Tabs W) (hb : Below W.heap.size W W') : Tabs W' := by
  have kept : ∀ (b i : Nat) (v : Value), W.cell? ⟨b, i, none⟩ = some v → W'.cell? ⟨b, i, none⟩ = some v := fun b i v hv => by
    rw [hb.cell (p := ⟨b, i, none⟩) (block_lt_of_cell hv)]
    exact hv
  refine ⟨fun j hj => kept _ _ _ (h.texts j hj), Go.Joins.tab_stays gPow h.pow hb (Nat.le_refl _), ?_, ?_⟩
  · obtain ⟨te, pe, hc⟩ := h.syn
    exact ⟨te, pe, kept _ _ _ hc⟩
  · obtain ⟨te, pe, hc⟩ := h.rng
    exact ⟨te, pe, kept _ _ _ hc⟩

theorem Tabs.regrown {W : World} (h : Tabs W) (d : Nat) (os : Array Obj) : Tabs (Sort.grow (redrawn W d) os) := h.below (below_regrown W d os)

/-- Is it a log's or a segment's kind? -/
def numd (k : Int) : Bool := decide (k = 3 ∨ k = 4)

theorem numbered_any (k : Int) (w : World) : Calls Tryd.prog 22 #[.int .i64 k] w fun e w' => e = .returned (.bool (numd k)) ∧ w' = w := by
  by_cases h3 : k = 3
  · subst h3
    go_enter Tryd.func22, Tryd.ntmps22
    go_wp2
    go_ret
    exact ⟨rfl, rfl⟩
  · by_cases h4 : k = 4
    · subst h4
      go_enter Tryd.func22, Tryd.ntmps22
      go_wp2
      go_ret
      exact ⟨rfl, rfl⟩
    · have h3' : decide (k = 3) = false := decide_eq_false h3
      have h4' : decide (k = 4) = false := decide_eq_false h4
      have hn : numd k = false := by simp [numd, h3, h4]
      rw [hn]
      clear hn
      go_enter Tryd.func22, Tryd.ntmps22
      go_wp2
      go_ret
      exact ⟨by simp [h3, h4], rfl⟩

/-- What a number stands for behind the beginning of a name of kind k. -/
def numA (k : Int) (t : ByteArray) : Int := if numd k then Plain.readN t.data.toList else 0

theorem below_grew (w : World) (k : Nat) (os : Array Obj) : Below w.heap.size w (Sort.grow (w.drewN k) os) := 
  ⟨rfl, rfl, rfl, by simp [Sort.grow, World.drewN], fun k' hk => by simp [Sort.grow, World.drewN, Array.getElem?_append, hk]⟩

theorem itoa_any (n : Nat) (h : n ≤ 1000000000) (w : World) (hT : Tabs w) : Calls Tryd.prog 23 #[.int .i64 (n : Int)] w fun e w' => e = .returned (.string (Plain.decs n)) ∧ Below w.heap.size w w' := by
  refine (Tryd.strconv_Itoa (n : Int) (by omega) (by omega) w hT.pow).mono fun e w' h => ?_
  obtain ⟨rfl, k, os, rfl⟩ := h
  refine ⟨?_, below_grew w k os⟩
  rw [Lib.itoa_nonneg]
  rfl

theorem number_any (k : Int) (t : ByteArray) (ht : t.size ≤ 281474976710656) (w : World) (hT : Tabs w) : Calls Tryd.prog 21 #[.int .i64 k, .string t] w fun e w' => e = .returned (.int .i64 (numA k t)) ∧ Below w.heap.size w w' := by
  have key : Calls Tryd.prog 26 #[.string t] w fun e w' => (∃ x, e = .returned (.tuple #[.int .i64 (Plain.readN t.data.toList), x])) ∧ Below w.heap.size w w' := by
    obtain ⟨te, pe, hs⟩ := hT.syn
    obtain ⟨te', pe', hr⟩ := hT.rng
    unfold Plain.readN
    rcases h : Lib.atoiAll t.data.toList with v | _ | _
    · refine (Tryd.strconv_Atoi_ok t (by omega) v h w).mono fun e w' hh => ?_
      obtain ⟨rfl, rfl | ⟨r, rfl⟩⟩ := hh
      · exact ⟨⟨_, rfl⟩, Below.refl _ _⟩
      · exact ⟨⟨_, rfl⟩, below_conv w r⟩
    · refine (Tryd.strconv_Atoi_syntax t ht h _ w hs (.inr ⟨_, _, rfl⟩)).mono fun e w' hh => ?_
      obtain ⟨N, rfl, -, -, hb⟩ := hh
      exact ⟨⟨_, rfl⟩, hb⟩
    · refine (Tryd.strconv_Atoi_range t ht h _ w hr (.inr ⟨_, _, rfl⟩)).mono fun e w' hh => ?_
      obtain ⟨N, rfl, -, -, hb⟩ := hh
      exact ⟨⟨_, rfl⟩, hb⟩
  have K := Lib.hid key
  clear key
  cases hk : numd k with
  | false =>
    have hn : numA k t = 0 := by simp [numA, hk]
    rw [hn]
    have H := Lib.hid (numbered_any k w)
    rw [hk] at H
    clear hn hk
    go_enter Tryd.func21, Tryd.ntmps21
    go_wp2_with (go_at_call 22; refine H.out.mono ?_; rintro e w' ⟨rfl, rfl⟩)
    go_ret
    exact ⟨rfl, Below.refl _ _⟩
  | true =>
    have hn : numA k t = Plain.readN t.data.toList := by simp [numA, hk]
    rw [hn]
    have H := Lib.hid (numbered_any k w)
    rw [hk] at H
    clear hn hk
    go_enter Tryd.func21, Tryd.ntmps21
    go_wp2_with (first
      | (go_at_call 22; refine H.out.mono ?_; rintro e w' ⟨rfl, rfl⟩)
      | (go_at_call 26; refine K.out.mono ?_; rintro e w1 ⟨⟨x, rfl⟩, hb⟩; have HB := Lib.hid hb; clear hb))
    go_ret
    exact ⟨rfl, HB.out⟩
end Go.Proofs.YtioilknfjccfeaaDoor

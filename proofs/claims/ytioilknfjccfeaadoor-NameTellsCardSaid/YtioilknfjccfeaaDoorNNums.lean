/-
  Rows of ints; name.rising, name.Numbers.
-/
import Derived.Test.YtioilknfjccfeaaDoorNRefP
import Derived.Sort.OwnSortedInts
namespace Go.Proofs.YtioilknfjccfeaaDoor
open Go.RowKit Go.Sort

/-- Numbers as ints in cells. -/
def i64s (l : List Nat) : List Value := l.map fun (n : Nat) => Value.int .i64 (n : Int)

/-- v is a slice that holds these ints. -/
def Ints (w : World) (v : Value) (l : List Nat) : Prop :=
  ∃ ad c, v = .slice ad l.length c ∧ ∀ i, i < l.length → ∃ b o, ad = some ⟨b, o, none⟩ ∧ w.cell? ⟨b, o + i, none⟩ = some (.int .i64 ((l.getD i 0 : Nat) : Int))

theorem Ints.below {w w' : World} {v : Value} {l : List Nat} (h : Ints w v l) (hb : Below w.heap.size w w') : Ints w' v l := by
  obtain ⟨ad, c, hv, hc⟩ := h
  refine ⟨ad, c, hv, fun i hi => ?_⟩
  obtain ⟨b, o, ha, hci⟩ := hc i hi
  refine ⟨b, o, ha, ?_⟩
  rw [hb.cell (p := ⟨b, o + i, none⟩) (block_lt_of_cell hci)]
  exact hci

theorem ints_of_owns {W : World} {base : Nat} {v : Value} {l : List Nat} (h : W.ownsRow base 3 1 v l.length (i64s l)) : Ints W v l := by
  rcases h.2 with ⟨rfl, h0⟩ | ⟨g, cap, cur, rfl, _, hg, _, _, _, ht⟩
  · exact ⟨none, 0, by rw [h0], fun i hi => by omega⟩
  · refine ⟨_, cap, rfl, fun i hi => ⟨g, 0, rfl, ?_⟩⟩
    have hx : (i64s l)[i]? = some (.int .i64 ((l.getD i 0 : Nat) : Int)) := by simp [i64s, hi]
    rw [← ht, List.getElem?_take] at hx
    split at hx
    · rw [Array.getElem?_toList] at hx
      simp [World.cell?, hg, hx]
    · cases hx

theorem ints_nil (W : World) (ad : Option Addr) (c : Nat) : Ints W (.slice ad 0 c) [] := ⟨ad, c, rfl, fun i hi => by simp at hi⟩

theorem i3 : (Tryd.prog.info? 3).map (fun i => (i.zero, i.size, i.bytes)) = some (some (.int .i64 0), 1, 8) := by kernel_rfl

theorem below_put {α : Type} [Inhabited α] {B : Nat} {enc : α → Value} {w : World} {n blk off : Nat} {d : Array α} (h : B ≤ blk) : Below B w (putRow enc (Sort.ahead w n) blk off d) :=
  ⟨rfl, rfl, rfl, by simp [Sort.ahead], fun k hk => by
    simp only [putRow, mapBlock, Sort.ahead, Array.getElem?_modify]
    rw [if_neg (by omega)]⟩

theorem below_grow' {B : Nat} {w : World} (os : Array Obj) (h : B ≤ w.heap.size) : Below B w (Sort.grow w os) :=
  ⟨rfl, rfl, rfl, by simp [Sort.grow], fun k hk => by simp [Sort.grow, Array.getElem?_append, show k < w.heap.size by omega]⟩

theorem ints_cells (l : List Nat) : (Plain.ints l).map (Value.int .i64) = i64s l := by
  unfold Plain.ints i64s
  rw [List.map_map]
  rfl

theorem rising_none (w : World) : Calls Tryd.prog 24 #[.slice none 0 0] w fun e w' => e = .returned (.slice none 0 0) ∧ w' = w := by
  have q28 := AnyM.slices_Sort_int_none Tryd.sort28 none 0 w
  have q29 := AnyG.slices_Compact_int_empty Tryd.comp29 none 0 w
  change Calls Tryd.prog 28 _ _ _ at q28
  change Calls Tryd.prog 29 _ _ _ at q29
  go_enter Tryd.func24, Tryd.ntmps24
  go_wp2_with (first
    | (go_at_call 28; (with_reducible refine q28.mono ?_); rintro e w' ⟨rfl, rfl⟩)
    | (go_at_call 29; (with_reducible refine q29.mono ?_); rintro e w' ⟨rfl, rfl⟩))
  go_ret
  exact ⟨rfl, rfl⟩

theorem rising_any (l : List Nat) (v : Value) (base : Nat) (w : World) (hl : l.length < 4611686018427387904) (h : w.ownsRow base 3 1 v l.length (i64s l)) :
    Calls Tryd.prog 24 #[v] w fun e w' => (∃ r, e = .returned r ∧ Ints w' r (Plain.insAll l)) ∧ Below base w w' := by
  rcases h.2 with ⟨rfl, h0⟩ | ⟨g, cap, cur, rfl, hbg, hg, hnc, hcm, -, ht⟩
  · obtain rfl : l = [] := List.length_eq_zero_iff.1 h0
    exact (rising_none w).mono fun e w' ⟨he, hw⟩ => ⟨⟨_, he, ints_nil _ _ _⟩, hw ▸ Below.refl _ _⟩
  · have hgs : g < w.heap.size := (Array.getElem?_eq_some_iff.1 hg).1
    have hzl : (Plain.ints l).length = l.length := Plain.ints_length l
    have hH : Holds (Value.int .i64) w g 0 (Plain.ints l).toArray := holds_of_blockI hg (by rw [ints_cells, hzl]; simpa using ht)
    have q28 := AnyM.slices_Sort_int Tryd.sort28 g 0 cap (Plain.ints l) w hH hgs (by omega)
    rw [hzl] at q28
    obtain ⟨S, hS⟩ : ∃ S, (Plain.ints l).mergeSort (fun x y => decide (x ≤ y)) = S := ⟨_, rfl⟩
    have hSl : S.length = l.length := by rw [← hS, List.length_mergeSort, hzl]
    have hC : Lib.compact S = Plain.ints (Plain.insAll l) := by rw [← hS]; exact Plain.compact_sorted l
    rw [hS] at q28
    have q29 : ∀ n os, Calls Tryd.prog 29 #[.slice (some ⟨g, 0, none⟩) l.length cap] (Sort.grow (putRow (Value.int .i64) (Sort.ahead w n) g 0 S.toArray) os) fun e w' => e = .returned (.slice (some ⟨g, 0, none⟩) (Plain.insAll l).length cap) ∧ Ints w' (.slice (some ⟨g, 0, none⟩) (Plain.insAll l).length cap) (Plain.insAll l) ∧ Below base w w' := by
      intro n os
      obtain ⟨w1, hw1⟩ : ∃ w1, Sort.grow (putRow (Value.int .i64) (Sort.ahead w n) g 0 S.toArray) os = w1 := ⟨_, rfl⟩
      have hH1 : Holds (Value.int .i64) w1 g 0 S.toArray := by
        rw [← hw1]
        exact holds_grow _ _ _ _ _ _ (by simpa [Sort.ahead] using hgs) (holds_putRow _ _ _ _ _ _ (holds_ahead _ w n g 0 _ hH) (by simp [hSl, hzl]))
      have hb1 : Below base w w1 := by
        rw [← hw1]
        have h1 : Below base w (putRow (Value.int .i64) (Sort.ahead w n) g 0 S.toArray) := below_put hbg
        exact h1.trans (below_grow' os (by have := h1.size; omega))
      rw [hw1]
      have q := AnyG.slices_Compact_int Tryd.comp29 g 0 cap S w1 hH1 (by omega) (by omega)
      rw [hSl, hC] at q
      refine q.mono fun e w' hh => ?_
      obtain ⟨rfl, q, rfl⟩ := hh
      rw [Plain.ints_length]
      refine ⟨rfl, ⟨_, _, rfl, fun i hi => ⟨g, 0, rfl, ?_⟩⟩, hb1.trans (below_put hbg)⟩
      have hle : (Plain.insAll l).length ≤ l.length := Plain.rises_length_le (Plain.insAll_rises l) fun x hx => Plain.insAll_mem.1 hx
      rw [cell?_putRow _ _ _ _ S.toArray _ (holds_ahead _ w1 q g 0 _ hH1) (by simp [hSl, Plain.ints_length]; omega) i (by simp [Plain.ints_length]; omega)]
      congr 2
      rw [getElem!_pos _ i (by simp [Plain.ints_length]; omega)]
      simp [Plain.ints, hi]
    change Calls Tryd.prog 28 _ _ _ at q28
    have Q29 := Lib.hid q29
    clear q29 hS hC hSl hH hzl ht
    go_enter Tryd.func24, Tryd.ntmps24
    go_wp2_with (first
      | (go_at_call 28; (with_reducible refine q28.mono ?_); rintro e w' ⟨rfl, n, os, rfl⟩)
      | (go_at_call 29; (with_reducible refine (Q29.out _ _).mono ?_); rintro e w' ⟨rfl, hi, hb⟩; have HI := Lib.hid hi; have HB := Lib.hid hb; clear hi hb))
    go_ret
    exact ⟨⟨_, rfl, HI.out⟩, HB.out⟩
end Go.Proofs.YtioilknfjccfeaaDoor

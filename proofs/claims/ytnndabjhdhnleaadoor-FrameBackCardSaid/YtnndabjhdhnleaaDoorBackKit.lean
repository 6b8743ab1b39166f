/-
  Frames' places, as a row of numbers; a slice of ints.
-/
import Derived.Test.YtnndabjhdhnleaaDoorFMath2
import Derived.Test.YtnndabjhdhnleaaDoorStrs
namespace Go.Proofs.YtnndabjhdhnleaaDoor
open Go.RowKit

/-- The place behind so many frames. -/
def endAt (O : List ByteArray) (i : Nat) : Nat := (frs (O.take i)).length

/-- All places: ahead of the first frame, and behind each. -/
def endsOf (O : List ByteArray) : List Nat := (List.range (O.length + 1)).map (endAt O)

theorem endsOf_length (O : List ByteArray) : (endsOf O).length = O.length + 1 := by simp [endsOf]

theorem endsOf_getD (O : List ByteArray) (i : Nat) (h : i ≤ O.length) : (endsOf O).getD i 0 = endAt O i := by
  simp [endsOf, List.getD, show i < O.length + 1 by omega]

theorem endAt_append (O : List ByteArray) (p : ByteArray) (i : Nat) (h : i ≤ O.length) : endAt (O ++ [p]) i = endAt O i := by
  unfold endAt
  rw [List.take_append_of_le_length h]

theorem endAt_all (O : List ByteArray) : endAt O O.length = (frs O).length := by unfold endAt; rw [List.take_length]

theorem endAt_zero (O : List ByteArray) : endAt O 0 = 0 := rfl

theorem endsOf_append (O : List ByteArray) (p : ByteArray) : endsOf (O ++ [p]) = endsOf O ++ [(frs (O ++ [p])).length] := by
  unfold endsOf
  rw [List.length_append, List.length_singleton, List.range_succ (n := O.length + 1), List.map_append, List.map_singleton]
  congr 1
  · apply List.map_congr_left
    intro i hi
    exact endAt_append O p i (by have := List.mem_range.1 hi; omega)
  · congr 1
    have := endAt_all (O ++ [p])
    rw [List.length_append, List.length_singleton] at this
    exact this

theorem endAt_succ (O : List ByteArray) (i : Nat) (h : i < O.length) : endAt O (i + 1) = endAt O i + (frameOf O[i]).size := by
  unfold endAt
  rw [List.take_succ_eq_append_getElem h, frs_append, frs_one, List.length_append, ba_length]

theorem endAt_le (O : List ByteArray) (i : Nat) : endAt O i ≤ (frs O).length := by
  have e : frs O = frs (O.take i) ++ frs (O.drop i) := by rw [← frs_append, List.take_append_drop]
  unfold endAt
  rw [e, List.length_append]
  omega

theorem take_split' {O : List ByteArray} {i : Nat} (h : i < O.length) : O.take i ++ O[i] :: O.drop (i + 1) = O := by
  rw [← List.drop_eq_getElem_cons h, List.take_append_drop]

/-- The frame at its place. -/
theorem back_fget (S : ByteArray) (O : List ByteArray) (hO : ∀ p ∈ O, fits p.size = true) (hS : S.data.toList = frs O) (i : Nat) (h : i < O.length) : fget S (endAt O i : Int) = (O[i], (endAt O (i + 1) : Int), 0) := by
  have := fget_at_frame S (O.take i) (O.drop (i + 1)) O[i] [] (hO _ (List.getElem_mem h)) (by rw [take_split' h, List.append_nil]; exact hS)
  unfold endAt
  rw [this, List.take_succ_eq_append_getElem h]

/-- Cut anywhere. -/
theorem back_cut (S : ByteArray) (O : List ByteArray) (hO : ∀ p ∈ O, fits p.size = true) (hS : S.data.toList = frs O) (n j : Nat) (hj : j ≤ O.length) (hn : n ≤ S.size) (h1 : endAt O j ≤ n) (h2 : j = O.length ∨ n < endAt O (j + 1)) :
    fall (S.extract 0 n) = (O.take j, (endAt O j : Int), if n = endAt O j then 0 else 3) := by
  have hsz : S.size = (frs O).length := by rw [← hS, ba_length]
  have hl : (S.extract 0 n).data.toList = (frs O).take n := by rw [ex_list, List.drop_zero, Nat.sub_zero, hS]
  have e : frs O = frs (O.take j) ++ frs (O.drop j) := by rw [← frs_append, List.take_append_drop]
  by_cases he : n = endAt O j
  · rw [if_pos he]
    have hx : (S.extract 0 n).data.toList = frs (O.take j) := by
      rw [hl, e, he]; unfold endAt; rw [List.take_left]
    have := fall_whole (S.extract 0 n) (O.take j) (fun p hp => hO p (List.mem_of_mem_take hp)) hx
    rw [this]
    have hs : (S.extract 0 n).size = n := by rw [ByteArray.size_extract]; omega
    rw [hs, he]
  · rw [if_neg he]
    have hjl : j < O.length := by
      rcases h2 with h2 | h2
      · subst h2
        rw [endAt_all] at h1 he
        omega
      · rcases Nat.lt_or_ge j O.length with h | h
        · exact h
        · have : j = O.length := by omega
          subst this
          rw [endAt_all] at h1 he
          omega
    have hlt : n < endAt O (j + 1) := by
      rcases h2 with h2 | h2
      · omega
      · exact h2
    rw [endAt_succ O j hjl] at hlt
    have hd : frs (O.drop j) = (frameOf O[j]).data.toList ++ frs (O.drop (j + 1)) := by rw [List.drop_eq_getElem_cons hjl, frs_cons]
    have hx : (S.extract 0 n).data.toList = frs (O.take j) ++ (frameOf O[j]).data.toList.take (n - endAt O j) := by
      rw [hl, e, hd, List.take_append, List.take_of_length_le (by exact h1), List.take_append_of_le_length (by rw [ba_length]; unfold endAt at hlt h1; omega)]
      rfl
    have := fall_cut (S.extract 0 n) (O.take j) O[j] (n - endAt O j) (fun p hp => hO p (List.mem_of_mem_take hp)) (hO _ (List.getElem_mem hjl)) (by omega) (by omega) hx
    rw [this]
    rfl

/-- Numbers as ints in cells. -/
def i64s (l : List Nat) : List Value := l.map fun (n : Nat) => Value.int .i64 (n : Int)

/-- v is a slice that holds these ints. -/
def Ints (w : World) (v : Value) (l : List Nat) : Prop :=
  ∃ ad c, v = .slice ad l.length c ∧ ∀ i, i < l.length → ∃ b o, ad = some ⟨b, o, none⟩ ∧ w.cell? ⟨b, o + i, none⟩ = some (.int .i64 ((l.getD i 0 : Nat) : Int))

theorem Ints.below {w w' : World} {v : Value} {l : List Nat} (h : Ints w v l) (hb : Below w.heap.size w w') : Ints w' v l := by
  obtain ⟨ad, c, hv, hc⟩ := h
  refine ⟨ad, c, hv, fun i hi => ?_⟩
  obtain ⟨b, o, ha, hci⟩ := hc i hi
  refine ⟨b, o, ha, ?_⟩
  rw [hb.cell (p := ⟨b, o + i, none⟩) (block_lt_of_cell hci)]
  exact hci

theorem ints_of_owns {W : World} {base : Nat} {v : Value} {l : List Nat} (h : W.ownsRow base 3 1 v l.length (i64s l)) : Ints W v l := by
  rcases h.2 with ⟨rfl, h0⟩ | ⟨g, cap, cur, rfl, _, hg, _, _, _, ht⟩
  · exact ⟨none, 0, by rw [h0], fun i hi => by omega⟩
  · refine ⟨_, cap, rfl, fun i hi => ⟨g, 0, rfl, ?_⟩⟩
    have hx : (i64s l)[i]? = some (.int .i64 ((l.getD i 0 : Nat) : Int)) := by simp [i64s, hi]
    rw [← ht, List.getElem?_take] at hx
    split at hx
    · rw [Array.getElem?_toList] at hx
      simp [World.cell?, hg, hx]
    · cases hx

theorem i3 : (Tryd.prog.info? 3).map (fun i => (i.zero, i.size, i.bytes)) = some (some (.int .i64 0), 1, 8) := by kernel_rfl
end Go.Proofs.YtnndabjhdhnleaaDoor

/-
  Lists without what is gone: the program's and the document's.
-/
import Derived.Test.YtfnmmnbndfdpiaaEEnts
namespace Go.Proofs.Ytfnmmnbndfdpiaa
open Go.RowKit Go.Sort

/-- What is live of a list. -/
def liveT (l : List Ent) : List Ent := l.filter fun e => !e.gone

theorem live_snoc (l : List Ent) (k : Nat) (h : k < l.length) : liveT (l.take (k + 1)) = if (ent l k).gone = true then liveT (l.take k) else liveT (l.take k) ++ [ent l k] := by
  unfold liveT
  rw [List.take_succ_eq_append_getElem h, List.filter_append, ent_lt h]
  cases hg : (l[k]).gone <;> simp [hg]

theorem liveT_length (l : List Ent) : (liveT l).length ≤ l.length := List.length_filter_le ..

set_option maxHeartbeats 1000000 in
set_option maxRecDepth 100000 in
theorem live_any (l : List Ent) (v : Value) (w : World) (hv : Ents w v l) (hlen : l.length ≤ 1000000) :
    Calls Try.prog 22 #[v] w fun e w' => ∃ v', e = .returned v' ∧ w'.ownsRow w.heap.size 24 3 v' (liveT l).length (ents (liveT l)) ∧ RowKit.Below w.heap.size w w' := by
  obtain ⟨ad, cp, rfl, hc⟩ := ents_cell hv
  have HC : Hid (∀ i, i < l.length → ∃ b o, ad = some ⟨b, o, none⟩ ∧ EntAt w b (o + i * 3) (ent l i)) := Lib.hid hc
  clear hc hv
  go_enter Try.func22, Try.ntmps22
  go_wp2
  go_loopw [3, 8] (fun s3 s8 wr => ∃ k : Nat, k ≤ l.length ∧ s8 = .int .i64 k ∧ wr.ownsRow w.heap.size 24 3 s3 (liveT (l.take k)).length (ents (liveT (l.take k))) ∧ RowKit.Below w.heap.size w wr) (fun _ s8 _ => l.length - (intOf s8).toNat)
  case atStart => exact ⟨0, Nat.zero_le _, rfl, ownsE_nil w _, RowKit.Below.refl _ _⟩
  case round =>
    obtain ⟨k, hk, rfl, hown, hb⟩ := hrel
    by_cases hlt : k < l.length
    · obtain ⟨b, o, rfl, hE⟩ := HC.out k hlt
      obtain ⟨h1, h2, h3⟩ := hE.below hb
      have hsn := live_snoc l k hlt
      have hle := Nat.le_trans (liveT_length (l.take k)) (List.length_take_le _ _)
      obtain ⟨y, hy⟩ : ∃ y, ent l k = y := ⟨_, rfl⟩
      rw [hy] at h1 h2 h3 hsn
      obtain ⟨O, hO⟩ : ∃ O, liveT (l.take k) = O := ⟨_, rfl⟩
      rw [hO] at hsn hown hle
      have hn : b ≠ wr.heap.size := Nat.ne_of_lt (block_lt_of_cell h1)
      clear hy hE hO
      cases hg : y.gone with
      | true =>
        rw [hg, if_pos rfl] at hsn
        rw [hg] at h3
        have HS := Lib.hid hsn
        clear hsn
        go_wp2
        exact ⟨⟨k + 1, by omega, by go_num, by rw [HS.out]; exact hown.alloc _, below_alloc' hb⟩, by simp [intOf]; omega⟩
      | false =>
        rw [hg, if_neg (by simp)] at hsn
        rw [hg] at h3
        have HS := Lib.hid hsn
        have hO1 := (hown.alloc (.cells #[.string y.word, .int .u32 (y.weight : Int), .bool false] 24)).alloc (.cells #[.string y.word, .int .u32 (y.weight : Int), .bool false] 24)
        have hO2 : Ents ((wr.alloc (.cells #[.string y.word, .int .u32 (y.weight : Int), .bool false] 24)).alloc (.cells #[.string y.word, .int .u32 (y.weight : Int), .bool false] 24)) (.slice (some ⟨wr.heap.size + 1, 0, none⟩) 1 1) [y] := by
          have := ents_single (w := wr.alloc (.cells #[.string y.word, .int .u32 (y.weight : Int), .bool false] 24)) (x := y) (g := wr.heap.size + 1) (by simp)
          rwa [hg] at this
        have HO1 := Lib.hid hO1
        have HO2 := Lib.hid hO2
        clear hsn hO1 hO2
        go_wp2_with (at_builtin; refine wpList_append_ents rfl _ _ rfl rfl w.heap.size _ _ O [y] rfl rfl HO1.out HO2.out (by simp; omega) (by have := hb.size; simp; omega) ?_; intro v' w' o1 g1)
        exact ⟨⟨k + 1, by omega, by go_num, by rw [HS.out]; exact o1, (below_alloc' (below_alloc' hb)).grown g1 (by have := hb.size; simp; omega) (fun j hj => (hown.lt j hj).1)⟩, by simp [intOf]; omega⟩
    · obtain rfl : k = l.length := by omega
      rw [List.take_length] at hown
      go_wp2
      go_ret
      exact ⟨_, rfl, hown, hb⟩

set_option maxHeartbeats 1000000 in
set_option maxRecDepth 100000 in
theorem refLive_any (l : List Ent) (v : Value) (w : World) (hv : Ents w v l) (hlen : l.length ≤ 1000000) :
    Calls Try.prog 23 #[v] w fun e w' => ∃ v', e = .returned v' ∧ w'.ownsRow w.heap.size 24 3 v' (liveT l).length (ents (liveT l)) ∧ RowKit.Below w.heap.size w w' := by
  obtain ⟨ad, cp, rfl, hc⟩ := ents_cell hv
  have HC : Hid (∀ i, i < l.length → ∃ b o, ad = some ⟨b, o, none⟩ ∧ EntAt w b (o + i * 3) (ent l i)) := Lib.hid hc
  clear hc hv
  go_enter Try.func23, Try.ntmps23
  go_wp2
  go_loopw [3, 4] (fun s3 s4 wr => ∃ k : Nat, k ≤ l.length ∧ s4 = .int .i64 k ∧ wr.ownsRow w.heap.size 24 3 s3 (liveT (l.take k)).length (ents (liveT (l.take k))) ∧ RowKit.Below w.heap.size w wr) (fun _ s4 _ => l.length - (intOf s4).toNat)
  case atStart => exact ⟨0, Nat.zero_le _, rfl, ownsE_nil w _, RowKit.Below.refl _ _⟩
  case round =>
    obtain ⟨k, hk, rfl, hown, hb⟩ := hrel
    by_cases hlt : k < l.length
    · obtain ⟨b, o, rfl, hE⟩ := HC.out k hlt
      obtain ⟨h1, h2, h3⟩ := hE.below hb
      have hsn := live_snoc l k hlt
      have hle := Nat.le_trans (liveT_length (l.take k)) (List.length_take_le _ _)
      obtain ⟨y, hy⟩ : ∃ y, ent l k = y := ⟨_, rfl⟩
      rw [hy] at h1 h2 h3 hsn
      obtain ⟨O, hO⟩ : ∃ O, liveT (l.take k) = O := ⟨_, rfl⟩
      rw [hO] at hsn hown hle
      have hn : b ≠ wr.heap.size := Nat.ne_of_lt (block_lt_of_cell h1)
      clear hy hE hO
      cases hg : y.gone with
      | true =>
        rw [hg, if_pos rfl] at hsn
        rw [hg] at h3
        have HS := Lib.hid hsn
        clear hsn
        go_wp2
        exact ⟨⟨k + 1, by omega, by go_num, by rw [HS.out]; exact hown, hb⟩, by simp [intOf]; omega⟩
      | false =>
        rw [hg, if_neg (by simp)] at hsn
        rw [hg] at h3
        have HS := Lib.hid hsn
        have hO1 := hown.alloc (.cells #[.string y.word, .int .u32 (y.weight : Int), .bool false] 24)
        have hO2 : Ents (wr.alloc (.cells #[.string y.word, .int .u32 (y.weight : Int), .bool false] 24)) (.slice (some ⟨wr.heap.size, 0, none⟩) 1 1) [y] := by
          have := ents_single (w := wr) (x := y) (g := wr.heap.size) rfl
          rwa [hg] at this
        have HO1 := Lib.hid hO1
        have HO2 := Lib.hid hO2
        clear hsn hO1 hO2
        go_wp2_with (at_builtin; refine wpList_append_ents rfl _ _ rfl rfl w.heap.size _ _ O [y] rfl rfl HO1.out HO2.out (by simp; omega) (by have := hb.size; simp; omega) ?_; intro v' w' o1 g1)
        exact ⟨⟨k + 1, by omega, by go_num, by rw [HS.out]; exact o1, (below_alloc' hb).grown g1 (by have := hb.size; simp; omega) (fun j hj => (hown.lt j hj).1)⟩, by simp [intOf]; omega⟩
    · obtain rfl : k = l.length := by omega
      rw [List.take_length] at hown
      go_wp2
      go_ret
      exact ⟨_, rfl, hown, hb⟩
end Go.Proofs.Ytfnmmnbndfdpiaa

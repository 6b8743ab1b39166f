/-
  A word's entry in a list: the program's and the document's.
-/
import Derived.Test.YtfnmmnbndfdpiaaEPlace
namespace Go.Proofs.Ytfnmmnbndfdpiaa
open Go.RowKit Go.Sort

/-- The word's entry, or a zero one. -/
def foundT (l : List Ent) (c : List UInt8) : Ent := (findE l c).getD default

theorem find_first {l : List Ent} {c : List UInt8} {k : Nat} (h1 : ∀ j, j < k → key (ent l j) ≠ c) (hk : k < l.length) (h2 : key (ent l k) = c) : findE l c = some (ent l k) := by
  induction l generalizing k with
  | nil => simp at hk
  | cons x l ih =>
    rw [findE_cons]
    cases k with
    | zero => rw [if_pos (show key x = c from h2)]; rfl
    | succ k =>
      rw [if_neg (show ¬ key x = c from h1 0 (by omega))]
      exact ih (fun j hj => h1 (j + 1) (by omega)) (by simpa using hk) h2
theorem find_end {l : List Ent} {c : List UInt8} (h1 : ∀ j, j < l.length → key (ent l j) ≠ c) : findE l c = none := findE_none.2 fun x hx => by
  obtain ⟨j, hj, rfl⟩ := List.getElem_of_mem hx
  have := h1 j hj
  rwa [ent_lt hj] at this

theorem bare_default : bare default = default := rfl

set_option maxHeartbeats 1000000 in
set_option maxRecDepth 100000 in
theorem find_any (l : List Ent) (v : Value) (c : ByteArray) (w : World) (hr : risingE l = true) (hv : Ents w v l) (hlen : l.length ≤ 1000000) :
    Calls Try.prog 26 #[v, .string c] w fun e w' => e = .returned (.tuple #[.agg (enc (bare (foundT l c.data.toList))).toArray, .bool (isE l c.data.toList)]) ∧ RowKit.Below w.heap.size w w' := by
  have q41 := fun w0 (h : RowKit.Below w.heap.size w w0) => place_any l v c w0 hr (hv.below h) hlen
  cases hi : isE l c.data.toList with
  | true =>
    obtain ⟨hp, hf, hk⟩ := findE_at hr _ hi
    obtain ⟨p, hpp⟩ : ∃ p, placeE l c.data.toList = p := ⟨_, rfl⟩
    have hfound : foundT l c.data.toList = ent l p := by
      unfold foundT; rw [hf, ← hpp, ent_lt hp]; rfl
    rw [hi, hpp] at q41
    rw [hpp] at hp
    rw [hfound]
    exact find_is l v p hp w hv c hlen q41
  | false =>
    have hf : findE l c.data.toList = none := by
      unfold isE at hi
      cases h : findE l c.data.toList with
      | none => rfl
      | some x => rw [h] at hi; cases hi
    have hfound : foundT l c.data.toList = default := by unfold foundT; rw [hf]; rfl
    rw [hi] at q41
    rw [hfound, bare_default]
    obtain ⟨p, hpp⟩ : ∃ p, placeE l c.data.toList = p := ⟨_, rfl⟩
    rw [hpp] at q41
    have Q41 := Lib.hid q41
    obtain ⟨ad, cp, rfl, _⟩ := hv
    clear hf hfound hpp hi q41 hr
    go_enter Try.func26, Try.ntmps26
    go_wp2_with (go_at_call 41; (with_reducible refine (Q41.out _ (below_alloc w _)).mono ?_); rintro e w1 ⟨rfl, hb1⟩; obtain ⟨hc1, hf1⟩ := bcell hb1; have hz1 : w.heap.size < w1.heap.size := by have := hb1.size; simp at this; omega)
    have hbw := Below.next (below_alloc w _) hb1
    obtain ⟨k0, k1, k2⟩ := box_kept hb1
    have k3 := set3 k0 k1 k2 (.string ⟨#[]⟩) (.int .u32 0) (.bool false)
    have hbw3 := ((hbw.setCell (p := ⟨w.heap.size, 0, none⟩) (Nat.le_refl _) (.string ⟨#[]⟩)).setCell (p := ⟨w.heap.size, 1, none⟩) (Nat.le_refl _) (.int .u32 0)).setCell (p := ⟨w.heap.size, 2, none⟩) (Nat.le_refl _) (.bool false)
    generalize ((w1.setCell ⟨w.heap.size, 0, none⟩ (.string ⟨#[]⟩)).setCell ⟨w.heap.size, 1, none⟩ (.int .u32 0)).setCell ⟨w.heap.size, 2, none⟩ (.bool false) = w3 at k3 hbw3 ⊢
    obtain ⟨k4, k5, k6⟩ := k3
    exact bodyPost_ret (v := .tuple #[.agg #[.string ⟨#[]⟩, .int .u32 0, .bool false], .bool false]) (by simp [results, Try.results26, go_sem, k4, k5, k6]) rfl ⟨rfl, hbw3⟩

theorem key_beq (y : Ent) (c : ByteArray) : (y.word.toList == c.toList) = decide (key y = c.data.toList) := by
  rw [toList_beq]
  by_cases h : key y = c.data.toList
  · rw [decide_eq_true h, decide_eq_true (ByteArray.ext (Array.toList_inj.1 h))]
  · rw [decide_eq_false h, decide_eq_false (fun e => h (by unfold key; rw [e]))]

set_option maxHeartbeats 1000000 in
set_option maxRecDepth 100000 in
theorem refFind_any (l : List Ent) (v : Value) (c : ByteArray) (w : World) (hv : Ents w v l) (hlen : l.length ≤ 1000000) :
    Calls Try.prog 27 #[v, .string c] w fun e w' => e = .returned (.tuple #[.agg (enc (foundT l c.data.toList)).toArray, .bool (isE l c.data.toList)]) ∧ RowKit.Below w.heap.size w w' := by
  obtain ⟨ad, cp, rfl, hc⟩ := ents_cell hv
  have HC : Hid (∀ i, i < l.length → ∃ b o, ad = some ⟨b, o, none⟩ ∧ EntAt w b (o + i * 3) (ent l i)) := Lib.hid hc
  clear hc hv
  go_enter Try.func27, Try.ntmps27
  go_wp2
  go_loop [6] (fun s6 => ∃ k : Nat, k ≤ l.length ∧ s6 = .int .i64 k ∧ Hid (∀ j, j < k → key (ent l j) ≠ c.data.toList)) (fun s6 => l.length - (intOf s6).toNat)
  case atStart => exact ⟨0, Nat.zero_le _, rfl, Lib.hid fun j hj => by omega⟩
  case round =>
    obtain ⟨k, hk, rfl, HI⟩ := hrel
    by_cases hlt : k < l.length
    · obtain ⟨b, o, rfl, hE⟩ := HC.out k hlt
      obtain ⟨h1, h2, h3⟩ := hE
      have hn : b ≠ w.heap.size := Nat.ne_of_lt (block_lt_of_cell h1)
      have hblt : b < w.heap.size := block_lt_of_cell h1
      have hkb := key_beq (ent l k) c
      by_cases hkk : key (ent l k) = c.data.toList
      · have hf := find_first HI.out hlt hkk
        have HF := Lib.hid (show foundT l c.data.toList = ent l k ∧ isE l c.data.toList = true from ⟨by unfold foundT; rw [hf]; rfl, by unfold isE; rw [hf]; rfl⟩)
        rw [decide_eq_true hkk] at hkb
        obtain ⟨y, hy⟩ : ∃ y, ent l k = y := ⟨_, rfl⟩
        rw [hy] at h1 h2 h3 hkb HF
        clear hkk hf hy
        go_wp2
        rw [HF.out.1, HF.out.2]
        exact bodyPost_ret (v := .tuple #[.agg #[.string y.word, .int .u32 y.weight, .bool y.gone], .bool true]) (by simp [results, Try.results27, go_sem]) rfl ⟨rfl, below_alloc w _⟩
      · rw [decide_eq_false hkk] at hkb
        have HK := Lib.hid hkk
        clear hkk
        go_wp2
        exact ⟨⟨k + 1, by omega, by go_num, Lib.hid fun j hj => by
          rcases Nat.lt_or_ge j k with h | h
          · exact HI.out j h
          · rw [show j = k by omega]; exact HK.out⟩, by simp [intOf]; omega⟩
    · have hf := find_end (l := l) (c := c.data.toList) (fun j hj => HI.out j (by omega))
      have HF := Lib.hid (show foundT l c.data.toList = default ∧ isE l c.data.toList = false from ⟨by unfold foundT; rw [hf]; rfl, by unfold isE; rw [hf]; rfl⟩)
      clear hf
      go_wp2
      rw [HF.out.1, HF.out.2]
      exact bodyPost_ret (v := .tuple #[.agg #[.string ⟨#[]⟩, .int .u32 0, .bool false], .bool false]) (by simp [results, Try.results27, go_sem]) rfl ⟨rfl, below_alloc w _⟩
end Go.Proofs.Ytfnmmnbndfdpiaa

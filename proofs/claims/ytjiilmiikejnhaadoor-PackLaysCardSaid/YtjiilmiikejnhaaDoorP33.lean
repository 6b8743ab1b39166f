/-
  The closed law's transducers that may not be laid, in memory.
-/
import Derived.Test.YtjiilmiikejnhaaDoorP06
import Derived.Laws.MakeOwn
set_option linter.unusedVariables false
set_option linter.unusedSimpArgs false
namespace Go.Proofs.YtjiilmiikejnhaaDoor
open Go.RowKit Go.Shelf

def zs (n : Nat) : List DArc := List.replicate n ⟨0, 0, 0⟩
theorem zs_len (n : Nat) : (zs n).length = n := by simp [zs]
theorem iArc0 : (Tryd.prog.info? 66).map (fun i => (i.zero, i.size, i.bytes)) = some (some (.agg #[.int .u8 0, .int .u64 0, .int .i64 0]), 3, 24) := by kernel_rfl
theorem made_zs (n : Nat) : madeCells #[.int .u8 0, .int .u64 0, .int .i64 0] (n * 3) = (arcsC (zs n)).toArray := by
  have hl : (arcsC (zs n)).length = n * 3 := by rw [arcsC_length]; simp [zs]
  apply Array.ext
  · simp [madeCells, hl]
  · intro i h1 h2
    have hi : i < n * 3 := by simpa [madeCells] using h1
    have hg := arcsC_get (zs n) (i / 3) (i % 3) (by simp [zs]; omega) (Nat.mod_lt _ (by omega))
    rw [show i / 3 * 3 + i % 3 = i by omega, show arcAt (zs n) (i / 3) = ⟨0, 0, 0⟩ by
      rw [arcAt_lt (by simp [zs]; omega)]; simp [zs]] at hg
    have e : (arcsC (zs n)).toArray[i]? = some ((arcsC (zs n)).toArray[i]) := Array.getElem?_eq_getElem h2
    rw [List.getElem?_toArray, hg] at e
    have h3 : i % 3 < 3 := Nat.mod_lt _ (by omega)
    have e2 : (madeCells #[.int .u8 0, .int .u64 0, .int .i64 0] (n * 3))[i] = #[Value.int .u8 0, .int .u64 0, .int .i64 0][i % 3]! := by simp [madeCells]
    rw [e2]
    rcases (show i % 3 = 0 ∨ i % 3 = 1 ∨ i % 3 = 2 by omega) with h | h | h <;> (rw [h] at e ⊢; exact Option.some.inj e)
theorem make_zs (n : Nat) (hn : n ≤ 1000) {x : Int} (hx : x = (n : Int)) (W : World) : (Instr.makeSlice 62 (.int .i64 x) (.int .i64 x)).run Tryd.prog W = .ok (.slice (some ⟨W.heap.size, 0, none⟩) n n) (W.alloc (.cells (arcsC (zs n)).toArray 66)) := by
  subst hx
  obtain ⟨i0, hi, hz0, hz1, hz2⟩ := info_parts iArc0
  have h := run_make (P := Tryd.prog) W 62 66 i0 _ Tryd.underlying62 hi hz0 .i64 .i64 (n : Int) (n : Int) (by omega) (by omega) (by rw [hz2]; omega) (by omega)
  rw [hz1] at h
  rw [← made_zs]
  simpa [Value.cells] using h

def objsK (n : Nat) (Z : Array Value) : List Obj := [
  .cells #[.slice none 0 0, .bool false, .int .u64 1] 64,
  .cells #[.int .u8 0, .int .u64 0, .int .i64 0] 66,
  .cells #[.slice (some ⟨n + 1, 0, none⟩) 1 1, .bool false, .int .u64 0] 64,
  .cells #[.int .u8 0, .int .u64 0, .int .i64 1] 66,
  .cells #[.slice none 0 0, .bool false, .int .u64 0, .slice (some ⟨n + 1 + 1 + 1, 0, none⟩) 1 1, .bool false, .int .u64 0] 64,
  .cells #[.int .u8 0, .int .u64 0, .int .i64 (-1)] 66,
  .cells #[.slice none 0 0, .bool false, .int .u64 0, .slice (some ⟨n + 1 + 1 + 1 + 1 + 1, 0, none⟩) 1 1, .bool false, .int .u64 0] 64,
  .cells Z 66,
  .cells #[.slice none 0 0, .bool false, .int .u64 0, .slice (some ⟨n + 1 + 1 + 1 + 1 + 1 + 1 + 1, 0, none⟩) 257 257, .bool false, .int .u64 0] 64,
  .cells #[.slice none 0 0, .int .u64 0, .slice (some ⟨n, 0, none⟩) 1 1, .int .u64 0, .slice (some ⟨n + 1 + 1, 0, none⟩) 1 1, .int .u64 0, .slice (some ⟨n + 1 + 1 + 1 + 1, 0, none⟩) 2 2, .int .u64 0, .slice (some ⟨n + 1 + 1 + 1 + 1 + 1 + 1, 0, none⟩) 2 2, .int .u64 0, .slice (some ⟨n + 1 + 1 + 1 + 1 + 1 + 1 + 1 + 1, 0, none⟩) 2 2, .int .u64 0] 25]
def badL (n : Nat) : List (Value × List DSt × Nat) := [
  (.slice none 0 0, [], 0),
  (.slice (some ⟨n, 0, none⟩) 1 1, [⟨[], false, 1⟩], 0),
  (.slice (some ⟨n + 1 + 1, 0, none⟩) 1 1, [⟨[⟨0, 0, 0⟩], false, 0⟩], 0),
  (.slice (some ⟨n + 1 + 1 + 1 + 1, 0, none⟩) 2 2, [⟨[], false, 0⟩, ⟨[⟨0, 0, 1⟩], false, 0⟩], 0),
  (.slice (some ⟨n + 1 + 1 + 1 + 1 + 1 + 1, 0, none⟩) 2 2, [⟨[], false, 0⟩, ⟨[⟨0, 0, -1⟩], false, 0⟩], 0),
  (.slice (some ⟨n + 1 + 1 + 1 + 1 + 1 + 1 + 1 + 1, 0, none⟩) 2 2, [⟨[], false, 0⟩, ⟨zs 257, false, 0⟩], 0)]

theorem bad_rights (n : Nat) : ∀ x ∈ badL n, mayT 0 x.2.1 = false ∧ x.2.1.length ≤ 100000 ∧ ∀ s ∈ x.2.1, s.arcs.length ≤ 100000 := by
  have h : (badL n).map (·.2) = (badL 0).map (·.2) := rfl
  intro x hx
  have hm : x.2 ∈ (badL 0).map (·.2) := by rw [← h]; exact List.mem_map_of_mem hx
  have hall : ∀ y ∈ (badL 0).map (·.2), mayT 0 y.1 = false ∧ y.1.length ≤ 100000 ∧ ∀ s ∈ y.1, s.arcs.length ≤ 100000 := by decide +kernel
  exact hall _ hm

theorem bads_in (w : World) {Z : Array Value} (hZ : Z = (arcsC (zs 257)).toArray) : Bads (allocs w (objsK w.heap.size Z)) (w.heap.size + 1 + 1 + 1 + 1 + 1 + 1 + 1 + 1 + 1) (badL w.heap.size) := by
  obtain ⟨n, hn⟩ : ∃ n, n = w.heap.size := ⟨_, rfl⟩
  have hk : ∀ k ob, (objsK n Z)[k]? = some ob → (allocs w (objsK n Z)).heap[n + k]? = some ob := fun k ob h => by rw [hn]; exact allocs_get (by rw [← hn]; exact h)
  rw [← hn]
  obtain ⟨W, hW⟩ : ∃ W, W = allocs w (objsK n Z) := ⟨_, rfl⟩
  rw [← hW] at hk ⊢
  clear hW
  have hc : ∀ j v, (match ((objsK n Z)[9]? : Option Obj) with | some (Obj.cells cs _ _) => cs[j]? | _ => none) = some v → W.cell? ⟨n + 1 + 1 + 1 + 1 + 1 + 1 + 1 + 1 + 1, j, none⟩ = some v := fun j v h => by
    rw [cell_of_row W _ j _ _ _ (hk 9 _ rfl)]
    exact h
  have a1 := arcs_at [⟨0, 0, 0⟩] (by decide) (hk 1 _ rfl)
  have a3 := arcs_at [⟨0, 0, 1⟩] (by decide) (hk 3 _ rfl)
  have a5 := arcs_at [⟨0, 0, -1⟩] (by decide) (hk 5 _ rfl)
  have a7 := arcs_at (zs 257) (by rw [zs_len]; omega) (by rw [← hZ]; exact hk 7 _ rfl)
  rw [zs_len] at a7
  have s0 := sts_at [(.slice none 0 0, ⟨[], false, 1⟩)] (by simp) (hk 0 _ rfl) (List.forall_mem_cons.2 ⟨arcs_nil _, List.forall_mem_nil _⟩)
  have s2 := sts_at [(.slice (some ⟨n + 1, 0, none⟩) 1 1, ⟨[⟨0, 0, 0⟩], false, 0⟩)] (by simp) (hk 2 _ rfl) (List.forall_mem_cons.2 ⟨a1, List.forall_mem_nil _⟩)
  have s4 := sts_at [(.slice none 0 0, ⟨[], false, 0⟩), (.slice (some ⟨n + 1 + 1 + 1, 0, none⟩) 1 1, ⟨[⟨0, 0, 1⟩], false, 0⟩)] (by simp) (hk 4 _ rfl) (List.forall_mem_cons.2 ⟨arcs_nil _, List.forall_mem_cons.2 ⟨a3, List.forall_mem_nil _⟩⟩)
  have s6 := sts_at [(.slice none 0 0, ⟨[], false, 0⟩), (.slice (some ⟨n + 1 + 1 + 1 + 1 + 1, 0, none⟩) 1 1, ⟨[⟨0, 0, -1⟩], false, 0⟩)] (by simp) (hk 6 _ rfl) (List.forall_mem_cons.2 ⟨arcs_nil _, List.forall_mem_cons.2 ⟨a5, List.forall_mem_nil _⟩⟩)
  have s8 := sts_at [(.slice none 0 0, ⟨[], false, 0⟩), (.slice (some ⟨n + 1 + 1 + 1 + 1 + 1 + 1 + 1, 0, none⟩) 257 257, ⟨zs 257, false, 0⟩)] (by simp) (hk 8 _ rfl) (List.forall_mem_cons.2 ⟨arcs_nil _, List.forall_mem_cons.2 ⟨a7, List.forall_mem_nil _⟩⟩)
  intro k h
  have h6 : k < 6 := h
  match k, h6 with
  | 0, _ => exact ⟨hc 0 _ rfl, hc 1 _ rfl, ⟨none, 0, rfl, fun i hi => absurd hi (Nat.not_lt_zero i)⟩⟩
  | 1, _ => exact ⟨hc 2 _ rfl, hc 3 _ rfl, s0⟩
  | 2, _ => exact ⟨hc 4 _ rfl, hc 5 _ rfl, s2⟩
  | 3, _ => exact ⟨hc 6 _ rfl, hc 7 _ rfl, s4⟩
  | 4, _ => exact ⟨hc 8 _ rfl, hc 9 _ rfl, s6⟩
  | 5, _ => exact ⟨hc 10 _ rfl, hc 11 _ rfl, s8⟩

/-- A state of 256 arcs may be laid. -/
def manyS : List DSt := [⟨[], false, 0⟩, ⟨zs 256, false, 0⟩]
theorem many_may : mayT ((0 : Nat) : Int) manyS = true := by decide +kernel
theorem many_mays : maySs 0 manyS = true := by decide +kernel
theorem many_ok : ∀ s ∈ manyS, s.ok := by decide +kernel
theorem many_arcs : ∀ s ∈ manyS, s.arcs.length ≤ 100000 := by decide +kernel
theorem many_len : (layT 0 manyS 0).length ≤ 1000000000 := by decide +kernel
theorem many_lit (W : World) : Sts ((W.alloc (.cells (arcsC (zs 256)).toArray 66)).alloc (.cells #[.slice none 0 0, .bool false, .int .u64 0, .slice (some ⟨W.heap.size, 0, none⟩) 256 256, .bool false, .int .u64 0] 64)) (.slice (some ⟨W.heap.size + 1, 0, none⟩) 2 2) manyS :=
  sts_lit [(.slice none 0 0, ⟨[], false, 0⟩), (.slice (some ⟨W.heap.size, 0, none⟩) 256 256, ⟨zs 256, false, 0⟩)] (by simp) (by simp) (List.forall_mem_cons.2 ⟨arcs_nil _, List.forall_mem_cons.2 ⟨by have h := arcs_lit (W := W) (zs 256) (by rw [zs_len]; omega) rfl; rwa [zs_len] at h, List.forall_mem_nil _⟩⟩)

end Go.Proofs.YtjiilmiikejnhaaDoor

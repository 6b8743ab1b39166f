/-
  Rows of files: what is in them; two that are alike. Several disks in memory, each apart from the others; those from the n-th on may be changed. A disk of its own, alike: what there is of it while it is made. The law's has: whether a disk has just these files; here where it has. A disk with files from the beginning.
-/
import Derived.Test.YtmmoilmfpiclgaaGreatT29
import Derived.Test.YtmmoilmfpiclgaaGreatT25
import Derived.Test.YtmmoilmfpiclgaaGreatT10
import Derived.Test.YtmmoilmfpiclgaaGreatT26
import Derived.Test.YtmmoilmfpiclgaaGreatT28
set_option linter.unusedVariables false
set_option linter.unusedSimpArgs false
namespace Go.Proofs.YtmmoilmfpiclgaaGreat
open Go.RowKit Go.Sort Go.Shelf

abbrev FL := List (List UInt8 × List UInt8)
def flAt (l : FL) (i : Nat) : List UInt8 × List UInt8 := l.getD i ([], [])
theorem filesC_length : ∀ l : FL, (filesC l).length = l.length * 2
  | [] => rfl
  | x :: l => by
    have := filesC_length l
    unfold filesC at this ⊢
    rw [List.flatMap_cons, List.length_append, this, List.length_cons]
    simp [fileC]; omega
theorem filesC_at : ∀ (l : FL) (i : Nat), i < l.length → (filesC l)[i * 2]? = some (.string (Fld.strO (flAt l i).1)) ∧ (filesC l)[i * 2 + 1]? = some (.string (Fld.strO (flAt l i).2))
  | x :: l, 0, _ => ⟨rfl, rfl⟩
  | x :: l, i + 1, h => by
    obtain ⟨h1, h2⟩ := filesC_at l i (by simpa using h)
    have e : ∀ j, (filesC (x :: l))[j + 2]? = (filesC l)[j]? := fun j => rfl
    rw [show (i + 1) * 2 = i * 2 + 2 by omega, e, show i * 2 + 2 + 1 = (i * 2 + 1) + 2 by omega, e]
    exact ⟨h1, h2⟩

/-- A row of files, to read. -/
def FRow (W : World) (v : Value) (l : FL) : Prop := ∃ ad c, v = .slice ad l.length c ∧ ∀ i, i < l.length → ∃ b o, ad = some ⟨b, o, none⟩ ∧ W.cell? ⟨b, o + i * 2, none⟩ = some (.string (Fld.strO (flAt l i).1)) ∧ W.cell? ⟨b, o + i * 2 + 1, none⟩ = some (.string (Fld.strO (flAt l i).2))
theorem frow_of {w : World} {base : Nat} {v : Value} {l : FL} (h : w.ownsRow base 26 2 v l.length (filesC l)) : FRow w v l := by
  obtain ⟨ad, c, hv⟩ := ownsSlice h
  refine ⟨ad, c, hv, fun i hi => ?_⟩
  rcases h.2 with ⟨rfl, h0⟩ | ⟨g, cap, cur, rfl, hbg, hg, h4, h5, h6, ht⟩
  · omega
  · cases hv
    obtain ⟨c1, c2⟩ := filesC_at l i hi
    have take : ∀ j x, (filesC l)[j]? = some x → w.cell? ⟨g, j, none⟩ = some x := fun j x hx => by
      rw [cell_of_row w g j cur 26 (0, 0) hg, ← Array.getElem?_toList]
      rw [← ht, List.getElem?_take] at hx
      split at hx
      · exact hx
      · cases hx
    exact ⟨g, 0, rfl, by rw [Nat.zero_add]; exact take _ _ c1, by rw [Nat.zero_add]; exact take _ _ c2⟩
theorem FRow.below {w W : World} {v : Value} {l : FL} (h : FRow w v l) (hb : Below w.heap.size w W) : FRow W v l := by
  obtain ⟨ad, c, hv, hx⟩ := h
  refine ⟨ad, c, hv, fun i hi => ?_⟩
  obtain ⟨b, o, h1, h2, h3⟩ := hx i hi
  exact ⟨b, o, h1, (hb.cell (p := ⟨b, o + i * 2, none⟩) (block_lt_of_cell h2)).trans h2, (hb.cell (p := ⟨b, o + i * 2 + 1, none⟩) (block_lt_of_cell h3)).trans h3⟩

theorem run_neFile (x y : ByteArray) (w : World) : Sem.run Tryz.prog (binOp .neq 26 (.agg #[.string x, .string y]) (.agg #[.string x, .string y])) w = .ok (.bool false) w := by
  have u9 := Tryz.underlying9
  have a9 := Tryz.isAgg9
  have z9 := Tryz.sizeOf9
  have hS : Tryz.prog.underlying 26 = some (.struct (Tryz.prog.fieldsOf 26)) := by kernel_rfl
  have hp : Tryz.prog.stoodInHeld 26 = false := by kernel_rfl
  rw [run_neq_struct, show (10000 : Nat) = 9999 + 1 from rfl, run_equalIn_agg w 9999 26 _ _ hS hp]
  simp only [Program.fieldsOf, Tryz.underlying26]
  go_simp

set_option maxHeartbeats 1000000 in
set_option maxRecDepth 100000 in
theorem files_same (l : FL) (v1 v2 : Value) (w : World) (h1 : FRow w v1 l) (h2 : FRow w v2 l) (hlen : l.length ≤ 1000000) :
    Calls Tryz.prog 29 #[v1, v2] w fun e w' => e = .returned (.bool true) ∧ RowKit.Below w.heap.size w w' := by
  have HB1 := Lib.hid (fun W (B : RowKit.Below w.heap.size w W) => h1.below B)
  have HB2 := Lib.hid (fun W (B : RowKit.Below w.heap.size w W) => h2.below B)
  obtain ⟨ad1, c1, rfl, hx1⟩ := h1
  obtain ⟨ad2, c2, rfl, hx2⟩ := h2
  have HC1 : Hid (∀ i, i < l.length → ∃ b o, ad1 = some ⟨b, o, none⟩ ∧ ∀ W, RowKit.Below w.heap.size w W → W.cell? ⟨b, o + i * 2, none⟩ = some (.string (Fld.strO (flAt l i).1)) ∧ W.cell? ⟨b, o + i * 2 + 1, none⟩ = some (.string (Fld.strO (flAt l i).2))) := Lib.hid fun i hi => by
    obtain ⟨b, o, rfl, q1, q2⟩ := hx1 i hi
    exact ⟨b, o, rfl, fun W hb => ⟨(hb.cell (p := ⟨b, o + i * 2, none⟩) (block_lt_of_cell q1)).trans q1, (hb.cell (p := ⟨b, o + i * 2 + 1, none⟩) (block_lt_of_cell q2)).trans q2⟩⟩
  have HC2 : Hid (∀ i, i < l.length → ∃ b o, ad2 = some ⟨b, o, none⟩ ∧ ∀ W, RowKit.Below w.heap.size w W → W.cell? ⟨b, o + i * 2, none⟩ = some (.string (Fld.strO (flAt l i).1)) ∧ W.cell? ⟨b, o + i * 2 + 1, none⟩ = some (.string (Fld.strO (flAt l i).2))) := Lib.hid fun i hi => by
    obtain ⟨b, o, rfl, q1, q2⟩ := hx2 i hi
    exact ⟨b, o, rfl, fun W hb => ⟨(hb.cell (p := ⟨b, o + i * 2, none⟩) (block_lt_of_cell q1)).trans q1, (hb.cell (p := ⟨b, o + i * 2 + 1, none⟩) (block_lt_of_cell q2)).trans q2⟩⟩
  have hne := run_neFile
  clear hx1 hx2 HB1 HB2
  go_enter Tryz.func29, Tryz.ntmps29
  go_wp2
  go_loopw [5] (fun s5 wr => ∃ k : Nat, k ≤ l.length ∧ s5 = .int .i64 k ∧ RowKit.Below w.heap.size w wr) (fun s5 _ => l.length - (intOf s5).toNat)
  case atStart => exact ⟨0, Nat.zero_le _, rfl, RowKit.Below.refl _ _⟩
  case round =>
    obtain ⟨k, hk, rfl, hb⟩ := hrel
    by_cases hlt : k < l.length
    · obtain ⟨b, o, rfl, hE⟩ := HC1.out k hlt
      obtain ⟨b', o', rfl, hE'⟩ := HC2.out k hlt
      obtain ⟨h1, h2⟩ := hE wr hb
      obtain ⟨h4, h5⟩ := hE' wr hb
      obtain ⟨x, hx⟩ : ∃ x, Fld.strO (flAt l k).1 = x := ⟨_, rfl⟩
      obtain ⟨y, hy⟩ : ∃ y, Fld.strO (flAt l k).2 = y := ⟨_, rfl⟩
      rw [hx] at h1 h4
      rw [hy] at h2 h5
      clear hx hy hE hE'
      go_wp2
      go_quiet (fail)
      replace hb := below_drewN hb nq
      generalize wr.drewN nq = w2 at hb ⊢
      go_wp2
      exact ⟨⟨k + 1, by omega, by go_num, hb⟩, by simp [intOf]; omega⟩
    · go_wp2
      go_ret
      exact ⟨rfl, hb⟩

/-- Texts, two by two. -/
def pairs : List ByteArray → FL
  | x :: y :: l => (x.data.toList, y.data.toList) :: pairs l
  | _ => []
end Go.Proofs.YtmmoilmfpiclgaaGreat
namespace Go.Proofs.YtmmoilmfpiclgaaGreat
open Go.RowKit Go.Shelf
open Fld (FS Names FAct actsOn foundN foundB findT withT withoutT GoodN Rising mayB nam nameMax FolderS FolderIn ARow textsOf)

theorem DiskP.same {w W : World} {p : Nat} {S : DS} {v : DV} (h : DiskP w p S v) (hs : ∀ g, All v.M g ∨ All v.I g → W.heap[g]? = w.heap[g]?) (hz : w.heap.size ≤ W.heap.size) : DiskP W p S v := by
  obtain ⟨fv, lv, lost, armed, P, h1, hk⟩ := h.it
  have same : ∀ k g, v.M k g ∨ v.I k g → W.heap[g]? = w.heap[g]? := fun k g hg => hs g (hg.imp (fun h => ⟨k, h⟩) (fun h => ⟨k, h⟩))
  exact ⟨⟨fv, lv, lost, armed, P, { h1 with
    fold := @FolderIn.same (fin _) _ _ _ _ _ _ _ _ _ _ h1.fold (fun g hg => same 0 g hg) hz
    map := h1.map.same fun b hb' => same 1 b (.inl (h1.mapM b hb'))
    row := owns_same h1.row fun g hg => same 2 g (.inl (h1.rowM g hg))
    files := fun n b hn => ⟨(h1.files n b hn).1.same (fun g hg' => same (n + 3) g hg') hz, (h1.files n b hn).2⟩ }, hk⟩, h.good, h.parts.grow hz, h.room⟩
theorem DiskP.blocks {w : World} {p : Nat} {S : DS} {v : DV} (h : DiskP w p S v) : ∀ g, All v.M g ∨ All v.I g → g < w.heap.size := fun g hg => by
  rcases hg with ⟨k, hk⟩ | ⟨k, hk⟩
  · exact h.parts.mem k g (.inl hk)
  · exact h.parts.mem k g (.inr hk)

/-- All blocks of theirs are no younger than w0's end; vs: what they own. -/
structure FlockV (w0 W : World) (n : Nat) (L : List (Nat × DS)) (vs : List DV) : Prop where
  len : vs.length = L.length
  disk : ∀ i (h : i < L.length) (h' : i < vs.length), DiskP W L[i].1 L[i].2 vs[i] ∧ ∀ g, All vs[i].M g ∨ All vs[i].I g → w0.heap.size ≤ g
  apart : ∀ i j (h : i < vs.length) (h' : j < vs.length), i ≠ j → n ≤ i → ∀ g, All vs[i].M g → ¬ (All vs[j].M g ∨ All vs[j].I g)
  below : Below w0.heap.size w0 W
def Flock (w0 W : World) (n : Nat) (L : List (Nat × DS)) : Prop := ∃ vs, FlockV w0 W n L vs

theorem flock_nil (w : World) : Flock w w 0 [] := ⟨[], rfl, fun _i h => absurd h (Nat.not_lt_zero _), fun _i _j h => absurd h (Nat.not_lt_zero _), Below.refl _ _⟩
theorem Flock.next {w0 W W' : World} {n : Nat} {L : List (Nat × DS)} (h : Flock w0 W n L) (hb : Below W.heap.size W W') : Flock w0 W' n L := by
  obtain ⟨vs, h1, h2, h3, h4⟩ := h
  exact ⟨vs, h1, fun i hi hi' => ⟨(h2 i hi hi').1.below hb, (h2 i hi hi').2⟩, h3, Below.next h4 hb⟩
/-- A new disk comes. -/
theorem Flock.add {w0 W W' : World} {n : Nat} {L : List (Nat × DS)} {q : Nat} {T : DS} {u : DV} (h : Flock w0 W n L) (hd : DiskP W' q T u) (hu : ∀ g, All u.M g ∨ All u.I g → W.heap.size ≤ g) (hb : Below W.heap.size W W') : Flock w0 W' n (L ++ [(q, T)]) := by
  obtain ⟨vs, h1, h2, h3, h4⟩ := h
  have old : ∀ i (hi : i < vs.length) g, All vs[i].M g ∨ All vs[i].I g → g < W.heap.size := fun i hi g hg => (h2 i (by omega) hi).1.blocks g hg
  refine ⟨vs ++ [u], by simp [h1], fun i hi hi' => ?_, fun i j hi hj hij hn g h5 h6 => ?_, Below.next h4 hb⟩
  · by_cases e : i < L.length
    · simp only [List.getElem_append_left e, List.getElem_append_left (show i < vs.length by omega)]
      exact ⟨(h2 i e (by omega)).1.below hb, (h2 i e (by omega)).2⟩
    · have e1 : i = L.length := by simp at hi; omega
      subst e1
      simp only [List.getElem_append_right (Nat.le_refl L.length), List.getElem_append_right (show vs.length ≤ L.length by omega), Nat.sub_self, h1, List.getElem_singleton]
      exact ⟨hd, fun g hg => Nat.le_trans h4.size (hu g hg)⟩
  · by_cases ei : i < vs.length <;> by_cases ej : j < vs.length
    · simp only [List.getElem_append_left ei] at h5
      simp only [List.getElem_append_left ej] at h6
      exact h3 i j ei ej hij hn g h5 h6
    · have e1 : j = vs.length := by simp at hj; omega
      subst e1
      simp only [List.getElem_append_left ei] at h5
      simp only [List.getElem_append_right (Nat.le_refl vs.length), Nat.sub_self, List.getElem_singleton] at h6
      have := old i ei g (.inl h5)
      have := hu g h6
      omega
    · have e1 : i = vs.length := by simp at hi; omega
      subst e1
      simp only [List.getElem_append_right (Nat.le_refl vs.length), Nat.sub_self, List.getElem_singleton] at h5
      simp only [List.getElem_append_left ej] at h6
      have := old j ej g h6
      have := hu g (.inl h5)
      omega
    · simp at hi hj; omega
/-- One of them, from the n-th on, goes on. -/
theorem Flock.went {w0 W W' : World} {n : Nat} {L : List (Nat × DS)} (h : Flock w0 W n L) (i : Nat) (hi : i < L.length) (hn : n ≤ i) {S' : DS} (hw : ∀ v, DiskP W L[i].1 L[i].2 v → WentK W L[i].1 v S' W') : Flock w0 W' n (L.set i (L[i].1, S')) := by
  obtain ⟨vs, h1, h2, h3, h4⟩ := h
  have hi' : i < vs.length := by omega
  obtain ⟨v', d1, t1⟩ := hw vs[i] (h2 i hi hi').1
  have old : ∀ j (hj : j < vs.length) g, All vs[j].M g ∨ All vs[j].I g → g < W.heap.size := fun j hj g hg => (h2 j (by omega) hj).1.blocks g hg
  refine ⟨vs.set i v', by simp [h1], fun j hj hj' => ?_, fun a b ha hb hab hna g h5 h6 => ?_, h4.trans (t1.kept.to h4.size fun g hg => (h2 i hi hi').2 g (.inl hg))⟩
  · simp only [List.length_set] at hj hj'
    by_cases e : i = j
    · subst e
      simp only [List.getElem_set_self]
      refine ⟨d1, fun g hg => ?_⟩
      rcases hg with hg | hg
      · rcases t1.m g hg with k | k
        · exact (h2 i hi hi').2 g (.inl k)
        · exact Nat.le_trans h4.size k
      · rcases t1.i g hg with k | k
        · exact (h2 i hi hi').2 g (.inr k)
        · exact Nat.le_trans h4.size k
    · simp only [List.getElem_set_ne e]
      refine ⟨(h2 j hj hj').1.same (fun g hg => t1.kept.block g (old j hj' g hg) fun hm => h3 i j hi' hj' e hn g hm hg) t1.kept.size, (h2 j hj hj').2⟩
  · simp only [List.length_set] at ha hb
    by_cases ea : i = a <;> by_cases eb : i = b
    · omega
    · subst ea
      simp only [List.getElem_set_self] at h5
      simp only [List.getElem_set_ne eb] at h6
      rcases t1.m g h5 with k | k
      · exact h3 i b hi' hb hab hna g k h6
      · have := old b hb g h6; omega
    · subst eb
      simp only [List.getElem_set_ne ea] at h5
      simp only [List.getElem_set_self] at h6
      have h7 := old a ha g (.inl h5)
      rcases h6 with h6 | h6
      · rcases t1.m g h6 with k | k
        · exact h3 a i ha hi' hab hna g h5 (.inl k)
        · omega
      · rcases t1.i g h6 with k | k
        · exact h3 a i ha hi' hab hna g h5 (.inr k)
        · omega
    · simp only [List.getElem_set_ne ea] at h5
      simp only [List.getElem_set_ne eb] at h6
      exact h3 a b ha hb hab hna g h5 h6
theorem Flock.out {w0 W : World} {n : Nat} {L : List (Nat × DS)} (h : Flock w0 W n L) (i : Nat) (hi : i < L.length) : ∃ v, DiskP W L[i].1 L[i].2 v := by
  obtain ⟨vs, h1, h2, h3, h4⟩ := h
  exact ⟨vs[i]'(by omega), (h2 i hi (by omega)).1⟩
theorem Flock.below {w0 W : World} {n : Nat} {L : List (Nat × DS)} (h : Flock w0 W n L) : Below w0.heap.size w0 W := by
  obtain ⟨vs, h1, h2, h3, h4⟩ := h
  exact h4
/-- The first ones alone. -/
theorem Flock.take {w0 W : World} {n : Nat} {L : List (Nat × DS)} (h : Flock w0 W n L) (k : Nat) : Flock w0 W n (L.take k) := by
  obtain ⟨vs, h1, h2, h3, h4⟩ := h
  refine ⟨vs.take k, by simp [h1], fun i hi hi' => ?_, fun i j hi hj hij hn g h5 h6 => ?_, h4⟩
  · simp only [List.length_take] at hi hi'
    simp only [List.getElem_take]
    exact h2 i (by omega) (by omega)
  · simp only [List.length_take] at hi hj
    simp only [List.getElem_take] at h5 h6
    exact h3 i j (by omega) (by omega) hij hn g h5 h6
/-- One alone may always be changed. -/
theorem Flock.one {w0 W : World} {n : Nat} {x : Nat × DS} (h : Flock w0 W n [x]) : Flock w0 W 0 [x] := by
  obtain ⟨vs, h1, h2, h3, h4⟩ := h
  refine ⟨vs, h1, h2, fun i j hi hj hij _ => ?_, h4⟩
  simp at h1
  omega
end Go.Proofs.YtmmoilmfpiclgaaGreat
namespace Go.Proofs.YtmmoilmfpiclgaaGreat
open Go.RowKit Go.Shelf
open Fld (FS Names FAct actsOn foundN foundB findT withT withoutT GoodN Rising mayB nam nameMax FolderS FolderIn ARow textsOf capOf)

/-- A folder that is alone, put into a disk's first cells. -/
theorem folder_moved {w : World} {q2 : Nat} {F : FS} {av : Value} {fs : List Value} {M I : Nat → Prop} (h : @FolderS Fld.alone w q2 F av fs M I) :
    ∃ m0 m2, w.heap[q2]? = some (.cells #[.map m0, av, .map m2, .int .i64 (F.n : Int)] 71 (0, 0)) ∧
      ∀ (R : List Value) (W : World) (q : Nat), W.heap[q]? = some (.cells ⟨.map m0 :: av :: .map m2 :: .int .i64 (F.n : Int) :: R⟩ 77 (0, 0)) → (∀ g, M g ∨ I g → W.heap[g]? = w.heap[g]?) → w.heap.size ≤ W.heap.size → ¬ I q →
        @FolderS (fin R) W q F av fs (fun g => g = q ∨ M g) I := by
  obtain ⟨lv, tv, h1, h2, h3, h4, h5, h6, h7⟩ := @FolderIn.it Fld.alone _ _ _ _ _ _ _ _ _ h
  have h_row := @FolderIn.row Fld.alone _ _ _ _ _ _ _ _ _ h
  have h_acts := @FolderIn.acts Fld.alone _ _ _ _ _ _ _ _ _ h
  have h_room := @FolderIn.room Fld.alone _ _ _ _ _ _ _ _ _ h
  have h_fine := @FolderIn.fine Fld.alone _ _ _ _ _ _ _ _ _ h
  have h_small := @FolderIn.small Fld.alone _ _ _ _ _ _ _ _ _ h
  have h_mem := @FolderIn.mem Fld.alone _ _ _ _ _ _ _ _ _ h
  have h_apart := @FolderIn.apart Fld.alone _ _ _ _ _ _ _ _ _ h
  obtain ⟨m0, rfl⟩ := h2.shape
  obtain ⟨m2, rfl⟩ := h3.shape
  refine ⟨m0, m2, h1, fun R W q hq hs hz hi => ?_⟩
  refine @FolderIn.mk (fin R) _ _ _ _ _ _ _ _ _ ⟨.map m0, .map m2, hq, h2.same fun b hb => hs b (.inl (h5 b hb)), h3.same fun b hb => hs b (.inl (h6 b hb)), .inl rfl, fun b hb => .inr (h5 b hb), fun b hb => .inr (h6 b hb), h7⟩ (h_row.same fun g hg => ?_)
    (h_acts.same (fun g hg _ => hs g (.inr hg)) (fun _ h => h)) (fun b hb => (h_room b hb).imp .inr id) h_fine h_small (fun g hg => ?_) (fun g hg hm => ?_)
  · rcases h_room g hg with k | k
    · exact hs g (.inl k)
    · exact hs g (.inr k.1)
  · rcases hg with (rfl | hg) | hg
    · exact (Array.getElem?_eq_some_iff.1 hq).1
    · exact Nat.lt_of_lt_of_le (h_mem g (.inl hg)) hz
    · exact Nat.lt_of_lt_of_le (h_mem g (.inr hg)) hz
  · rcases hm with rfl | hm
    · exact hi hg
    · exact h_apart g hg hm

structure CopyIn (w0 w : World) (q mc : Nat) (S : DS) (v u : DV) (lv : Value) (armed : Nat) (Pc : Nat → Option Nat) : Prop where
  fold : @FolderS (fin (DTail (.map (some mc)) lv S.room S.used S.steps armed S.down)) w q S.fold u.av u.fs (u.M 0) (u.I 0)
  map : HasP w mc Pc
  mapM : u.M 1 mc
  files : ∀ n b, Pc n = some b → FileAt w b (S.file n).D (S.file n).A (u.M (n + 3)) (u.I (n + 3))
  parts : Parts w u.M u.I
  fresh : ∀ g, All u.M g → w0.heap.size ≤ g
  olds : ∀ g, All u.I g → All v.I g ∨ (v.av.ownBlock = some g ∧ u.av.ownBlock = some g)
  iof : ∀ n, u.I (n + 3) = v.I (n + 3)
  old : ∀ g, All u.I g → g < w0.heap.size
  below : Below w0.heap.size w0 w

theorem pput_id (X : Nat → Nat → Prop) (k : Nat) : pput X k (X k) = X := funext fun l => by
  by_cases e : l = k
  · subst e; exact pput_same _ _ _
  · exact pput_other _ _ e

theorem CopyIn.add {w0 w w1 w2 : World} {q mc n b armed : Nat} {S : DS} {v u : DV} {lv : Value} {Pc : Nat → Option Nat} {M' : Nat → Prop} (h : CopyIn w0 w q mc S v u lv armed Pc) (hb : Below w.heap.size w w1)
    (hf : FileAt w1 b (S.file n).D (S.file n).A M' (v.I (n + 3))) (hm : ∀ g, M' g → w.heap.size ≤ g) (hg : w1.grownBy w2 (some mc)) (hp : HasP w2 mc (pset Pc n b)) :
    CopyIn w0 w2 q mc S v ⟨u.av, u.fs, pput u.M (n + 3) M', u.I⟩ lv armed (pset Pc n b) := by
  have pin : Parts w1 (pput u.M (n + 3) M') (pput u.I (n + 3) (u.I (n + 3))) := h.parts.step (n + 3) hb.size (fun g hg => .inr (hm g hg)) (fun g hg => .inl hg) (by rw [h.iof]; exact hf.mem) (by rw [h.iof]; exact hf.apart)
  rw [pput_id] at pin
  have hmc : pput u.M (n + 3) M' 1 mc := by rw [pput_other _ _ (by omega)]; exact h.mapM
  have s1 : ∀ k g, k ≠ 1 → pput u.M (n + 3) M' k g ∨ u.I k g → w2.heap[g]? = w1.heap[g]? := fun k g hk hg' => hg.block g (pin.mem k g hg') (fun e => by
    cases e
    rcases hg' with hg' | hg'
    · exact pin.apart k 1 _ hk hg' hmc
    · exact pin.read k 1 _ hg' hmc)
  have s0 : ∀ k g, u.M k g ∨ u.I k g → w1.heap[g]? = w.heap[g]? := fun k g hg => hb.block g (h.parts.mem k g hg)
  have o1 : ∀ k, k ≠ n + 3 → pput u.M (n + 3) M' k = u.M k := fun k hk => pput_other _ _ hk
  have hz1 := hb.size
  have hz2 := hg.size
  have hfr : ∀ g, All (pput u.M (n + 3) M') g → w0.heap.size ≤ g := fun g hg' => by
    rcases all_pput (X := u.M) (k := n + 3) (n := w.heap.size) (Y := M') (fun g hg => .inr (hm g hg)) g hg' with k | k
    · exact h.fresh g k
    · exact Nat.le_trans h.below.size k
  refine ⟨?_, hp, hmc, fun m c hP => ?_, pin.grow hz2, hfr, h.olds, h.iof, h.old, (Below.next h.below hb).grown hg (Nat.le_trans h.below.size hz1) fun r e => by cases e; exact hfr mc ⟨1, hmc⟩⟩
  · simp only [o1 0 (by omega)]
    exact @FolderIn.same (fin _) _ _ _ _ _ _ _ _ _ _ h.fold (fun g hg' => (s1 0 g (by omega) (by rw [o1 0 (by omega)]; exact hg')).trans (s0 0 g hg')) (by omega)
  · by_cases e : m = n
    · subst e
      rw [pset_same] at hP
      cases hP
      simp only [pput_same]
      rw [h.iof]
      exact hf.same (fun g hg' => s1 (m + 3) g (by omega) (by rw [pput_same, h.iof]; exact hg')) hz2
    · rw [pset_other _ _ e] at hP
      simp only [o1 (m + 3) (by omega)]
      exact (h.files m c hP).same (fun g hg' => (s1 (m + 3) g (by omega) (by rw [o1 (m + 3) (by omega)]; exact hg')).trans (s0 (m + 3) g hg')) (by omega)

theorem CopyIn.turned {w0 w w' : World} {q mc armed : Nat} {S : DS} {v u : DV} {lv : Value} {Pc : Nat → Option Nat} {row : Option Nat} (h : CopyIn w0 w q mc S v u lv armed Pc) (hg : w.grownBy w' row) (hr : ∀ r, row = some r → w0.heap.size ≤ r ∧ ∀ k, ¬ u.M k r) : CopyIn w0 w' q mc S v u lv armed Pc := by
  have s1 : ∀ k g, u.M k g ∨ u.I k g → w'.heap[g]? = w.heap[g]? := fun k g hg' => hg.block g (h.parts.mem k g hg') fun e => by
    obtain ⟨h1, h2⟩ := hr g e.symm
    rcases hg' with hg' | hg'
    · exact h2 k hg'
    · have := h.old g ⟨k, hg'⟩; omega
  exact { h with
    fold := @FolderIn.same (fin _) _ _ _ _ _ _ _ _ _ _ h.fold (fun g hg' => s1 0 g hg') hg.size
    map := h.map.same (s1 1 mc (.inl h.mapM))
    files := fun n b hn => (h.files n b hn).same (fun g hg' => s1 (n + 3) g hg') hg.size
    parts := h.parts.grow hg.size
    below := h.below.grown hg h.below.size fun r e => (hr r e).1 }

theorem CopyIn.done {w0 w w1 : World} {p q mc armed : Nat} {S : DS} {v u : DV} {fv lv lv' : Value} {lost : List Nat} {P Pc : Nat → Option Nat} (h : CopyIn w0 w q mc S v u lv armed Pc) (d1 : DiskIn w0 p S S.used v fv lv lost armed P) (hkn : KnownIn S.fold lost P) (hgood : S.fold.good) (hroom : S.room ≤ 1000000000000)
    (hall : ∀ n b, P n = some b → ∃ c, Pc n = some c) (hrange : ∀ n c, Pc n = some c → ∃ b, P n = some b) (hb : Below w.heap.size w w1) (hrow : w1.ownsRow w.heap.size 3 1 lv' lost.length (lost.map fun x : Nat => Value.int .i64 (x : Int))) :
    ∃ u', DiskP (w1.setCell ⟨q, 5, none⟩ lv') q S u' ∧ (∀ g, All u'.M g → w0.heap.size ≤ g) ∧ (∀ g, All u'.I g → All v.I g ∨ (v.av.ownBlock = some g ∧ u'.av.ownBlock = some g)) ∧ u'.av = u.av ∧ u'.fs = u.fs ∧ Below w0.heap.size w0 (w1.setCell ⟨q, 5, none⟩ lv') := by
  have hnew := owns_new hrow
  have hlt : ∀ g, lv'.ownBlock = some g → g < w1.heap.size := fun g hg => by
    obtain ⟨cs, hc⟩ := owns_mem hrow hg
    exact (Array.getElem?_eq_some_iff.1 hc).1
  have pin : Parts w1 (pput u.M 2 fun g => lv'.ownBlock = some g) (pput u.I 2 fun _ => False) := h.parts.step 2 hb.size (fun g hg => .inr (hnew g hg)) (fun g hg => hg.elim) (fun g hg => by
    rcases hg with hg | hg
    · exact hlt g hg
    · exact hg.elim) (fun g hg => hg.elim)
  have o1 : ∀ k, k ≠ 2 → pput u.M 2 (fun g => lv'.ownBlock = some g) k = u.M k := fun k hk => pput_other _ _ hk
  have o2 : ∀ k, k ≠ 2 → pput u.I 2 (fun _ => False) k = u.I k := fun k hk => pput_other _ _ hk
  have f1 := @FolderIn.below (fin _) _ _ _ _ _ _ _ _ _ _ h.fold hb
  obtain ⟨t1, t2, t3⟩ := tail_set f1 1 lv'
  obtain ⟨_, _, _, _, hq, hq0⟩ := four_of h.fold
  have hqlt := (Array.getElem?_eq_some_iff.1 hq).1
  have hz : (w1.setCell ⟨q, 5, none⟩ lv').heap.size = w1.heap.size := by simp
  have same : ∀ k g, k ≠ 0 → u.M k g ∨ u.I k g → (w1.setCell ⟨q, 5, none⟩ lv').heap[g]? = w1.heap[g]? := fun k g hk hg => Fld.heap_setCell_ne fun e => by
    subst e
    rcases hg with hg | hg
    · exact h.parts.apart k 0 _ hk hg hq0
    · exact h.parts.read k 0 _ hg hq0
  have s0 : ∀ k g, u.M k g ∨ u.I k g → w1.heap[g]? = w.heap[g]? := fun k g hg => hb.block g (h.parts.mem k g hg)
  have hfr : ∀ g, All (pput u.M 2 fun g => lv'.ownBlock = some g) g → w0.heap.size ≤ g := fun g hg' => by
    rcases all_pput (X := u.M) (k := 2) (n := w.heap.size) (Y := fun g => lv'.ownBlock = some g) (fun g hg => .inr (hnew g hg)) g hg' with k | k
    · exact h.fresh g k
    · exact Nat.le_trans h.below.size k
  refine ⟨⟨u.av, u.fs, pput u.M 2 fun g => lv'.ownBlock = some g, pput u.I 2 fun _ => False⟩, ⟨⟨.map (some mc), lv', lost, armed, Pc, ⟨?_, d1.arm, d1.armLe, .inr ⟨mc, rfl, h.map.same ?_⟩, fun b hb' => ?_, owns_base (owns_same hrow fun g hg => Fld.heap_setCell_ne fun e => ?_), fun g hg => ?_, fun n b hn => ?_⟩, ⟨hkn.1.mono fun n ⟨b, hb⟩ => hall n b hb, hkn.2⟩⟩, hgood, pin.grow (by omega), hroom⟩, hfr, fun g hg => ?_, rfl, rfl, ?_⟩
  · simp only [o1 0 (by omega), o2 0 (by omega)]
    exact t1
  · exact (same 1 mc (by omega) (.inl h.mapM)).trans (s0 1 mc (.inl h.mapM))
  · simp only [o1 1 (by omega)]
    cases hb'
    exact h.mapM
  · subst e
    have := hnew _ hg
    omega
  · simp only [pput_same]
    exact hg
  · simp only [o1 (n + 3) (by omega), o2 (n + 3) (by omega)]
    obtain ⟨b', hb'⟩ := hrange n b hn
    exact ⟨(h.files n b hn).same (fun g hg => (same (n + 3) g (by omega) hg).trans (s0 (n + 3) g hg)) (by have := hb.size; omega), (d1.files n b' hb').2⟩
  · obtain ⟨k, hk⟩ := hg
    by_cases e : k = 2
    · subst e
      simp only [pput_same] at hk
    · simp only [o2 k e] at hk
      exact h.olds g ⟨k, hk⟩
  · have hw1 := Below.next h.below hb
    exact hw1.grown (grown_setCell _ _ _ _) hw1.size fun r e => by cases e; exact h.fresh q ⟨0, hq0⟩
end Go.Proofs.YtmmoilmfpiclgaaGreat
namespace Go.Proofs.YtmmoilmfpiclgaaGreat
open Go.RowKit Go.Shelf
attribute [local go_sem] Oper.semAt_some

set_option maxRecDepth 100000 in
set_option maxHeartbeats 4000000 in
theorem has_in (n : Nat) (hn : 6 ≤ n) {w : World} {p : Nat} {S : DS} {v : DV} {l : List ByteArray} {lv : Value} (h : DiskP w p S v) (hl : S.fold.weight ≤ 80000) (hv : Strs w lv l) (hlen : l.length = 2 * S.files.length) (hm : S.files.length ≤ 100000) (hp : ∀ k, k < S.files.length → Fld.strO (flAt S.files k).1 = l.getD (2 * k) ⟨#[]⟩ ∧ Fld.strO (flAt S.files k).2 = l.getD (2 * k + 1) ⟨#[]⟩) :
    CallsIn Fence.wide n Tryz.prog 35 #[.pointer (some ⟨p, 0, none⟩), lv] w fun e w' => e = .returned (.bool true) ∧ Below w.heap.size w w' := by
  have h1 : 1 ≤ n := by omega
  have QF := Lib.hid (fun W (B : Below w.heap.size w W) => callsIn_wide (n := n - 1) |>.2 (disk_files (h.below B) hl))
  obtain ⟨L, hL⟩ : ∃ L, S.files = L := ⟨_, rfl⟩
  rw [hL] at hlen hm hp QF
  obtain ⟨ad, c, rfl, hc⟩ := hv
  have HC := Lib.hid hc
  obtain ⟨i0, hi, hz1, hz2, hz3⟩ := info_parts iFile
  have hmo : Tryz.prog.follows .mixedOrders = true := by kernel_rfl
  have HLEN := Lib.hid hlen
  clear h hL hc hlen
  refine callsIn_of_wp Tryz.func35 rfl trivial ?_ rfl
  simp only [Tryz.ntmps35, List.size_toArray, List.length_cons, List.length_nil, Nat.reduceAdd, Nat.reduceSub, Array.replicate_succ, Array.replicate_zero, List.push_toArray, List.append_toArray, List.nil_append, List.cons_append]
  gi_wp2
  gi_loopw [5, 6] (fun s5 s6 wr => ∃ k : Nat, k ≤ L.length ∧ s6 = .int .i64 ((2 * k : Nat) : Int) ∧ wr.ownsRow w.heap.size 26 2 s5 k (filesC (L.take k)) ∧ Below w.heap.size w wr) (fun _ s6 _ => 2 * L.length - (intOf s6).toNat)
  case atStart => exact ⟨0, Nat.zero_le _, rfl, World.ownsRow_nil _ _ _ _, Below.refl _ _⟩
  case round =>
    obtain ⟨k, hk, rfl, hrow, hb⟩ := hrel
    have hlen := HLEN.out
    by_cases hlt : k < L.length
    · have e1 : decide (((2 * k : Nat) : Int) + 1 < (l.length : Int)) = true := decide_eq_true (by omega)
      have s1 : wrap64 (((2 * k : Nat) : Int) + 1) = ((2 * k : Nat) : Int) + 1 := by unfold wrap64; omega
      obtain ⟨b, o, rfl, hc1⟩ := HC.out (2 * k) (by omega)
      obtain ⟨b', o', e2, hc2⟩ := HC.out (2 * k + 1) (by omega)
      simp only [Option.some.injEq, Addr.mk.injEq, and_true] at e2
      obtain ⟨rfl, rfl⟩ := e2
      obtain ⟨p1, p2⟩ := hp k hlt
      rw [← p1] at hc1
      rw [← p2] at hc2
      obtain ⟨t, ht⟩ : ∃ t, Fld.strO (flAt L k).1 = t := ⟨_, rfl⟩
      obtain ⟨y, hy⟩ : ∃ y, Fld.strO (flAt L k).2 = y := ⟨_, rfl⟩
      have hsn : filesC (L.take (k + 1)) = filesC (L.take k) ++ [.string t, .string y] := by
        rw [List.take_succ_eq_append_getElem hlt]
        unfold filesC
        rw [List.flatMap_append]
        have : L[k] = flAt L k := by simp [flAt, List.getD, hlt]
        rw [this]
        simp only [List.flatMap_cons, List.flatMap_nil, List.append_nil, fileC, ht, hy]
      rw [ht] at hc1
      rw [hy] at hc2
      obtain ⟨j, hj⟩ : ∃ j, 2 * k = j := ⟨_, rfl⟩
      rw [hj] at hc1 hc2 e1 s1 ⊢
      have hjl : j + 1 < l.length := by omega
      have hj0 : j < l.length := by omega
      have hjI : (j : Int) + 1 < (l.length : Int) := by omega
      have s3 : IntKind.i64.wrap (j : Int) = (j : Int) := IntWalk.i64_in _ (by omega)
      have s2 : IntKind.i64.wrap ((j : Int) + 1) = (j : Int) + 1 := IntWalk.i64_in _ (by omega)
      have q1 : wr.cell? ⟨b, o + j, none⟩ = some (.string t) := (hb.cell (p := ⟨b, o + j, none⟩) (block_lt_of_cell hc1)).trans hc1
      have q2 : wr.cell? ⟨b, o + (j + 1), none⟩ = some (.string y) := (hb.cell (p := ⟨b, o + (j + 1), none⟩) (block_lt_of_cell hc2)).trans hc2
      have ql1 := block_lt_of_cell q1
      obtain ⟨ar, cr, hu5⟩ := ownsSlice hrow
      subst hu5
      have hb2 : Below wr.heap.size wr (wr.alloc (.cells #[.string t, .string y] 26)).drew := Below.drew ((Below.refl _ wr).alloc (Nat.le_refl _) _)
      have hown2 := owns_same (w' := (wr.alloc (.cells #[.string t, .string y] 26)).drew) (hrow.alloc (.cells #[.string t, .string y] 26)) (fun _ _ => rfl)
      have hnews := cells_two_new wr (.string t) (.string y) 26
      have hbw := hb.size
      obtain ⟨v', w3, hrun, hown3, hg3, _, ho3⟩ := run_append_own_at (P := Tryz.prog) (wr.alloc (.cells #[.string t, .string y] 26)).drew w.heap.size 22 22 26 i0 (.agg #[.string ⟨#[]⟩, .string ⟨#[]⟩]) 2 32 Tryz.underlying22 hi hz1 hz2 hz3 rfl (by decide) (.slice ar k cr) k _ hown2 ⟨wr.heap.size, 0, none⟩ 1 1 [.string t, .string y] rfl hnews (by simp [Value.oneCell']) (by unfold maxLen; omega) (by omega) (Nat.le_trans hbw hb2.size)
      rw [← hsn] at hown3
      obtain ⟨ad', c', hv'⟩ := ownsSlice hown3
      subst hv'
      have hfin : Below w.heap.size w w3 := (hb.trans (hb2.mono hbw)).grown hg3 (Nat.le_trans hbw hb2.size) (fun r e => (hrow.lt r e).1)
      have HR3 := Lib.hid hown3
      have HB3 := Lib.hid hfin
      clear hown2 hnews hown3 hfin hb2 ho3 hg3 hsn ht hy p1 p2 hc1 hc2 hrow hlen
      gi_wp2
      refine wpIn_region_any (by assumption) ?_
      change wpAnyIn _ _ _ _ _ _ _ _ _ (World.drew _)
      repeat' (first
        | (with_reducible exact AllReadyIn.nil)
        | ((with_reducible (show wpAnyIn _ _ _ _ _ _ _ _ _ _)); first
          | (refine wpAnyIn_done (by decide +kernel) ?_ _)
          | (refine wpAnyIn_take (i := 0) (v := .slice ar k cr) rfl rfl (by decide +kernel) (by decide +kernel) (by decide +kernel) (fun _ _ _ h => h) ⟨Or.inl ⟨by rfl, by intro w; go_simp⟩, fun _ => rfl⟩ ?_)
          | (refine wpAnyIn_take (i := 1) (v := .slice (some ⟨b, o, none⟩) l.length c) rfl rfl (by decide +kernel) (by decide +kernel) (by decide +kernel) (fun _ _ _ h => h) ⟨Or.inl ⟨by rfl, by intro w; go_simp⟩, fun _ => rfl⟩ ?_)
          | (refine wpAnyIn_take (i := 2) (v := .int .i64 (j : Int)) rfl rfl (by decide +kernel) (by decide +kernel) (by decide +kernel) (fun _ _ _ h => h) ⟨Or.inl ⟨by rfl, by intro w; go_simp⟩, fun _ => rfl⟩ ?_)
          | (refine wpAnyIn_take (i := 5) (v := .slice (some ⟨b, o, none⟩) l.length c) rfl rfl (by decide +kernel) (by decide +kernel) (by decide +kernel) (fun _ _ _ h => h) ⟨Or.inl ⟨by rfl, by intro w; go_simp⟩, fun _ => rfl⟩ ?_)
          | (refine wpAnyIn_take (i := 6) (v := .int .i64 (j : Int)) rfl rfl (by decide +kernel) (by decide +kernel) (by decide +kernel) (fun _ _ _ h => h) ⟨Or.inl ⟨by rfl, by intro w; go_simp⟩, fun _ => rfl⟩ ?_)
          | (refine wpAnyIn_take (i := 7) (v := .int .i64 ((j : Int) + 1)) rfl rfl (by decide +kernel) (by decide +kernel) (by decide +kernel) (fun _ _ _ h => h) ⟨Or.inl ⟨by rfl, by intro w; go_simp⟩, fun _ => rfl⟩ ?_)
          | (refine wpAnyIn_take (i := 10) (v := .agg #[.string t, .string y]) rfl rfl (by decide +kernel) (by decide +kernel) (by decide +kernel) (fun _ _ _ h => h) ⟨Or.inl ⟨by rfl, by intro w; go_simp⟩, fun _ => rfl⟩ ?_)
          | (refine wpAnyIn_ready (rs := [3, 8]) (by decide +kernel) (by simp) ?_)
          | (refine wpAnyIn_ready (rs := [4, 8]) (by decide +kernel) (by simp) ?_)
          | (refine wpAnyIn_ready (rs := [3, 9]) (by decide +kernel) (by simp) ?_)
          | (refine wpAnyIn_ready (rs := [4, 9]) (by decide +kernel) (by simp) ?_)
          | (refine wpAnyIn_ready (rs := [3]) (by decide +kernel) (by simp) ?_)
          | (refine wpAnyIn_ready (rs := [4]) (by decide +kernel) (by simp) ?_)
          | (refine wpAnyIn_ready (rs := [8]) (by decide +kernel) (by simp) ?_)
          | (refine wpAnyIn_ready (rs := [9]) (by decide +kernel) (by simp) ?_)
          | (refine wpAnyIn_ready (rs := [11]) (by decide +kernel) (by simp) ?_)
          | (refine wpAnyIn_ready (rs := [12]) (by decide +kernel) (by simp) ?_)
          | (refine wpAnyIn_ready (rs := [13]) (by decide +kernel) (by simp) ?_))
        | ((with_reducible (show AllReadyIn _ _ _ _ _ _ _ _ _ _ (12 :: _))); refine AllReadyIn.cons rfl (fun K hK => ?_) ?_; refine step_append_known (o := _) rfl (.tmp 14) (.tmp 25) 22 rfl (.slice ar k cr) (.slice (some ⟨wr.heap.size, 0, none⟩) 1 1) _ _ ?_ ?_ hrun (fun _ _ => trivial) ?_; exact rfl; exact rfl; refine hK _ _ ?_; clear hK K)
        | ((with_reducible (show AllReadyIn _ _ _ _ _ _ _ _ _ _ (_ :: _))); refine AllReadyIn.cons rfl (fun K hK => ?_) ?_; go_simp; refine hK _ _ ?_; clear hK K)
        | ((with_reducible (show AllReadyIn _ _ _ _ _ _ _ _ _ _ _)); exact AllReadyIn.nil))
      all_goals
        gi_wp2
        exact ⟨⟨k + 1, by omega, by rw [← hj]; go_num, HR3.out, HB3.out⟩, by simp [intOf]; omega⟩
    · have e1 : decide (((2 * k : Nat) : Int) + 1 < (l.length : Int)) = false := decide_eq_false (by omega)
      have s1 : wrap64 (((2 * k : Nat) : Int) + 1) = ((2 * k : Nat) : Int) + 1 := by unfold wrap64; omega
      obtain rfl : k = L.length := by omega
      rw [List.take_length] at hrow
      have FR := Lib.hid (frow_of hrow)
      obtain ⟨ar, cr, hu5⟩ := ownsSlice hrow
      subst hu5
      have QS := Lib.hid (fun W r1 (B : Below wr.heap.size wr W) (h1 : FRow W r1 L) => callsIn_wide (n := n - 1) |>.2 (files_same L r1 _ W h1 (FR.out.below B) (by omega)))
      obtain ⟨j, hj⟩ : ∃ j, 2 * L.length = j := ⟨_, rfl⟩
      rw [hj] at e1 s1 ⊢
      clear hlen hrow
      gi_wp2_with (first
        | (refine ⟨trivial, ?_⟩; gi_at_call 28; go_loud (refine (QF.out _ hb).mono ?_; rintro e w1 ⟨r, rfl, hr, hb1⟩; obtain ⟨ad1, c1, hr1⟩ := ownsSlice hr; subst hr1; have HF1 := Lib.hid (frow_of hr); have HB1 := Lib.hid hb1; clear hr hb1))
        | (refine ⟨trivial, ?_⟩; gi_at_call 29; go_loud (refine (QS.out _ _ HB1.out HF1.out).mono ?_; rintro e w2 ⟨rfl, hb2⟩)))
      exact bodyPost_ret (results_tmp rfl _ _ _) rfl ⟨rfl, Below.next (Below.next hb HB1.out) hb2⟩

theorem has_true {w : World} {p : Nat} {S : DS} {v : DV} {l : List ByteArray} {lv : Value} (h : DiskP w p S v) (hl : S.fold.weight ≤ 80000) (hv : Strs w lv l) (hlen : l.length = 2 * S.files.length) (hm : S.files.length ≤ 100000) (hp : ∀ k, k < S.files.length → Fld.strO (flAt S.files k).1 = l.getD (2 * k) ⟨#[]⟩ ∧ Fld.strO (flAt S.files k).2 = l.getD (2 * k + 1) ⟨#[]⟩) :
    Calls Tryz.prog 35 #[.pointer (some ⟨p, 0, none⟩), lv] w fun e w' => e = .returned (.bool true) ∧ Below w.heap.size w w' :=
  callsIn_wide.1 (has_in 6 (Nat.le_refl _) h hl hv hlen hm hp)
end Go.Proofs.YtmmoilmfpiclgaaGreat
namespace Go.Proofs.YtmmoilmfpiclgaaGreat
open Go.RowKit Go.Shelf
open Fld (FS Names FAct actsOn foundN foundB findT withT withoutT GoodN Rising mayB nam nameMax FolderS FolderIn ARow textsOf)

/-- A file with bytes is laid. -/
def DS.laid (S : DS) (s : ByteArray) (D : List UInt8) : DS := { S with fold := (S.fold.create s).1, file := upd S.file (S.fold.create s).2.1 ⟨D, []⟩ }
def DS.ofs : DS → FL → Option DS
  | S, [] => some S
  | S, x :: l => if (S.fold.create (Fld.strO x.1)).2.2 = 0 then DS.ofs (S.laid (Fld.strO x.1) x.2) l else none
def DS.of (q : Nat) (l : FL) : Option DS := ((DS.new q).ofs l).map fun S => { S with fold := S.fold.sync }

theorem laid_used {S : DS} (hg : S.fold.good) {s : ByteArray} (D : List UInt8) (h : (S.fold.create s).2.2 = 0) : (S.laid s D).used = S.used + D.length := by
  show sumN (lenOf (upd S.file (S.fold.create s).2.1 ⟨D, []⟩)) (S.fold.create s).1.there = sumN (lenOf S.file) S.fold.there + D.length
  rcases create_ways S.fold s with e | e | ⟨_, hf, e, et⟩
  · rw [e] at h; cases h
  · rw [e] at h; cases h
  · rw [et, e, sumN_with, without_none (Fld.foundB_false hf)]
    have : lenOf (upd S.file (S.fold.n + 1) ⟨D, []⟩) (s.data.toList, S.fold.n + 1) = D.length := by
      unfold lenOf
      simp only [upd_same]
      rfl
    show lenOf (upd S.file (S.fold.n + 1) ⟨D, []⟩) (s.data.toList, S.fold.n + 1) + sumN (lenOf (upd S.file (S.fold.n + 1) ⟨D, []⟩)) S.fold.there = _
    rw [this, Nat.add_comm]
    refine congrArg (· + D.length) (sumN_congr fun p hp => ?_)
    have := (hg.there.range p hp).2
    unfold lenOf
    rw [upd_other _ _ (by show p.2 ≠ S.fold.n + 1; omega)]

/-- The put behind a Create. -/
theorem laid_put {w W1 W2 : World} {p b : Nat} {S : DS} {v v1 : DV} {fv lv : Value} {lost : List Nat} {armed : Nat} {P : Nat → Option Nat} {M : Nat → Prop} {D : List UInt8} (h : DiskP w p S v) (h1 : DiskIn w p S S.used v fv lv lost armed P) (hkn : KnownIn S.fold lost P) (s : ByteArray) (hl : S.fold.weight ≤ 80000) (hu : S.used + D.length ≤ 100000000000000) (e0 : (S.fold.create s).2.2 = 0)
    (a1 : DiskIn W1 p { S with fold := (S.fold.create s).1 } S.used v1 fv lv lost armed P) (a2 : Parts W1 v1.M v1.I) (a3 : v.To w W1 v1) (a4 : FileAt W2 b D [] M (fun _ => False)) (a5 : ∀ g, M g → W1.heap.size ≤ g) (a6 : Below W1.heap.size W1 W2) :
    Calls Tryz.prog 39 #[.pointer (some ⟨p, 0, none⟩), .int .i64 (((S.fold.create s).2.1 : Nat) : Int), .pointer (some ⟨b, 0, none⟩)] W2 fun e w' => e = .returned (.tuple #[]) ∧ ∃ fv' v' P', DiskIn w' p (S.laid s D) (S.laid s D).used v' fv' lv lost armed P' ∧ KnownIn (S.laid s D).fold lost P' ∧ (S.laid s D).fold.good ∧ Parts w' v'.M v'.I ∧ v.To w w' v' := by
  have hrow := fun b hb => h.rowLt (b := b) hb
  have hgood := Fld.good_create h.good s
  have hroom := h.room
  have hnn : (S.fold.create s).1.n ≤ 100000 := by
    have h3 : _ ≤ S.fold.weight + 2 := Fld.weight_create S.fold s
    have h4 : (S.fold.create s).1.n ≤ (S.fold.create s).1.weight := Nat.le_add_left _ _
    omega
  obtain ⟨en, en2⟩ := create_n e0
  have hP : P (S.fold.create s).2.1 = none := by
    cases hx : P (S.fold.create s).2.1 with
    | none => rfl
    | some c => have := (h1.files _ c hx).2.2; omega
  have hus : (S.laid s D).used = S.used + D.length := laid_used h.good D e0
  obtain ⟨x, hx⟩ : ∃ x, (S.fold.create s).2.1 = x := ⟨_, rfl⟩
  have hkn' : KnownIn (S.fold.create s).1 lost (pset P x b) := ⟨(known_create hkn.1 s).mono fun n hn => by
      by_cases e : n = x
      · subst e; exact ⟨b, pset_same _ _ _⟩
      · rcases hn with ⟨c, hc⟩ | ⟨_, e'⟩
        · exact ⟨c, (pset_other _ _ e).trans hc⟩
        · exact absurd (e'.trans hx) e, fun x hx => ⟨Nat.le_trans (hkn.2.1 x hx).1 (create_A _ _).2, gone_create s (hkn.2.1 x hx).1 (hkn.2.1 x hx).2⟩, Nat.le_trans hkn.2.2 (create_A _ _).1⟩
  have hb : S.laid s D = { S with fold := (S.fold.create s).1, file := upd S.file x ⟨D, []⟩ } := by unfold DS.laid; rw [hx]
  rw [hb] at hus ⊢
  rw [hx] at hP en ⊢
  obtain ⟨v2, b1, b2, b3, b4⟩ := born_file a1 a2 hP a4 a5 a6
  have z : (upd S.file x ⟨D, []⟩ x).R.length = D.length := by rw [upd_same]; rfl
  refine (put_any b1 b2 hP hnn (by omega) (by show x ≤ (S.fold.create s).1.n; omega) b4 (by show S.used + (upd S.file x ⟨D, []⟩ x).R.length ≤ _; rw [z]; omega)).mono ?_
  rintro e w' ⟨rfl, m, v', c1, c2, c3⟩
  simp only [z] at c1
  exact ⟨rfl, _, v', _, hus.symm ▸ c1, hkn', hgood, c2, (a3.trans hrow b3).trans hrow c3⟩

/-- A row of files is laid upon a disk: how great it is. -/
structure Young (S : DS) (k u : Nat) : Prop where
  l0 : S.fold.L0 = []
  acts : S.fold.A.length = k
  n : S.fold.n = k
  used : S.used ≤ u
theorem Young.weight {S : DS} {k u : Nat} (h : Young S k u) : S.fold.weight = k + k := by
  unfold Fld.FS.weight
  rw [h.l0, h.acts, h.n]
  simp
theorem young_new (q : Nat) : Young (DS.new q) 0 0 := ⟨rfl, rfl, rfl, Nat.le_refl _⟩
theorem young_laid {S : DS} {k u : Nat} (h : Young S k u) (hg : S.fold.good) {s : ByteArray} (D : List UInt8) (e0 : (S.fold.create s).2.2 = 0) : Young (S.laid s D) (k + 1) (u + D.length) := by
  have hu := laid_used hg D e0
  have h1 := h.used
  refine ⟨?_, ?_, ?_, by omega⟩
  all_goals
    rcases create_ways S.fold s with e | e | ⟨_, hf, e, et⟩
    · rw [e] at e0; cases e0
    · rw [e] at e0; cases e0
    · unfold DS.laid
      rw [e]
      first
        | exact h.l0
        | (show (S.fold.A ++ [_]).length = _; rw [List.length_append, h.acts]; rfl)
        | (show S.fold.n + 1 = _; rw [h.n])

/-- A disk that is being laid. -/
structure OfI (w0 w : World) (p : Nat) (S : DS) (v : DV) : Prop where
  it : ∃ fv lv armed P, DiskIn w p S S.used v fv lv [] armed P ∧ KnownIn S.fold [] P
  good : S.fold.good
  parts : Parts w v.M v.I
  room : S.room ≤ 1000000000000
  fresh : ∀ g, All v.M g ∨ All v.I g → w0.heap.size ≤ g
  below : Below w0.heap.size w0 w
theorem OfI.disk {w0 w : World} {p : Nat} {S : DS} {v : DV} (h : OfI w0 w p S v) : DiskP w p S v := by
  obtain ⟨fv, lv, armed, P, h1, h2⟩ := h.it
  exact ⟨⟨fv, lv, [], armed, P, h1, h2⟩, h.good, h.parts, h.room⟩
theorem OfI.next {w0 w w' : World} {p : Nat} {S : DS} {v : DV} (h : OfI w0 w p S v) (hb : Below w.heap.size w w') : OfI w0 w' p S v := by
  obtain ⟨fv, lv, armed, P, h1, h2⟩ := h.it
  obtain ⟨k1, k2, _⟩ := h1.below h.parts hb
  exact ⟨⟨fv, lv, armed, P, k1, h2⟩, h.good, k2, h.room, h.fresh, Below.next h.below hb⟩
theorem OfI.to {w0 w w' : World} {p : Nat} {S S' : DS} {v v' : DV} {fv lv : Value} {armed : Nat} {P : Nat → Option Nat} (h : OfI w0 w p S v) (t : v.To w w' v') (h1 : DiskIn w' p S' S'.used v' fv lv [] armed P) (h2 : KnownIn S'.fold [] P) (h3 : S'.fold.good) (h4 : Parts w' v'.M v'.I) (h5 : S'.room = S.room) : OfI w0 w' p S' v' :=
  ⟨⟨fv, lv, armed, P, h1, h2⟩, h3, h4, by rw [h5]; exact h.room, fun g hg => by
    rcases hg with hg | hg
    · rcases t.m g hg with k | k
      · exact h.fresh g (.inl k)
      · exact Nat.le_trans h.below.size k
    · rcases t.i g hg with k | k
      · exact h.fresh g (.inr k)
      · exact Nat.le_trans h.below.size k, h.below.trans (t.kept.to h.below.size fun g hg => h.fresh g (.inl hg))⟩
/-- Create's call, and what may come behind it. -/
theorem of_create {w0 w : World} {p : Nat} {S : DS} {v : DV} (h : OfI w0 w p S v) (s : ByteArray) (hs : s.size ≤ nameMax) (hl : S.fold.weight ≤ 80000) (hu : S.used ≤ 90000000000000) :
    Calls Tryz.prog 38 #[.pointer (some ⟨p, 0, none⟩), .string s] w fun e w1 => e = .returned (.tuple #[.int .i64 ((S.fold.create s).2.1 : Nat), .int .i64 ((S.fold.create s).2.2 : Nat)]) ∧ Below w0.heap.size w0 w1 ∧ (∀ g, g < w.heap.size → ¬ All v.M g → w1.heap[g]? = w.heap[g]?) ∧
      ((S.fold.create s).2.2 = 0 → ∀ (D : List UInt8) (b : Nat) (M : Nat → Prop) (w2 : World), D.length ≤ 100000 → FileAt w2 b D [] M (fun _ => False) → (∀ g, M g → w1.heap.size ≤ g) → Below w1.heap.size w1 w2 →
        Calls Tryz.prog 39 #[.pointer (some ⟨p, 0, none⟩), .int .i64 (((S.fold.create s).2.1 : Nat) : Int), .pointer (some ⟨b, 0, none⟩)] w2 fun e w' => e = .returned (.tuple #[]) ∧ ∃ v', OfI w0 w' p (S.laid s D) v') := by
  obtain ⟨fv, lv, armed, P, h1, h2⟩ := h.it
  refine (fold_create h1 h.parts s hs (by omega)).mono ?_
  rintro e w1 ⟨rfl, v1, k1, k2, k3⟩
  refine ⟨rfl, h.below.trans (k3.kept.to h.below.size fun g hg => h.fresh g (.inl hg)), fun g hg hn => k3.kept.block g hg hn, fun e0 D b M w2 hD hf hM hb => ?_⟩
  refine (laid_put h.disk h1 h2 s hl (by omega) e0 k1 k2 k3 hf hM hb).mono ?_
  rintro e w' ⟨rfl, fv', v', P', d1, d2, d3, d4, d5⟩
  exact ⟨rfl, v', h.to d5 d1 d2 d3 d4 rfl⟩
/-- The folder's Sync behind the last one. -/
theorem of_sync {w0 w : World} {p : Nat} {S : DS} {v : DV} (h : OfI w0 w p S v) (hl : S.fold.weight ≤ 90000) :
    Calls Tryz.prog 41 #[.pointer (some ⟨p, 0, none⟩)] w fun e w' => e = .returned (.tuple #[]) ∧ ∃ v', OfI w0 w' p { S with fold := S.fold.sync } v' := by
  obtain ⟨fv, lv, armed, P, h1, h2⟩ := h.it
  refine (fold_sync h1 h.parts hl).mono ?_
  rintro e w' ⟨rfl, v', k1, k2, k3⟩
  exact ⟨rfl, v', h.to k3 k1 ⟨known_flat fun q hq => h2.1.there q hq, (fun x hx => by cases hx), Nat.zero_le _⟩ (Fld.good_sync h.good) k2 rfl⟩

theorem drewB' {w0 w : World} (h : Below w0.heap.size w0 w) : Below w0.heap.size w0 w.drew := h.trans ⟨rfl, rfl, rfl, Nat.le_refl _, fun _ _ => rfl⟩
set_option maxHeartbeats 4000000 in
set_option maxRecDepth 100000 in
/-- Of: a disk, or none. -/
theorem of_any {w : World} {lv : Value} {l : FL} (q : Nat) (hq : q ≤ 1000000000000) (hl : FRow w lv l) (hlen : l.length ≤ 20000) (hs : ∀ x ∈ l, x.1.length ≤ nameMax ∧ x.2.length ≤ 100000) :
    Calls Tryz.prog 7 #[lv, .int .i64 (q : Int)] w fun e w' => (DS.of q l = none ∧ e = .returned (.pointer none) ∧ Below w.heap.size w w') ∨
      ∃ S p v, DS.of q l = some S ∧ e = .returned (.pointer (some ⟨p, 0, none⟩)) ∧ DiskP w' p S v ∧ (∀ g, All v.M g ∨ All v.I g → w.heap.size ≤ g) ∧ Below w.heap.size w w' := by
  have HR := Lib.hid (fun W (B : Below w.heap.size w W) => hl.below B)
  obtain ⟨ad, c, rfl, hx⟩ := hl
  have HC : Hid (∀ i, i < l.length → ∃ b o, ad = some ⟨b, o, none⟩ ∧ ∀ W, Below w.heap.size w W → W.cell? ⟨b, o + i * 2, none⟩ = some (.string (Fld.strO (flAt l i).1)) ∧ W.cell? ⟨b, o + i * 2 + 1, none⟩ = some (.string (Fld.strO (flAt l i).2))) := Lib.hid fun i hi => by
    obtain ⟨b, o, rfl, q1, q2⟩ := hx i hi
    exact ⟨b, o, rfl, fun W hb => ⟨(hb.cell (p := ⟨b, o + i * 2, none⟩) (block_lt_of_cell q1)).trans q1, (hb.cell (p := ⟨b, o + i * 2 + 1, none⟩) (block_lt_of_cell q2)).trans q2⟩⟩
  have HN := Lib.hid (disk_new w q hq)
  have HSZ := Lib.hid hs
  have hlen' := hlen
  clear hx HR hs
  go_enter Tryz.func7, Tryz.ntmps7
  go_wp2_with (go_at_call 9; (with_reducible refine HN.out.mono ?_); rintro e w1 ⟨p, v0, rfl, hd, hu, hb⟩; have HD0 := Lib.hid hd; have HU0 := Lib.hid hu; have HB0 := Lib.hid hb; clear hd hu hb)
  go_loopw [16, 7, 8, 9] (fun s16 _ _ _ wr => ∃ (k : Nat) (S : DS) (v : DV) (u : Nat), k ≤ l.length ∧ s16 = .int .i64 k ∧ OfI w wr p S v ∧ Young S k u ∧ u ≤ k * 100000 ∧ DS.ofs S (l.drop k) = DS.ofs (DS.new q) l) (fun s16 _ _ _ _ => l.length - (intOf s16).toNat)
  case atStart =>
    refine ⟨0, DS.new q, v0, 0, Nat.zero_le _, rfl, ?_, young_new q, Nat.zero_le _, rfl⟩
    obtain ⟨fv, lv, lost, armed, P, h1, h2⟩ := HD0.out.it
    have hlost : lost = [] := List.length_eq_zero_iff.1 (Nat.le_zero.1 h2.2.2)
    subst hlost
    exact ⟨⟨fv, lv, armed, P, h1, h2⟩, HD0.out.good, HD0.out.parts, HD0.out.room, HU0.out, HB0.out⟩
  case round =>
    obtain ⟨k, S, v, u, hk, rfl, hI, hY, hu, hofs⟩ := hrel
    have HI := Lib.hid hI
    have HY := Lib.hid hY
    have HO := Lib.hid hofs
    clear hI hY hofs
    by_cases hlt : k < l.length
    · have e1 : decide ((k : Int) < (l.length : Int)) = true := decide_eq_true (by omega)
      have e1' : decide (k < l.length) = true := decide_eq_true hlt
      obtain ⟨b, o, rfl, hE⟩ := HC.out k hlt
      obtain ⟨h1, h2⟩ := hE wr HI.out.below
      obtain ⟨x, hxx⟩ : ∃ x, flAt l k = x := ⟨_, rfl⟩
      rw [hxx] at h1 h2
      obtain ⟨x1, x2⟩ := x
      have hxm : (x1, x2) ∈ l := by
        have : flAt l k = l[k] := by simp [flAt, List.getD, hlt]
        rw [← hxx, this]; exact List.getElem_mem hlt
      obtain ⟨s1, s2⟩ := HSZ.out _ hxm
      dsimp only at s1 s2 h1 h2
      have hdr : l.drop k = (x1, x2) :: l.drop (k + 1) := by
        have : flAt l k = l[k] := by simp [flAt, List.getD, hlt]
        rw [List.drop_eq_getElem_cons hlt, ← this, hxx]
      have HDR := Lib.hid hdr
      have hwt := HY.out.weight
      have hus := HY.out.used
      go_upto_region 7 with fail
      obtain ⟨W1, hW1⟩ : ∃ W1, wr.alloc (.cells #[.string (Fld.strO x1), .string (Fld.strO x2)] 26) = W1 := ⟨_, rfl⟩
      have hb1 : Below wr.heap.size wr W1 := by rw [← hW1]; exact (Below.refl _ wr).alloc (Nat.le_refl _) _
      have hxb := heap_alloc_new wr (.cells #[.string (Fld.strO x1), .string (Fld.strO x2)] 26)
      rw [hW1] at hxb ⊢
      have hsize1 : (Fld.strO x1).size = x1.length := Fld.strO_size _
      have hsize2 : (Fld.strO x2).size = x2.length := Fld.strO_size _
      have hd2 : (Fld.strO x2).data.toList = x2 := Fld.strO_data _
      obtain ⟨X, hX⟩ : ∃ X, Fld.strO x1 = X := ⟨_, rfl⟩
      obtain ⟨Y, hY⟩ : ∃ Y, Fld.strO x2 = Y := ⟨_, rfl⟩
      rw [hX] at hsize1 h1 hxb ⊢
      rw [hY] at hsize2 h2 hd2 hxb ⊢
      have QC := Lib.hid (fun W (hW : Below W1.heap.size W1 W) => of_create ((HI.out.next hb1).next hW) X (by omega) (by omega) (by omega))
      have KB := Lib.hid (fun W (hW : Below W1.heap.size W1 W) => (show W.cell? ⟨wr.heap.size, 0, none⟩ = some (.string X) ∧ W.cell? ⟨wr.heap.size, 1, none⟩ = some (.string Y) by
        have h := (hW.block _ (Array.getElem?_eq_some_iff.1 hxb).1).trans hxb
        exact ⟨by rw [cell_of_row _ _ _ _ _ _ h]; rfl, by rw [cell_of_row _ _ _ _ _ _ h]; rfl⟩))
      obtain ⟨kb0, kb1⟩ := KB.out W1 (Below.refl _ _)
      have KX := Lib.hid (fun (W w2 : World) (hW : Below W1.heap.size W1 W) (hk : ∀ g, g < W.heap.size → ¬ All v.M g → w2.heap[g]? = W.heap[g]?) => (show w2.cell? ⟨wr.heap.size, 1, none⟩ = some (.string Y) by
        have h0 := (hW.block _ (Array.getElem?_eq_some_iff.1 hxb).1).trans hxb
        have h := (hk wr.heap.size (Array.getElem?_eq_some_iff.1 h0).1 (fun hm => by have := HI.out.disk.blocks _ (.inl hm); omega)).trans h0
        rw [cell_of_row _ _ _ _ _ _ h]; rfl))
      have HNF := Lib.hid (fun W => new_any Y W (by omega))
      have HS2 := Lib.hid s2
      clear hW1 hE hxb hb1 hdr s1 s2 hxm hxx hwt hus
      by_cases e0 : (S.fold.create X).2.2 = 0
      · have HYL := Lib.hid (young_laid HY.out HI.out.good x2 e0)
        have HOF := Lib.hid (show DS.ofs (S.laid X x2) (l.drop (k + 1)) = DS.ofs (DS.new q) l by
          rw [← HO.out, HDR.out]
          show _ = if _ then _ else _
          rw [hX, if_pos e0])
        have QC' := Lib.hid (fun W hW => (QC.out W hW).mono fun e w1 ⟨a1, a2, a4, a3⟩ => (show e = Ending.returned (.tuple #[.int .i64 ((S.fold.create X).2.1 : Nat), .int .i64 0]) ∧ Below w.heap.size w w1 ∧ w1.cell? ⟨wr.heap.size, 1, none⟩ = some (Value.string Y) ∧ _ from ⟨by rw [a1, e0]; rfl, a2, KX.out W w1 hW a4, a3 e0⟩))
        obtain ⟨nn, hnn⟩ : ∃ nn, (S.fold.create X).2.1 = nn := ⟨_, rfl⟩
        rw [hnn] at QC'
        clear QC hnn
        go_region_with ((go_at_call 38; (with_reducible refine (QC'.out _ (by repeat (first | with_reducible exact Below.refl _ _ | (with_reducible apply drewB')))).mono ?_); rintro e w2 ⟨rfl, b2, kx, p2⟩))
        all_goals
          have P2 := Lib.hid p2
          clear p2
          go_wp2_with (first
            | (go_at_call 40; (with_reducible refine (HNF.out _).mono ?_); rintro e w3 ⟨b3, M3, rfl, f1, f2, f3⟩)
            | (go_at_call 39; go_loud ((with_reducible refine (P2.out x2 _ _ _ HS2.out (hd2 ▸ f1) f2 f3).mono ?_); rintro e w4 ⟨rfl, v4, h4⟩)))
          exact ⟨⟨k + 1, _, v4, _, by omega, by go_num, h4, HYL.out, by have := HS2.out; omega, HOF.out⟩, by simp [intOf]; omega⟩
      · have HOF := Lib.hid (show DS.of q l = none by
          unfold DS.of
          rw [← HO.out, HDR.out]
          show Option.map _ (if _ then _ else _) = none
          rw [hX, if_neg e0]
          rfl)
        have QC' := Lib.hid (fun W hW => (QC.out W hW).mono fun e w1 ⟨a1, a2, a4, a3⟩ => (show e = Ending.returned (.tuple #[.int .i64 ((S.fold.create X).2.1 : Nat), .int .i64 ((S.fold.create X).2.2 : Nat)]) ∧ Below w.heap.size w w1 from ⟨a1, a2⟩))
        obtain ⟨nn, hnn⟩ : ∃ nn, (S.fold.create X).2.1 = nn := ⟨_, rfl⟩
        obtain ⟨er, her⟩ : ∃ er, (S.fold.create X).2.2 = er := ⟨_, rfl⟩
        rw [hnn, her] at QC'
        rw [her] at e0
        have hz : ((er : Int) == 0) = false := by simpa using e0
        clear QC hnn her
        go_region_with ((go_at_call 38; (with_reducible refine (QC'.out _ (by repeat (first | with_reducible exact Below.refl _ _ | (with_reducible apply drewB')))).mono ?_); rintro e w2 ⟨rfl, b2⟩))
        all_goals
          go_wp2_with fail
          go_ret
          exact .inl ⟨HOF.out, rfl, b2⟩
    · have e1 : decide ((k : Int) < (l.length : Int)) = false := decide_eq_false (by omega)
      have e1' : decide (k < l.length) = false := decide_eq_false hlt
      obtain rfl : k = l.length := by omega
      have QS := Lib.hid (of_sync HI.out (by rw [HY.out.weight]; omega))
      go_wp2_with (go_at_call 41; (with_reducible refine QS.out.mono ?_); rintro e w2 ⟨rfl, v', hv'⟩)
      go_ret
      refine .inr ⟨_, p, v', ?_, rfl, hv'.disk, hv'.fresh, hv'.below⟩
      have := HO.out
      rw [List.drop_length] at this
      unfold DS.of
      rw [← this]
      rfl
end Go.Proofs.YtmmoilmfpiclgaaGreat

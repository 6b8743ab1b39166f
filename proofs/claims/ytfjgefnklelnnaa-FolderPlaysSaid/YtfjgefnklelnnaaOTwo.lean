/-
  Two folders in a walk; rows of acts, told; names joined.
-/
import Derived.Test.YtfjgefnklelnnaaOActs
namespace Go.Proofs.Ytfjgefnklelnnaa
open Go.RowKit Go.Shelf

/-- Two folders, apart from each other, newer than a world. -/
def Two (w0 w : World) (p : Nat) (S : FS) (q : Nat) (T : FS) : Prop := ∃ av fs M I bv gs N K, FolderS w p S av fs M I ∧ FolderS w q T bv gs N K ∧ (∀ g, M g → ¬ N g ∧ ¬ K g) ∧ (∀ g, N g → ¬ M g ∧ ¬ I g) ∧ (∀ g, (M g ∨ I g) ∨ (N g ∨ K g) → w0.heap.size ≤ g) ∧ Below w0.heap.size w0 w ∧ S.good ∧ T.good

theorem Two.swap {w0 w : World} {p q : Nat} {S T : FS} (h : Two w0 w p S q T) : Two w0 w q T p S := by
  obtain ⟨av, fs, M, I, bv, gs, N, K, h1, h2, h3, h4, h5, h6, h7, h8⟩ := h
  exact ⟨bv, gs, N, K, av, fs, M, I, h2, h1, h4, h3, fun g hg => h5 g hg.symm, h6, h8, h7⟩
theorem Two.next {w0 w w' : World} {p q : Nat} {S T : FS} (h : Two w0 w p S q T) (hb : Below w.heap.size w w') : Two w0 w' p S q T := by
  obtain ⟨av, fs, M, I, bv, gs, N, K, h1, h2, h3, h4, h5, h6, h7, h8⟩ := h
  exact ⟨av, fs, M, I, bv, gs, N, K, FolderIn.below h1 hb, FolderIn.below h2 hb, h3, h4, h5, Below.next h6 hb, h7, h8⟩
theorem Two.below {w0 w : World} {p q : Nat} {S T : FS} (h : Two w0 w p S q T) : Below w0.heap.size w0 w := by
  obtain ⟨av, fs, M, I, bv, gs, N, K, h1, h2, h3, h4, h5, h6, h7, h8⟩ := h
  exact h6
theorem Two.good {w0 w : World} {p q : Nat} {S T : FS} (h : Two w0 w p S q T) : S.good := by
  obtain ⟨av, fs, M, I, bv, gs, N, K, h1, h2, h3, h4, h5, h6, h7, h8⟩ := h
  exact h7
theorem Two.read {w0 w : World} {p q : Nat} {S T : FS} {f : Nat} {args : Array Value} {R : Ending → World → Prop} (h : Two w0 w p S q T) (hq : ∀ av fs M I, FolderS w p S av fs M I → Calls Try.prog f args w R) : Calls Try.prog f args w R := by
  obtain ⟨av, fs, M, I, bv, gs, N, K, h1, h2, h3, h4, h5, h6, h7, h8⟩ := h
  exact hq av fs M I h1
/-- A method of the first one. -/
theorem Two.went {w0 w : World} {p q : Nat} {S S' T : FS} {f : Nat} {args : Array Value} {r : Value} (h : Two w0 w p S q T) (hg : S'.good) (hq : ∀ av fs M I, FolderS w p S av fs M I → Calls Try.prog f args w fun e w' => e = .returned r ∧ WentS w p av fs M I S' w') :
    Calls Try.prog f args w fun e w' => e = .returned r ∧ Two w0 w' p S' q T := by
  obtain ⟨av, fs, M, I, bv, gs, N, K, h1, h2, h3, h4, h5, h6, h7, h8⟩ := h
  refine (hq av fs M I h1).mono ?_
  rintro e w' ⟨rfl, av', fs', M', I', k1, k2, k3, k4, _⟩
  have hz := h6.size
  refine ⟨rfl, av', fs', M', I', bv, gs, N, K, k1, FolderIn.kept h2 k4 fun g hg hm => ?_, fun g hg => ?_, fun g hg => ⟨fun hm => ?_, fun hi => ?_⟩, fun g hg => ?_, h6.trans (k4.to hz fun g hm => h5 g (.inl (.inl hm))), hg, h8⟩
  · obtain ⟨q1, q2⟩ := h3 g hm
    rcases hg with hg | hg
    · exact q1 hg
    · exact q2 hg
  · rcases k2 g hg with k | k
    · exact h3 g k
    · exact ⟨fun hn => by have := h2.mem g (.inl hn); omega, fun hn => by have := h2.mem g (.inr hn); omega⟩
  · rcases k2 g hm with k | k
    · exact (h4 g hg).1 k
    · have := h2.mem g (.inl hg); omega
  · rcases k3 g hi with k | k
    · exact (h4 g hg).2 k
    · have := h2.mem g (.inl hg); omega
  · rcases hg with (hg | hg) | hg
    · rcases k2 g hg with k | k
      · exact h5 g (.inl (.inl k))
      · omega
    · rcases k3 g hg with k | k
      · exact h5 g (.inl (.inr k))
      · omega
    · exact h5 g (.inr hg)
/-- A second new one. -/
theorem two_new {w0 w : World} {p : Nat} {S : FS} (h : Sole w0 w p S) : Calls Try.prog 8 #[] w fun e w' => ∃ q, e = .returned (.pointer (some ⟨q, 0, none⟩)) ∧ Two w0 w' p S q FS.new := by
  obtain ⟨av, fs, M, I, h1, h2, h3, h4⟩ := h
  refine (new_any w).mono ?_
  rintro e w' ⟨q, rfl, k1, k2, k3⟩
  have hz := h3.size
  exact ⟨q, rfl, av, fs, M, I, _, _, _, _, FolderIn.below h1 k3, k1, (fun g hg => ⟨fun e => by have := h1.mem g (.inl hg); omega, fun e => e⟩), (fun g hg => ⟨fun hm => by have := h1.mem g (.inl hm); omega, fun hm => by have := h1.mem g (.inr hm); omega⟩),
    (fun g hg => Or.elim hg (h2 g) (fun hg => Or.elim hg (fun e => by omega) False.elim)), Below.next h3 k3, h4, good_new⟩

/-- Acts, one behind the other. -/
def FS.runs (S : FS) (l : List Deed) : FS := l.foldl (fun S d => S.does d.what d.a d.b) S
theorem runs_take (S : FS) (l : List Deed) (k : Nat) (hk : k < l.length) : S.runs (l.take (k + 1)) = (S.runs (l.take k)).does (l.getD k default).what (l.getD k default).a (l.getD k default).b := by
  rw [List.take_succ_eq_append_getElem hk]
  unfold FS.runs
  rw [List.foldl_append]
  simp [List.getD, hk]
theorem weight_runs (S : FS) (l : List Deed) : (S.runs l).weight ≤ S.weight + 2 * l.length := by
  induction l generalizing S with
  | nil => exact Nat.le_refl _
  | cons d r ih =>
    have h1 := ih (S.does d.what d.a d.b)
    have h2 := weight_does S d.what d.a d.b
    show ((S.does d.what d.a d.b).runs r).weight ≤ _
    simp only [List.length_cons]
    omega
/-- An act leaves what lasts, and stands behind those that were. -/
theorem does_acts (S : FS) (x a b : Nat) : (S.does x a b).L0 = S.L0 ∧ ((S.does x a b).A = S.A ∨ ∃ y, (S.does x a b).A = S.A ++ [y]) := by
  unfold FS.does
  split
  · unfold FS.create
    split
    · exact ⟨rfl, .inl rfl⟩
    · split
      · exact ⟨rfl, .inl rfl⟩
      · exact ⟨rfl, .inr ⟨_, rfl⟩⟩
  · split
    · unfold FS.rename
      split
      · exact ⟨rfl, .inl rfl⟩
      · split
        · exact ⟨rfl, .inl rfl⟩
        · exact ⟨rfl, .inr ⟨_, rfl⟩⟩
    · unfold FS.remove
      split
      · exact ⟨rfl, .inl rfl⟩
      · exact ⟨rfl, .inr ⟨_, rfl⟩⟩
theorem runs_acts (S : FS) (l : List Deed) : (S.runs l).L0 = S.L0 ∧ S.A <+: (S.runs l).A ∧ (S.runs l).A.length ≤ S.A.length + l.length := by
  induction l generalizing S with
  | nil => exact ⟨rfl, List.prefix_refl _, Nat.le_refl _⟩
  | cons d r ih =>
    obtain ⟨h1, h2, h3⟩ := ih (S.does d.what d.a d.b)
    obtain ⟨k1, k2⟩ := does_acts S d.what d.a d.b
    refine ⟨h1.trans k1, List.IsPrefix.trans ?_ h2, ?_⟩
    · rcases k2 with k2 | ⟨y, k2⟩
      · rw [k2]; exact List.prefix_refl _
      · rw [k2]; exact List.prefix_append _ _
    · show ((S.does d.what d.a d.b).runs r).A.length ≤ _
      simp only [List.length_cons]
      rcases k2 with k2 | ⟨y, k2⟩
      · rw [k2] at h3; omega
      · rw [k2, List.length_append] at h3; simp at h3; omega
theorem runs_more (S : FS) (l : List Deed) {j k : Nat} (hj : j ≤ k) : (S.runs (l.take j)).A <+: (S.runs (l.take k)).A := by
  have : S.runs (l.take k) = (S.runs (l.take j)).runs ((l.take k).drop j) := by
    have h2 : l.take k = l.take j ++ (l.take k).drop j := by
      have := (List.take_append_drop j (l.take k)).symm
      rwa [List.take_take, Nat.min_eq_left hj] at this
    conv => lhs; rw [h2]
    unfold FS.runs
    rw [List.foldl_append]
  rw [this]
  exact (runs_acts _ _).2.1

theorem join27 {w W : World} {v : Value} {ts : List ByteArray} (hr : W.ownsRow w.heap.size 9 1 v ts.length (ts.map Value.string)) (hl : ts.length ≤ 100000) (hj : (Lib.join (ts.map fun x : ByteArray => x.data.toList) [32]).length ≤ 65 * ts.length) :
    Calls Try.prog 27 #[v, .string ⟨#[32]⟩] W fun e w' => e = .returned (.string (strO (Lib.join (ts.map fun x : ByteArray => x.data.toList) [32]))) ∧ Below W.heap.size W w' := by
  rcases hr.2 with ⟨rfl, h0⟩ | ⟨g, cap, cur, rfl, _, hh, hc1, _, _, ht⟩
  · have h0 : ts = [] := List.length_eq_zero_iff.1 h0
    refine (Try.strings_Join_none none 0 ⟨#[32]⟩ W).mono ?_
    rintro e w' ⟨rfl, hb⟩
    refine ⟨?_, hb ▸ Below.refl _ _⟩
    rw [h0]
    rfl
  · refine (Try.strings_Join g 0 cap ts ⟨#[32]⟩ W (fun j x hj => ?_) (Array.getElem?_eq_some_iff.1 hh).1 (by omega) hc1 ?_).mono ?_
    · rw [Nat.zero_add, cell_of_row W g j cur 9 (0, 0) hh, ← Array.getElem?_toList]
      have hx : (ts.map Value.string)[j]? = some (.string x) := by simp [hj]
      rw [← ht, List.getElem?_take] at hx
      split at hx
      · exact hx
      · cases hx
    · show (Lib.join (ts.map fun x : ByteArray => x.data.toList) [32]).length ≤ _
      omega
    · rintro e w' ⟨rfl, hb⟩
      exact ⟨rfl, hb⟩

theorem FS.there_length (S : FS) : S.there.length ≤ S.weight := by
  have := actsOn_length S.L0 S.A
  unfold FS.weight FS.there
  omega
theorem good_join {S : FS} (hg : S.good) : (Lib.join ((textsOf S.there).map fun x : ByteArray => x.data.toList) [32]).length ≤ 65 * (textsOf S.there).length := by
  rw [texts_data]
  have := join_length (S.there.map (·.1)) (fun x hx => by obtain ⟨p, hp, rfl⟩ := List.mem_map.1 hx; exact hg.there.short p hp)
  rw [List.length_map] at this
  rw [textsOf_length]
  exact this
end Go.Proofs.Ytfjgefnklelnnaa

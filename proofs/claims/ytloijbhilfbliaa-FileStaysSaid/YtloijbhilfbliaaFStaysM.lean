/-
  FileStays: plain mathematics.
-/
import Derived.Test.YtloijbhilfbliaaFMate
namespace Go.Proofs.Ytloijbhilfbliaa

/-- What was read at each time. -/
def timesT (D : List UInt8) (A : List Do) : List ByteArray := (List.range (A.length + 1)).map fun k => strO (reads D (A.take k))
theorem timesT_length (D : List UInt8) (A : List Do) : (timesT D A).length = A.length + 1 := by simp [timesT]
theorem timesT_nil (D : List UInt8) : timesT D [] = [strO D] := rfl
theorem timesT_snoc (D : List UInt8) (A : List Do) (a : Do) : timesT D (A ++ [a]) = timesT D A ++ [strO (reads D (A ++ [a]))] := by
  unfold timesT
  rw [List.length_append, List.length_singleton, List.range_succ, List.map_append, List.map_singleton]
  congr 1
  · refine List.map_congr_left fun k hk => ?_
    rw [List.take_append_of_le_length (by have := List.mem_range.1 hk; omega)]
  · rw [List.take_of_length_le (by simp)]
theorem timesT_at (D : List UInt8) (A : List Do) (k : Nat) (hk : k ≤ A.length) : (timesT D A).getD k ⟨#[]⟩ = strO (reads D (A.take k)) := by
  have : k < A.length + 1 := by omega
  simp [timesT, List.getD, this]

/-- There is no cut among them. -/
def AllApp (A : List Do) : Prop := ∀ a ∈ A, ∃ b, a = Do.app b
theorem allApp_reads {A : List Do} (h : AllApp A) : ∀ D, D <+: reads D A := by
  induction A with
  | nil => exact fun D => List.prefix_refl _
  | cons a A ih =>
    intro D
    obtain ⟨b, rfl⟩ := h a (by simp)
    rw [reads_cons]
    exact (List.prefix_append D b).trans (ih (fun a ha => h a (by simp [ha])) _)
theorem AllApp.appT {A : List Do} (h : AllApp A) (b : List UInt8) : AllApp (appT A b) := by
  unfold Proofs.Ytloijbhilfbliaa.appT
  split
  · exact h
  · intro a ha
    rcases List.mem_append.1 ha with ha | ha
    · exact h a ha
    · exact ⟨b, by simpa using ha⟩

/-- What stays is a beginning of what is read, and has what is durable, where there is no cut. -/
theorem stays_pre {D : List UInt8} {A : List Do} (h : AllApp A) (d q : Int) : stays D A d q <+: reads D A ∧ D <+: stays D A d q := by
  rw [stays_eq]
  unfold doneT nextT
  generalize upTo d A.length = n
  have ht : AllApp (A.take n) := fun a ha => h a (List.mem_of_mem_take ha)
  have hd : AllApp (A.drop n) := fun a ha => h a (List.mem_of_mem_drop ha)
  refine ⟨?_, (allApp_reads ht D).trans (List.prefix_append _ _)⟩
  conv => rhs; rw [← List.take_append_drop n A, reads_append]
  cases hr : A.drop n with
  | nil => simp [reads_nil]
  | cons a r =>
    rw [hr] at hd
    obtain ⟨b, rfl⟩ := hd a (by simp)
    simp only [List.head?_cons, reads_cons]
    have h2 : AllApp r := fun a ha => hd a (by simp [ha])
    refine List.IsPrefix.trans ?_ (allApp_reads h2 _)
    exact (List.prefix_append_right_inj _).2 (List.take_prefix _ _)

theorem stays_all {D : List UInt8} {A : List Do} (d q : Int) (h : (A.length : Int) ≤ d) : stays D A d q = reads D A := by
  rw [stays_eq]
  have hu : upTo d A.length = A.length := by unfold upTo; omega
  unfold doneT nextT
  rw [hu]
  simp
theorem stays_end {D : List UInt8} {A : List Do} (d q : Int) (h : upTo d A.length = A.length) : stays D A d q = reads D A := by
  rw [stays_eq]
  unfold doneT nextT
  rw [h]
  simp
theorem stays_none (D : List UInt8) (d q : Int) : stays D [] d q = D := by
  rw [stays_eq]; simp [doneT, nextT, reads_nil]

/-- The next act, in both its kinds. -/
theorem stays_app {D : List UInt8} {A : List Do} {d q : Int} {n : Nat} {b : List UInt8} (hn : upTo d A.length = n) (hlt : n < A.length) (ha : A[n] = .app b) :
    stays D A d q = reads D (A.take n) ++ b.take (upTo q b.length) ∧ reads D (A.take (n + 1)) = reads D (A.take n) ++ b := by
  rw [stays_eq]
  unfold doneT nextT
  rw [hn, List.drop_eq_getElem_cons hlt, ha, List.take_succ_eq_append_getElem hlt, reads_snoc, ha]
  exact ⟨rfl, rfl⟩
theorem stays_cut {D : List UInt8} {A : List Do} {d q : Int} {n m : Nat} (hn : upTo d A.length = n) (hlt : n < A.length) (ha : A[n] = .cut m) :
    stays D A d q = reads D (A.take n) ∧ reads D (A.take (n + 1)) = (reads D (A.take n)).take m := by
  rw [stays_eq]
  unfold doneT nextT
  rw [hn, List.drop_eq_getElem_cons hlt, ha, List.take_succ_eq_append_getElem hlt, reads_snoc, ha]
  exact ⟨by simp, rfl⟩
end Go.Proofs.Ytloijbhilfbliaa

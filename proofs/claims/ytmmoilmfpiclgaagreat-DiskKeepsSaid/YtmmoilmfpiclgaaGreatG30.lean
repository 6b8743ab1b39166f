/-
  Methods, told of a flock of disks; the texts that are appended.
-/
import Derived.Test.YtmmoilmfpiclgaaGreatG28
import Derived.Test.YtmmoilmfpiclgaaGreatG29
namespace Go.Proofs.YtmmoilmfpiclgaaGreat
open Go.RowKit Go.Shelf
open Fld (FS Names FAct actsOn foundN foundB findT withT withoutT GoodN Rising mayB nam nameMax FolderS FolderIn ARow textsOf)

theorem FlockV.went {w0 W W' : World} {n : Nat} {L : List (Nat × DS)} {vs : List DV} (h : FlockV w0 W n L vs) (i : Nat) (hi : i < L.length) (hi' : i < vs.length) (hn : n ≤ i) {S' : DS} (hw : WentK W L[i].1 vs[i] S' W') : Flock w0 W' n (L.set i (L[i].1, S')) := by
  obtain ⟨h1, h2, h3, h4⟩ := h
  obtain ⟨v', d1, t1⟩ := hw
  have old : ∀ j (hj : j < vs.length) g, All vs[j].M g ∨ All vs[j].I g → g < W.heap.size := fun j hj g hg => (h2 j (by omega) hj).1.blocks g hg
  refine ⟨vs.set i v', by simp [h1], fun j hj hj' => ?_, fun a b ha hb hab hna g h5 h6 => ?_, h4.trans (t1.kept.to h4.size fun g hg => (h2 i hi hi').2 g (.inl hg))⟩
  · simp only [List.length_set] at hj hj'
    by_cases e : i = j
    · subst e
      simp only [List.getElem_set_self]
      refine ⟨d1, fun g hg => ?_⟩
      rcases hg with hg | hg
      · rcases t1.m g hg with k | k
        · exact (h2 i hi hi').2 g (.inl k)
        · exact Nat.le_trans h4.size k
      · rcases t1.i g hg with k | k
        · exact (h2 i hi hi').2 g (.inr k)
        · exact Nat.le_trans h4.size k
    · simp only [List.getElem_set_ne e]
      refine ⟨(h2 j hj hj').1.same (fun g hg => t1.kept.block g (old j hj' g hg) fun hm => h3 i j hi' hj' e hn g hm hg) t1.kept.size, (h2 j hj hj').2⟩
  · simp only [List.length_set] at ha hb
    by_cases ea : i = a <;> by_cases eb : i = b
    · omega
    · subst ea
      simp only [List.getElem_set_self] at h5
      simp only [List.getElem_set_ne eb] at h6
      rcases t1.m g h5 with k | k
      · exact h3 i b hi' hb hab hna g k h6
      · have := old b hb g h6; omega
    · subst eb
      simp only [List.getElem_set_ne ea] at h5
      simp only [List.getElem_set_self] at h6
      have h7 := old a ha g (.inl h5)
      rcases h6 with h6 | h6
      · rcases t1.m g h6 with k | k
        · exact h3 a i ha hi' hab hna g h5 (.inl k)
        · omega
      · rcases t1.i g h6 with k | k
        · exact h3 a i ha hi' hab hna g h5 (.inr k)
        · omega
    · simp only [List.getElem_set_ne ea] at h5
      simp only [List.getElem_set_ne eb] at h6
      exact h3 a b ha hb hab hna g h5 h6

theorem Flock.call {w0 W : World} {n : Nat} {L : List (Nat × DS)} (h : Flock w0 W n L) (i : Nat) (hi : i < L.length) (hn : n ≤ i) {f : FuncId} {args : Array Value} {r : Value} {S' : DS} (hc : ∀ v, DiskP W L[i].1 L[i].2 v → Calls Tryz.prog f args W fun e w' => e = .returned r ∧ WentK W L[i].1 v S' w') :
    Calls Tryz.prog f args W fun e w' => e = .returned r ∧ Flock w0 w' n (L.set i (L[i].1, S')) := by
  obtain ⟨vs, hv⟩ := h
  have hi' : i < vs.length := by have := hv.len; omega
  exact (hc _ (hv.disk i hi hi').1).mono fun e w' ⟨he, hw⟩ => ⟨he, hv.went i hi hi' hn hw⟩
theorem Flock.read {w0 W : World} {n : Nat} {L : List (Nat × DS)} (h : Flock w0 W n L) (i : Nat) (hi : i < L.length) {f : FuncId} {args : Array Value} {R : Ending → World → Prop} (hc : ∀ v, DiskP W L[i].1 L[i].2 v → Calls Tryz.prog f args W R) : Calls Tryz.prog f args W R := by
  obtain ⟨v, hv⟩ := h.out i hi
  exact hc v hv

/-- Not too great. -/
def DS.Fit (S : DS) : Prop := S.Light 900 90000 ∧ S.room ≤ 10000
theorem DS.Fit.used {S : DS} (h : S.Fit) : S.used ≤ 100000000000000 := Nat.le_trans h.1.used (by decide)
theorem DS.Fit.weight {S : DS} (h : S.Fit) : S.fold.weight ≤ 80000 := Nat.le_trans h.1.fold (by decide)
theorem DS.Fit.steps {S : DS} (h : S.Fit) : S.steps ≤ 90000 := Nat.le_trans h.1.steps (by decide)
theorem DS.Fit.n {S : DS} (h : S.Fit) : S.fold.n ≤ 100000 := Nat.le_trans (Nat.le_add_left _ _) (Nat.le_trans h.1.fold (by decide))

section
variable {w0 W : World} {n : Nat} {L : List (Nat × DS)} (h : Flock w0 W n L) (i : Nat) (hi : i < L.length) (hn : n ≤ i) (hf : L[i].2.Fit)
include h hn hf
theorem flock_create (s : ByteArray) (hs : s.size ≤ nameMax) : Calls Tryz.prog 12 #[.pointer (some ⟨L[i].1, 0, none⟩), .string s] W fun e w' => e = .returned (.int .i64 (((L[i].2.create s).2 : Nat) : Int)) ∧ Flock w0 w' n (L.set i (L[i].1, (L[i].2.create s).1)) :=
  h.call i hi hn fun _v hv => create_any hv s hs hf.weight hf.used hf.steps
theorem flock_remove (s : ByteArray) (hs : s.size ≤ nameMax) : Calls Tryz.prog 27 #[.pointer (some ⟨L[i].1, 0, none⟩), .string s] W fun e w' => e = .returned (.int .i64 (((L[i].2.remove s).2 : Nat) : Int)) ∧ Flock w0 w' n (L.set i (L[i].1, (L[i].2.remove s).1)) :=
  h.call i hi hn fun _v hv => remove_any hv s hs hf.weight hf.used hf.steps
theorem flock_rename (a b : ByteArray) (ha : a.size ≤ nameMax) (hb : b.size ≤ nameMax) : Calls Tryz.prog 26 #[.pointer (some ⟨L[i].1, 0, none⟩), .string a, .string b] W fun e w' => e = .returned (.int .i64 (((L[i].2.rename a b).2 : Nat) : Int)) ∧ Flock w0 w' n (L.set i (L[i].1, (L[i].2.rename a b).1)) :=
  h.call i hi hn fun _v hv => rename_any hv a b ha hb hf.weight hf.used hf.steps
theorem flock_syncDir : Calls Tryz.prog 24 #[.pointer (some ⟨L[i].1, 0, none⟩)] W fun e w' => e = .returned (.int .i64 (((L[i].2.syncDir).2 : Nat) : Int)) ∧ Flock w0 w' n (L.set i (L[i].1, (L[i].2.syncDir).1)) :=
  h.call i hi hn fun _v hv => syncDir_any hv hf.weight hf.steps
theorem flock_sync (s : ByteArray) (hs : s.size ≤ nameMax) : Calls Tryz.prog 22 #[.pointer (some ⟨L[i].1, 0, none⟩), .string s] W fun e w' => e = .returned (.int .i64 (((L[i].2.sync s).2 : Nat) : Int)) ∧ Flock w0 w' n (L.set i (L[i].1, (L[i].2.sync s).1)) :=
  h.call i hi hn fun v hv => disk_sync hv s hs hf.weight hf.used hf.steps (Nat.le_trans (hf.1.heft _) (by decide))
theorem flock_truncate (s : ByteArray) (hs : s.size ≤ nameMax) (k : Int) (h1 : -9223372036854775808 ≤ k) (h2 : k ≤ 9223372036854775807) : Calls Tryz.prog 20 #[.pointer (some ⟨L[i].1, 0, none⟩), .string s, .int .i64 k] W fun e w' => e = .returned (.int .i64 (((L[i].2.truncate s k).2 : Nat) : Int)) ∧ Flock w0 w' n (L.set i (L[i].1, (L[i].2.truncate s k).1)) :=
  h.call i hi hn fun v hv => disk_truncate hv s hs hf.weight hf.used hf.steps (Nat.le_trans (hf.1.heft _) (by decide)) (Nat.le_trans (hf.1.acts _) (by decide)) h1 h2
omit hf in
theorem flock_arm (k : Int) (hk : k ≤ 1000000) : Calls Tryz.prog 31 #[.pointer (some ⟨L[i].1, 0, none⟩), .int .i64 k] W fun e w' => e = .returned (.tuple #[]) ∧ Flock w0 w' n (L.set i (L[i].1, L[i].2.arm k)) :=
  h.call i hi hn fun _v hv => disk_arm hv hk
theorem flock_append (s x : ByteArray) {lv : Value} (hs : s.size ≤ nameMax) (hlv : ∃ ad n c, lv = .slice ad n c) (hx : x.size ≤ 1000000000000000)
    (qj : ∀ W', (∀ (b : Nat) (cs : Array Value) (T : TypeId), W.heap[b]? = some (.cells cs T (0, 0)) → T ≠ 77 → W'.heap[b]? = some (.cells cs T (0, 0))) → Calls Tryz.prog 52 #[lv, .string ⟨#[]⟩] W' fun e w' => e = .returned (.string x) ∧ Below W'.heap.size W' w') :
    Calls Tryz.prog 13 #[.pointer (some ⟨L[i].1, 0, none⟩), .string s, lv] W fun e w' => e = .returned (.int .i64 (((L[i].2.append s x.data.toList).2 : Nat) : Int)) ∧ Flock w0 w' n (L.set i (L[i].1, (L[i].2.append s x.data.toList).1)) :=
  h.call i hi hn fun v hv => disk_append hv s hs hf.weight hf.used hf.steps (by
    have h1 := hf.1.heft (foundN L[i].2.fold.there s.data.toList)
    have h2 := hf.2
    omega) (Nat.le_trans (hf.1.acts _) (by decide)) hlv hx qj
end

/-- One text, in a row of its own. -/
theorem join_one {W : World} {b : Nat} {x : ByteArray} (hx : x.size ≤ 140737488355328) (hb : W.heap[b]? = some (.cells #[.string x] 9 (0, 0))) :
    Calls Tryz.prog 52 #[.slice (some ⟨b, 0, none⟩) 1 1, .string ⟨#[]⟩] W fun e w' => e = .returned (.string x) ∧ Below W.heap.size W w' := by
  have hj : Lib.join ([x].map (·.data.toList)) (⟨#[]⟩ : ByteArray).data.toList = x.data.toList := by simp [Lib.join]
  have q := Tryz.strings_Join b 0 1 [x] ⟨#[]⟩ W (fun j y hj => by
    have : j = 0 := by
      cases j with
      | zero => rfl
      | succ j => simp at hj
    subst this
    simp at hj
    subst hj
    rw [cell_of_row W b _ _ _ _ hb]
    rfl) (Array.getElem?_eq_some_iff.1 hb).1 (by simp) (Nat.le_refl _) (by rw [hj]; simpa using hx)
  rw [hj] at q
  exact q
end Go.Proofs.YtmmoilmfpiclgaaGreat

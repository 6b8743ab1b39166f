/-
  Methods, told of a flock of disks; the texts that are appended. The document's disk in memory. The document's disk: a name's file. The document's disk: what is done to a name's file. The document's disk: one more file.
-/
import Derived.Test.YtmmoilmfpiclgaaGreatT30
import Derived.Test.YtmmoilmfpiclgaaGreatT31
import Derived.Test.YtmmoilmfpiclgaaGreatT24
import Derived.Test.YtmmoilmfpiclgaaGreatT23
set_option linter.unusedVariables false
set_option linter.unusedSimpArgs false
namespace Go.Proofs.YtmmoilmfpiclgaaGreat
open Go.RowKit Go.Shelf
open Fld (FS Names FAct actsOn foundN foundB findT withT withoutT GoodN Rising mayB nam nameMax FolderS FolderIn ARow textsOf)

theorem FlockV.went {w0 W W' : World} {n : Nat} {L : List (Nat × DS)} {vs : List DV} (h : FlockV w0 W n L vs) (i : Nat) (hi : i < L.length) (hi' : i < vs.length) (hn : n ≤ i) {S' : DS} (hw : WentK W L[i].1 vs[i] S' W') : Flock w0 W' n (L.set i (L[i].1, S')) := by
  obtain ⟨h1, h2, h3, h4⟩ := h
  obtain ⟨v', d1, t1⟩ := hw
  have old : ∀ j (hj : j < vs.length) g, All vs[j].M g ∨ All vs[j].I g → g < W.heap.size := fun j hj g hg => (h2 j (by omega) hj).1.blocks g hg
  refine ⟨vs.set i v', by simp [h1], fun j hj hj' => ?_, fun a b ha hb hab hna g h5 h6 => ?_, h4.trans (t1.kept.to h4.size fun g hg => (h2 i hi hi').2 g (.inl hg))⟩
  · simp only [List.length_set] at hj hj'
    by_cases e : i = j
    · subst e
      simp only [List.getElem_set_self]
      refine ⟨d1, fun g hg => ?_⟩
      rcases hg with hg | hg
      · rcases t1.m g hg with k | k
        · exact (h2 i hi hi').2 g (.inl k)
        · exact Nat.le_trans h4.size k
      · rcases t1.i g hg with k | k
        · exact (h2 i hi hi').2 g (.inr k)
        · exact Nat.le_trans h4.size k
    · simp only [List.getElem_set_ne e]
      refine ⟨(h2 j hj hj').1.same (fun g hg => t1.kept.block g (old j hj' g hg) fun hm => h3 i j hi' hj' e hn g hm hg) t1.kept.size, (h2 j hj hj').2⟩
  · simp only [List.length_set] at ha hb
    by_cases ea : i = a <;> by_cases eb : i = b
    · omega
    · subst ea
      simp only [List.getElem_set_self] at h5
      simp only [List.getElem_set_ne eb] at h6
      rcases t1.m g h5 with k | k
      · exact h3 i b hi' hb hab hna g k h6
      · have := old b hb g h6; omega
    · subst eb
      simp only [List.getElem_set_ne ea] at h5
      simp only [List.getElem_set_self] at h6
      have h7 := old a ha g (.inl h5)
      rcases h6 with h6 | h6
      · rcases t1.m g h6 with k | k
        · exact h3 a i ha hi' hab hna g h5 (.inl k)
        · omega
      · rcases t1.i g h6 with k | k
        · exact h3 a i ha hi' hab hna g h5 (.inr k)
        · omega
    · simp only [List.getElem_set_ne ea] at h5
      simp only [List.getElem_set_ne eb] at h6
      exact h3 a b ha hb hab hna g h5 h6

theorem Flock.call {w0 W : World} {n : Nat} {L : List (Nat × DS)} (h : Flock w0 W n L) (i : Nat) (hi : i < L.length) (hn : n ≤ i) {f : FuncId} {args : Array Value} {r : Value} {S' : DS} (hc : ∀ v, DiskP W L[i].1 L[i].2 v → Calls Tryz.prog f args W fun e w' => e = .returned r ∧ WentK W L[i].1 v S' w') :
    Calls Tryz.prog f args W fun e w' => e = .returned r ∧ Flock w0 w' n (L.set i (L[i].1, S')) := by
  obtain ⟨vs, hv⟩ := h
  have hi' : i < vs.length := by have := hv.len; omega
  exact (hc _ (hv.disk i hi hi').1).mono fun e w' ⟨he, hw⟩ => ⟨he, hv.went i hi hi' hn hw⟩
theorem Flock.read {w0 W : World} {n : Nat} {L : List (Nat × DS)} (h : Flock w0 W n L) (i : Nat) (hi : i < L.length) {f : FuncId} {args : Array Value} {R : Ending → World → Prop} (hc : ∀ v, DiskP W L[i].1 L[i].2 v → Calls Tryz.prog f args W R) : Calls Tryz.prog f args W R := by
  obtain ⟨v, hv⟩ := h.out i hi
  exact hc v hv

/-- Not too great. -/
def DS.Fit (S : DS) : Prop := S.Light 900 90000 ∧ S.room ≤ 10000
theorem DS.Fit.used {S : DS} (h : S.Fit) : S.used ≤ 100000000000000 := Nat.le_trans h.1.used (by decide)
theorem DS.Fit.weight {S : DS} (h : S.Fit) : S.fold.weight ≤ 80000 := Nat.le_trans h.1.fold (by decide)
theorem DS.Fit.steps {S : DS} (h : S.Fit) : S.steps ≤ 90000 := Nat.le_trans h.1.steps (by decide)
theorem DS.Fit.n {S : DS} (h : S.Fit) : S.fold.n ≤ 100000 := Nat.le_trans (Nat.le_add_left _ _) (Nat.le_trans h.1.fold (by decide))

section
variable {w0 W : World} {n : Nat} {L : List (Nat × DS)} (h : Flock w0 W n L) (i : Nat) (hi : i < L.length) (hn : n ≤ i) (hf : L[i].2.Fit)
include h hn hf
theorem flock_create (s : ByteArray) (hs : s.size ≤ nameMax) : Calls Tryz.prog 12 #[.pointer (some ⟨L[i].1, 0, none⟩), .string s] W fun e w' => e = .returned (.int .i64 (((L[i].2.create s).2 : Nat) : Int)) ∧ Flock w0 w' n (L.set i (L[i].1, (L[i].2.create s).1)) :=
  h.call i hi hn fun _v hv => create_any hv s hs hf.weight hf.used hf.steps
theorem flock_remove (s : ByteArray) (hs : s.size ≤ nameMax) : Calls Tryz.prog 27 #[.pointer (some ⟨L[i].1, 0, none⟩), .string s] W fun e w' => e = .returned (.int .i64 (((L[i].2.remove s).2 : Nat) : Int)) ∧ Flock w0 w' n (L.set i (L[i].1, (L[i].2.remove s).1)) :=
  h.call i hi hn fun _v hv => remove_any hv s hs hf.weight hf.used hf.steps
theorem flock_rename (a b : ByteArray) (ha : a.size ≤ nameMax) (hb : b.size ≤ nameMax) : Calls Tryz.prog 26 #[.pointer (some ⟨L[i].1, 0, none⟩), .string a, .string b] W fun e w' => e = .returned (.int .i64 (((L[i].2.rename a b).2 : Nat) : Int)) ∧ Flock w0 w' n (L.set i (L[i].1, (L[i].2.rename a b).1)) :=
  h.call i hi hn fun _v hv => rename_any hv a b ha hb hf.weight hf.used hf.steps
theorem flock_syncDir : Calls Tryz.prog 24 #[.pointer (some ⟨L[i].1, 0, none⟩)] W fun e w' => e = .returned (.int .i64 (((L[i].2.syncDir).2 : Nat) : Int)) ∧ Flock w0 w' n (L.set i (L[i].1, (L[i].2.syncDir).1)) :=
  h.call i hi hn fun _v hv => syncDir_any hv hf.weight hf.steps
theorem flock_sync (s : ByteArray) (hs : s.size ≤ nameMax) : Calls Tryz.prog 22 #[.pointer (some ⟨L[i].1, 0, none⟩), .string s] W fun e w' => e = .returned (.int .i64 (((L[i].2.sync s).2 : Nat) : Int)) ∧ Flock w0 w' n (L.set i (L[i].1, (L[i].2.sync s).1)) :=
  h.call i hi hn fun v hv => disk_sync hv s hs hf.weight hf.used hf.steps (Nat.le_trans (hf.1.heft _) (by decide))
theorem flock_truncate (s : ByteArray) (hs : s.size ≤ nameMax) (k : Int) (h1 : -9223372036854775808 ≤ k) (h2 : k ≤ 9223372036854775807) : Calls Tryz.prog 20 #[.pointer (some ⟨L[i].1, 0, none⟩), .string s, .int .i64 k] W fun e w' => e = .returned (.int .i64 (((L[i].2.truncate s k).2 : Nat) : Int)) ∧ Flock w0 w' n (L.set i (L[i].1, (L[i].2.truncate s k).1)) :=
  h.call i hi hn fun v hv => disk_truncate hv s hs hf.weight hf.used hf.steps (Nat.le_trans (hf.1.heft _) (by decide)) (Nat.le_trans (hf.1.acts _) (by decide)) h1 h2
omit hf in
theorem flock_arm (k : Int) (hk : k ≤ 1000000) : Calls Tryz.prog 31 #[.pointer (some ⟨L[i].1, 0, none⟩), .int .i64 k] W fun e w' => e = .returned (.tuple #[]) ∧ Flock w0 w' n (L.set i (L[i].1, L[i].2.arm k)) :=
  h.call i hi hn fun _v hv => disk_arm hv hk
theorem flock_append (s x : ByteArray) {lv : Value} (hs : s.size ≤ nameMax) (hlv : ∃ ad n c, lv = .slice ad n c) (hx : x.size ≤ 1000000000000000)
    (qj : ∀ W', (∀ (b : Nat) (cs : Array Value) (T : TypeId), W.heap[b]? = some (.cells cs T (0, 0)) → T ≠ 77 → W'.heap[b]? = some (.cells cs T (0, 0))) → Calls Tryz.prog 52 #[lv, .string ⟨#[]⟩] W' fun e w' => e = .returned (.string x) ∧ Below W'.heap.size W' w') :
    Calls Tryz.prog 13 #[.pointer (some ⟨L[i].1, 0, none⟩), .string s, lv] W fun e w' => e = .returned (.int .i64 (((L[i].2.append s x.data.toList).2 : Nat) : Int)) ∧ Flock w0 w' n (L.set i (L[i].1, (L[i].2.append s x.data.toList).1)) :=
  h.call i hi hn fun v hv => disk_append hv s hs hf.weight hf.used hf.steps (by
    have h1 := hf.1.heft (foundN L[i].2.fold.there s.data.toList)
    have h2 := hf.2
    omega) (Nat.le_trans (hf.1.acts _) (by decide)) hlv hx qj
end

/-- One text, in a row of its own. -/
theorem join_one {W : World} {b : Nat} {x : ByteArray} (hx : x.size ≤ 140737488355328) (hb : W.heap[b]? = some (.cells #[.string x] 9 (0, 0))) :
    Calls Tryz.prog 52 #[.slice (some ⟨b, 0, none⟩) 1 1, .string ⟨#[]⟩] W fun e w' => e = .returned (.string x) ∧ Below W.heap.size W w' := by
  have hj : Lib.join ([x].map (·.data.toList)) (⟨#[]⟩ : ByteArray).data.toList = x.data.toList := by simp [Lib.join]
  have q := Tryz.strings_Join b 0 1 [x] ⟨#[]⟩ W (fun j y hj => by
    have : j = 0 := by
      cases j with
      | zero => rfl
      | succ j => simp at hj
    subst this
    simp at hj
    subst hj
    rw [cell_of_row W b _ _ _ _ hb]
    rfl) (Array.getElem?_eq_some_iff.1 hb).1 (by simp) (Nat.le_refl _) (by rw [hj]; simpa using hx)
  rw [hj] at q
  exact q
end Go.Proofs.YtmmoilmfpiclgaaGreat
namespace Go.Proofs.YtmmoilmfpiclgaaGreat
open Go.RowKit Go.Shelf
open Fld (FS Names FAct actsOn foundN foundB findT withT withoutT GoodN Rising mayB nam nameMax RefS)

/-- How great it may be, whatever its room is. -/
def DS.Fit2 (S : DS) : Prop := S.Light 900 90000
theorem DS.Fit2.used {S : DS} (h : S.Fit2) : S.used ≤ 100000000000000 := Nat.le_trans (DS.Light.used h) (by decide)
theorem DS.Fit2.weight {S : DS} (h : S.Fit2) : S.fold.weight ≤ 80000 := Nat.le_trans h.fold (by decide)
theorem DS.Fit2.steps {S : DS} (h : S.Fit2) : S.steps ≤ 90000 := Nat.le_trans (DS.Light.steps h) (by decide)
theorem DS.Fit2.n {S : DS} (h : S.Fit2) : S.fold.n ≤ 100000 := Nat.le_trans (Nat.le_add_left _ _) (Nat.le_trans h.fold (by decide))
def fptr (b : Nat) : Value := .pointer (some ⟨b, 0, none⟩)
/-- The cells of its block. -/
def refC (q : Nat) (fv : Value) (S : DS) : Array Value := #[.pointer (some ⟨q, 0, none⟩), fv, .int .i64 (S.room : Int), .int .i64 (S.steps : Int), .int .i64 (S.armed : Int), .bool S.down]
/-- The document's disk at block r; P n: file n's block. M 0: the folder's blocks, M 1: its own one, M 2: its row's, M (n + 3): those of file n. -/
structure RefDI (w : World) (r : Nat) (S : DS) (M : Nat → Nat → Prop) (q : Nat) (fv : Value) (P : Nat → Nat) : Prop where
  blk : w.heap[r]? = some (.cells (refC q fv S) 84 (0, 0))
  dir : RefS w q S.fold (M 0)
  own : M 1 r
  row : w.ownsRow 0 85 1 fv S.fold.n ((List.range S.fold.n).map fun i => fptr (P (i + 1)))
  rowM : ∀ g, fv.ownBlock = some g → M 2 g
  files : ∀ n, 1 ≤ n → n ≤ S.fold.n → RefAt w (P n) (S.file n).D (S.file n).A (M (n + 3))
  zero : S.fold.n = 0 → fv = .slice none 0 0
def noB : Nat → Nat → Prop := fun _ _ => False
structure RefD (w : World) (r : Nat) (S : DS) (M : Nat → Nat → Prop) : Prop where
  it : ∃ q fv P, RefDI w r S M q fv P
  good : S.fold.good
  parts : Parts w M noB
  room : S.room ≤ 1000000000000
  armed : S.armed ≤ 1000000
/-- What a method leaves. -/
def WentD (w : World) (r : Nat) (M : Nat → Nat → Prop) (S' : DS) (w' : World) : Prop := ∃ M', RefD w' r S' M' ∧ (∀ g, All M' g → All M g ∨ w.heap.size ≤ g) ∧ Kept (All M) w w'

theorem RefDI.lt {w : World} {r : Nat} {S : DS} {M : Nat → Nat → Prop} {q : Nat} {fv : Value} {P : Nat → Nat} (h : RefDI w r S M q fv P) : r < w.heap.size := (Array.getElem?_eq_some_iff.1 h.blk).1
/-- Its own block turns. -/
theorem RefD.turn {w w' : World} {r : Nat} {S S' : DS} {M : Nat → Nat → Prop} {q : Nat} {fv : Value} {P : Nat → Nat} (h : RefDI w r S M q fv P) (hd : RefD w r S M) (hg : w.grownBy w' (some r)) (hb : w'.heap[r]? = some (.cells (refC q fv S') 84 (0, 0)))
    (h1 : S'.fold = S.fold) (h2 : S'.file = S.file) (h3 : S'.room = S.room) (h4 : S'.armed ≤ 1000000) : WentD w r M S' w' := by
  have hk : Kept (M 1) w w' := Kept.grown hg fun g e => by cases e; exact h.own
  have hk0 : ∀ k, k ≠ 1 → ∀ g, M k g → w'.heap[g]? = w.heap[g]? := fun k hne g hm => hd.parts.kept hk hne g (.inl hm)
  refine ⟨M, ⟨⟨q, fv, P, hb, ?_, h.own, ?_, h.rowM, ?_, by rw [h1]; exact h.zero⟩, by rw [h1]; exact hd.good, hd.parts.grow hg.size, by rw [h3]; exact hd.room, h4⟩, fun g hg => .inl hg, hk.all⟩
  · rw [h1]; exact h.dir.same (hk0 0 (by decide)) hg.size
  · rw [h1]; exact owns_same h.row fun g hg' => hk0 2 (by decide) g (h.rowM g hg')
  · intro n hn hn'
    rw [h2]
    rw [h1] at hn'
    exact (h.files n hn hn').same (hk0 (n + 3) (by omega)) hg.size
theorem RefDI.below {w w' : World} {r : Nat} {S : DS} {M : Nat → Nat → Prop} {q : Nat} {fv : Value} {P : Nat → Nat} (hi : RefDI w r S M q fv P) (hp : Parts w M noB) (hb : Below w.heap.size w w') : RefDI w' r S M q fv P := by
  have hm : ∀ k g, M k g → w'.heap[g]? = w.heap[g]? := fun k g hg => hb.block g (hp.mem k g (.inl hg))
  exact ⟨(hm 1 r hi.own).trans hi.blk, hi.dir.same (hm 0) hb.size, hi.own, owns_same hi.row fun g hg => hm 2 g (hi.rowM g hg), hi.rowM, fun n hn hn' => (hi.files n hn hn').same (hm (n + 3)) hb.size, hi.zero⟩
theorem RefD.below {w w' : World} {r : Nat} {S : DS} {M : Nat → Nat → Prop} (h : RefD w r S M) (hb : Below w.heap.size w w') : RefD w' r S M := by
  obtain ⟨q, fv, P, hi⟩ := h.it
  have hm : ∀ k g, M k g → w'.heap[g]? = w.heap[g]? := fun k g hg => hb.block g (h.parts.mem k g (.inl hg))
  exact ⟨⟨q, fv, P, (hm 1 r hi.own).trans hi.blk, hi.dir.same (hm 0) hb.size, hi.own, owns_same hi.row fun g hg => hm 2 g (hi.rowM g hg), hi.rowM, fun n hn hn' => (hi.files n hn hn').same (hm (n + 3)) hb.size, hi.zero⟩, h.good, h.parts.grow hb.size, h.room, h.armed⟩
theorem RefD.kept {w w' : World} {r : Nat} {S : DS} {M : Nat → Nat → Prop} {N : Nat → Prop} (h : RefD w r S M) (hk : Kept N w w') (hn : ∀ g, All M g → ¬ N g) : RefD w' r S M := by
  obtain ⟨q, fv, P, hi⟩ := h.it
  have hm : ∀ k g, M k g → w'.heap[g]? = w.heap[g]? := fun k g hg => hk.block g (h.parts.mem k g (.inl hg)) (hn g ⟨k, hg⟩)
  exact ⟨⟨q, fv, P, (hm 1 r hi.own).trans hi.blk, hi.dir.same (hm 0) hk.size, hi.own, owns_same hi.row fun g hg => hm 2 g (hi.rowM g hg), hi.rowM, fun n hn hn' => (hi.files n hn hn').same (hm (n + 3)) hk.size, hi.zero⟩, h.good, h.parts.grow hk.size, h.room, h.armed⟩
theorem WentD.after {w w1 w2 : World} {r : Nat} {M M1 : Nat → Nat → Prop} {S' : DS} (hm : ∀ g, All M1 g → All M g ∨ w.heap.size ≤ g) (hk : Kept (All M) w w1) (h : WentD w1 r M1 S' w2) : WentD w r M S' w2 := by
  obtain ⟨M2, h1, h2, h3⟩ := h
  refine ⟨M2, h1, fun g hg => ?_, hk.trans h3 hm⟩
  rcases h2 g hg with h | h
  · exact hm g h
  · exact .inr (Nat.le_trans hk.size h)

section
variable {w : World} {r : Nat} {S : DS} {M : Nat → Nat → Prop} {q : Nat} {fv : Value} {P : Nat → Nat}
theorem RefDI.cell (h : RefDI w r S M q fv P) : w.cell? ⟨r, 0, none⟩ = some (.pointer (some ⟨q, 0, none⟩)) ∧ w.cell? ⟨r, 1, none⟩ = some fv ∧ w.cell? ⟨r, 2, none⟩ = some (.int .i64 (S.room : Int)) ∧ w.cell? ⟨r, 3, none⟩ = some (.int .i64 (S.steps : Int)) ∧ w.cell? ⟨r, 4, none⟩ = some (.int .i64 (S.armed : Int)) ∧ w.cell? ⟨r, 5, none⟩ = some (.bool S.down) ∧ ∀ o, w.frozen? ⟨r, o, none⟩ = false := by
  have hb := h.blk
  exact ⟨by rw [cell_of_row w r 0 _ _ _ hb]; rfl, by rw [cell_of_row w r 1 _ _ _ hb]; rfl, by rw [cell_of_row w r 2 _ _ _ hb]; rfl, by rw [cell_of_row w r 3 _ _ _ hb]; rfl, by rw [cell_of_row w r 4 _ _ _ hb]; rfl, by rw [cell_of_row w r 5 _ _ _ hb]; rfl, fun o => free_of hb o⟩
end

set_option maxHeartbeats 2000000 in
set_option maxRecDepth 100000 in
theorem refStep_any {w : World} {r : Nat} {S : DS} {M : Nat → Nat → Prop} (hd : RefD w r S M) (hst : S.steps ≤ 100000) :
    Calls Tryz.prog 120 #[.pointer (some ⟨r, 0, none⟩)] w fun e w' => e = .returned (.bool (!S.stepped.down)) ∧ WentD w r M S.stepped w' := by
  obtain ⟨q, fv, P, h⟩ := hd.it
  obtain ⟨c0, c1, c2, c3, c4, c5, hz⟩ := h.cell
  have z3 := hz 3
  have z4 := hz 4
  have z5 := hz 5
  have hdd := Lib.hid hd
  have hh := Lib.hid h
  have ha := hd.armed
  have hlt := h.lt
  obtain ⟨F, L, R, s, a, dn⟩ := S
  simp only at c2 c3 c4 c5 hst ha
  clear hd h hz c0 c1 c2
  unfold DS.stepped
  simp only
  cases dn with
  | true =>
    by_cases h0 : a = 0
    · subst h0
      go_enter Tryz.func120, Tryz.ntmps120
      go_wp2
      go_ret
      exact ⟨rfl, RefD.turn hh.out hdd.out (grown_setCell w r 3 _) (cells_setCell hh.out.blk 3 _) rfl rfl rfl ha⟩
    · have g1 : decide ((0 : Int) < (a : Int)) = true := decide_eq_true (by omega)
      have g1' : decide (0 < a) = true := decide_eq_true (by omega)
      go_enter Tryz.func120, Tryz.ntmps120
      go_wp2
      go_ret
      exact ⟨rfl, RefD.turn hh.out hdd.out (grown_setCell w r 3 _) (cells_setCell hh.out.blk 3 _) rfl rfl rfl ha⟩
  | false =>
    by_cases h0 : a = 0
    · subst h0
      go_enter Tryz.func120, Tryz.ntmps120
      go_wp2
      go_ret
      exact ⟨rfl, RefD.turn hh.out hdd.out (grown_setCell w r 3 _) (cells_setCell hh.out.blk 3 _) rfl rfl rfl ha⟩
    · have g1 : decide ((0 : Int) < (a : Int)) = true := decide_eq_true (by omega)
      by_cases h1 : a = 1
      · subst h1
        go_enter Tryz.func120, Tryz.ntmps120
        go_wp2
        go_ret
        exact ⟨rfl, RefD.turn hh.out hdd.out (grownBy_trans (grownBy_trans (grown_setCell w r 3 _) (grown_setCell _ r 4 _)) (grown_setCell _ r 5 _)) (cells_setCell (cells_setCell (cells_setCell hh.out.blk 3 _) 4 _) 5 _) rfl rfl rfl (Nat.zero_le _)⟩
      · have g2 : (((a : Int) - 1) == 0) = false := by simp; omega
        go_enter Tryz.func120, Tryz.ntmps120
        go_wp2
        go_ret
        have hn : ((a : Int) - 1) = ((a - 1 : Nat) : Int) := by omega
        have h1' : decide (a = 1) = false := decide_eq_false h1
        refine ⟨by simp [h1'], ?_⟩
        rw [hn]
        exact RefD.turn hh.out hdd.out (grownBy_trans (grown_setCell w r 3 _) (grown_setCell _ r 4 _)) (cells_setCell (cells_setCell hh.out.blk 3 _) 4 _) rfl rfl rfl (by show a - 1 ≤ _; omega)

set_option maxHeartbeats 2000000 in
set_option maxRecDepth 100000 in
theorem refArm_any {w : World} {r : Nat} {S : DS} {M : Nat → Nat → Prop} (hd : RefD w r S M) (n : Int) (hn : n ≤ 1000000) :
    Calls Tryz.prog 67 #[.pointer (some ⟨r, 0, none⟩), .int .i64 n] w fun e w' => e = .returned (.tuple #[]) ∧ WentD w r M (S.arm n) w' := by
  obtain ⟨q, fv, P, h⟩ := hd.it
  obtain ⟨c0, c1, c2, c3, c4, c5, hz⟩ := h.cell
  have z4 := hz 4
  have hdd := Lib.hid hd
  have hh := Lib.hid h
  have hlt := h.lt
  obtain ⟨F, L, R, s, a, dn⟩ := S
  have m1 : max 0 n = ((n.toNat : Nat) : Int) := by omega
  clear hd h hz c0 c1 c2 c3 c5
  unfold DS.arm
  simp only
  obtain ⟨m, hm⟩ : ∃ m, n.toNat = m := ⟨_, rfl⟩
  rw [hm] at m1 ⊢
  have hm2 : m ≤ 1000000 := by omega
  go_enter Tryz.func67, Tryz.ntmps67
  go_wp2
  exact bodyPost_end (v := .tuple #[]) (by simp [results, Tryz.results67, go_sem]) rfl ⟨rfl, RefD.turn hh.out hdd.out (grown_setCell w r 4 _) (cells_setCell hh.out.blk 4 _) rfl rfl rfl hm2⟩

/-- Its folder turns. -/
theorem RefD.folder {w w' : World} {r : Nat} {S : DS} {M : Nat → Nat → Prop} {q : Nat} {fv : Value} {P : Nat → Nat} (h : RefDI w r S M q fv P) (hd : RefD w r S M) {F : FS} (hw : Fld.WentR w q (M 0) F w') (hn : F.n = S.fold.n) (hg : F.good) : WentD w r M { S with fold := F } w' := by
  obtain ⟨J', k1, k2, k3⟩ := hw
  have hkq : Kept (M 0) w w' := (kept_in k3).mono fun g e => .inl (e ▸ h.dir.lt.2)
  have hs := hkq.size
  have hk0 : ∀ k, k ≠ 0 → ∀ g, M k g → w'.heap[g]? = w.heap[g]? := fun k hne g hm => hd.parts.kept hkq hne g (.inl hm)
  refine ⟨pput M 0 J', ⟨⟨q, fv, P, (hk0 1 (by decide) r h.own).trans h.blk, by rw [pput_same]; exact k1, by rw [pput_other _ _ (by decide)]; exact h.own, ?_, ?_, ?_, fun h0 => h.zero (hn.symm.trans h0)⟩, hg, ?_, hd.room, hd.armed⟩, ?_, hkq.all⟩
  · show w'.ownsRow 0 _ 1 fv F.n _
    rw [hn]
    exact owns_same h.row fun g hg' => hk0 2 (by decide) g (h.rowM g hg')
  · rw [pput_other _ _ (by decide)]; exact h.rowM
  · intro n h1 h2
    rw [pput_other _ _ (by omega)]
    rw [show ({ S with fold := F } : DS).fold.n = F.n from rfl, hn] at h2
    exact (h.files n h1 h2).same (hk0 (n + 3) (by omega)) hs
  · have := hd.parts.step 0 (M' := J') (I' := noB 0) hs k2 (fun g hf => hf.elim) (fun g hg' => hg'.elim (fun hg' => k1.mem g hg') fun hf => hf.elim) (fun g hf => hf.elim)
    rwa [show pput noB 0 (noB 0) = noB from by funext k; unfold pput; split <;> rfl] at this
  · exact all_pput k2

theorem remove_n (S : FS) (s : ByteArray) : (S.remove s).1.n = S.n := by
  unfold FS.remove
  split <;> rfl
theorem rename_n (S : FS) (a b : ByteArray) : (S.rename a b).1.n = S.n := by
  unfold FS.rename
  repeat (first | rfl | split)
theorem stepped_fold (S : DS) : S.stepped.fold = S.fold := rfl
set_option maxHeartbeats 2000000 in
set_option maxRecDepth 100000 in
theorem refRemove_any {w : World} {r : Nat} {S : DS} {M : Nat → Nat → Prop} (hd : RefD w r S M) (s : ByteArray) (hf : S.Fit2) :
    Calls Tryz.prog 64 #[.pointer (some ⟨r, 0, none⟩), .string s] w fun e w' => e = .returned (.int .i64 (((S.remove s).2 : Nat) : Int)) ∧ WentD w r M (S.remove s).1 w' := by
  have QS := Lib.hid (refStep_any hd (Nat.le_trans hf.steps (by decide)))
  have hwt : S.stepped.fold.weight ≤ 90000 := Nat.le_trans hf.weight (by decide)
  unfold DS.remove DS.doing DS.remove0
  obtain ⟨T, hT⟩ : ∃ T, S.stepped = T := ⟨_, rfl⟩
  rw [hT] at QS hwt ⊢
  have HWT := Lib.hid hwt
  clear hwt hT hf hd
  obtain ⟨dn, hdn⟩ : ∃ dn, T.down = dn := ⟨_, rfl⟩
  rw [hdn] at QS ⊢
  cases dn with
  | true =>
    rw [if_pos rfl]
    go_enter Tryz.func64, Tryz.ntmps64
    go_wp2_with (go_at_call 120; go_must (with_reducible refine QS.out.mono ?_); rintro e w1 ⟨rfl, hq⟩; have H1 := Lib.hid hq; clear hq)
    go_ret
    exact ⟨rfl, H1.out⟩
  | false =>
    rw [if_neg Bool.false_ne_true]
    go_enter Tryz.func64, Tryz.ntmps64
    go_wp2_with (first
      | (go_at_call 120; go_must (with_reducible refine QS.out.mono ?_); rintro e w1 ⟨rfl, M1, k1, k2, k3⟩; obtain ⟨q, fv, P, h1⟩ := k1.it; have c0 := h1.cell.1; have K1 := Lib.hid k1; have K2 := Lib.hid k2; have K3 := Lib.hid k3; have H1 := Lib.hid h1; clear k1 k2 k3 h1)
      | (go_at_call 125; go_must (with_reducible refine (Fld.refS_remove H1.out.dir s K1.out.good HWT.out).mono ?_); rintro e w2 ⟨rfl, hq⟩; have H2 := Lib.hid hq; clear hq))
    go_ret
    exact ⟨rfl, WentD.after K2.out K3.out (RefD.folder H1.out K1.out H2.out (remove_n T.fold s) (Fld.good_remove K1.out.good s))⟩

set_option maxHeartbeats 2000000 in
set_option maxRecDepth 100000 in
theorem refRename_any {w : World} {r : Nat} {S : DS} {M : Nat → Nat → Prop} (hd : RefD w r S M) (s t : ByteArray) (ht : t.size ≤ nameMax) (hf : S.Fit2) :
    Calls Tryz.prog 63 #[.pointer (some ⟨r, 0, none⟩), .string s, .string t] w fun e w' => e = .returned (.int .i64 (((S.rename s t).2 : Nat) : Int)) ∧ WentD w r M (S.rename s t).1 w' := by
  have QS := Lib.hid (refStep_any hd (Nat.le_trans hf.steps (by decide)))
  have hwt : S.stepped.fold.weight ≤ 90000 := Nat.le_trans hf.weight (by decide)
  unfold DS.rename DS.doing DS.rename0
  obtain ⟨T, hT⟩ : ∃ T, S.stepped = T := ⟨_, rfl⟩
  rw [hT] at QS hwt ⊢
  have HWT := Lib.hid hwt
  clear hwt hT hf hd
  obtain ⟨dn, hdn⟩ : ∃ dn, T.down = dn := ⟨_, rfl⟩
  rw [hdn] at QS ⊢
  cases dn with
  | true =>
    rw [if_pos rfl]
    go_enter Tryz.func63, Tryz.ntmps63
    go_wp2_with (go_at_call 120; go_must (with_reducible refine QS.out.mono ?_); rintro e w1 ⟨rfl, hq⟩; have H1 := Lib.hid hq; clear hq)
    go_ret
    exact ⟨rfl, H1.out⟩
  | false =>
    rw [if_neg Bool.false_ne_true]
    go_enter Tryz.func63, Tryz.ntmps63
    go_wp2_with (first
      | (go_at_call 120; go_must (with_reducible refine QS.out.mono ?_); rintro e w1 ⟨rfl, M1, k1, k2, k3⟩; obtain ⟨q, fv, P, h1⟩ := k1.it; have c0 := h1.cell.1; have K1 := Lib.hid k1; have K2 := Lib.hid k2; have K3 := Lib.hid k3; have H1 := Lib.hid h1; clear k1 k2 k3 h1)
      | (go_at_call 124; go_must (with_reducible refine (Fld.refS_rename H1.out.dir s t ht K1.out.good HWT.out).mono ?_); rintro e w2 ⟨rfl, hq⟩; have H2 := Lib.hid hq; clear hq))
    go_ret
    exact ⟨rfl, WentD.after K2.out K3.out (RefD.folder H1.out K1.out H2.out (rename_n T.fold s t) (Fld.good_rename K1.out.good s t))⟩

end Go.Proofs.YtmmoilmfpiclgaaGreat
namespace Go.Proofs.YtmmoilmfpiclgaaGreat
open Go.RowKit Go.Shelf
open Fld (FS Names FAct actsOn foundN foundB findT withT withoutT GoodN Rising mayB nam nameMax RefS)

/-- A row's cells. -/
theorem row_at {w : World} {base n : Nat} {e : TypeId} {v : Value} {xs : List Value} (h : w.ownsRow base e 1 v n xs) (hn : 1 ≤ n) : ∃ g c, v = .slice (some ⟨g, 0, none⟩) n c ∧ n ≤ c ∧ c ≤ 9223372036854775807 ∧ g < w.heap.size ∧ ∀ i (_hi : i < n) u, xs[i]? = some u → w.cell? ⟨g, i, none⟩ = some u := by
  rcases h.2 with ⟨_, h0⟩ | ⟨g, cap, cur, rfl, _, hg, h1, h2, _, ht⟩
  · omega
  · unfold maxLen at h2
    refine ⟨g, cap, rfl, h1, h2, (Array.getElem?_eq_some_iff.1 hg).1, fun i hi u hx => ?_⟩
    rw [cell_of_row w g i cur e (0, 0) hg, ← Array.getElem?_toList]
    rw [← ht, List.getElem?_take] at hx
    split at hx
    · exact hx
    · cases hx
theorem found_in {S : FS} (hg : S.good) {k : List UInt8} (h : foundB S.there k = true) : 1 ≤ foundN S.there k ∧ foundN S.there k ≤ S.n :=
  hg.there.range _ (Fld.foundB_true h hg.there.rising)

set_option maxHeartbeats 2000000 in
set_option maxRecDepth 100000 in
theorem refFile_any {w : World} {r : Nat} {S : DS} {M : Nat → Nat → Prop} {q : Nat} {fv : Value} {P : Nat → Nat} (h : RefDI w r S M q fv P) (hd : RefD w r S M) (s : ByteArray) (hn5 : S.fold.n ≤ 100000) :
    Calls Tryz.prog 121 #[.pointer (some ⟨r, 0, none⟩), .string s] w fun e w' => e = .returned (if foundB S.fold.there s.data.toList = true then fptr (P (foundN S.fold.there s.data.toList)) else .pointer none) ∧ Below w.heap.size w w' := by
  have QF := Lib.hid (Fld.refS_find h.dir s)
  have hfi := fun x => found_in hd.good (k := s.data.toList) x
  obtain ⟨c0, c1, -, -, -, -, -⟩ := h.cell
  obtain ⟨fb, hfb⟩ : ∃ fb, foundB S.fold.there s.data.toList = fb := ⟨_, rfl⟩
  obtain ⟨fn, hfn⟩ : ∃ fn, foundN S.fold.there s.data.toList = fn := ⟨_, rfl⟩
  rw [hfb, hfn] at QF
  rw [hfb, hfn] at hfi ⊢
  have hrow := h.row
  obtain ⟨n, hnn⟩ : ∃ n, S.fold.n = n := ⟨_, rfl⟩
  rw [hnn] at hrow hfi hn5
  have hlt := h.lt
  have HC := Lib.hid (fun W (hW : Below w.heap.size w W) => And.intro ((hW.cell (p := ⟨r, 0, none⟩) hlt).trans c0) ((hW.cell (p := ⟨r, 1, none⟩) hlt).trans c1))
  have HROW := Lib.hid (fun (W : World) (hW : Below w.heap.size w W) => (owns_same hrow fun g hg => hW.block g (hrow.lt g hg).2 : W.ownsRow 0 85 1 fv n _))
  clear h hd hfb hfn hrow hnn c1
  cases fb with
  | false =>
    rw [if_neg Bool.false_ne_true]
    go_enter Tryz.func121, Tryz.ntmps121
    go_wp2_with (go_at_call 97; go_must (with_reducible refine QF.out.mono ?_); rintro e w1 ⟨rfl, hq⟩; have B1 := Lib.hid hq; clear hq)
    go_ret
    exact ⟨rfl, B1.out⟩
  | true =>
    rw [if_pos rfl]
    obtain ⟨f1, f2⟩ := hfi rfl
    obtain ⟨i, rfl⟩ : ∃ i, fn = i + 1 := ⟨fn - 1, by omega⟩
    have e1 : ((i + 1 : Nat) : Int) - 1 = (i : Int) := by omega
    have hx : ((List.range n).map fun i => fptr (P (i + 1)))[i]? = some (fptr (P (i + 1))) := by rw [List.getElem?_map, List.getElem?_range (by omega)]; rfl
    have HX := Lib.hid hx
    clear hx hfi
    go_enter Tryz.func121, Tryz.ntmps121
    go_wp2_with (go_at_call 97; go_must (with_reducible refine QF.out.mono ?_); rintro e w1 ⟨rfl, hq⟩; have B1 := Lib.hid hq; go_loud (obtain ⟨-, k1⟩ := HC.out _ hq); go_loud (obtain ⟨g, c, rfl, hc1, hc2, hgl, hcell⟩ := row_at (HROW.out _ hq) (by omega)); go_loud (have kc := hcell i (by omega) _ HX.out); unfold fptr at kc; clear hq hcell)
    go_ret
    exact ⟨rfl, B1.out⟩
end Go.Proofs.YtmmoilmfpiclgaaGreat
namespace Go.Proofs.YtmmoilmfpiclgaaGreat
open Go.RowKit Go.Shelf
open Fld (FS Names FAct actsOn foundN foundB findT withT withoutT GoodN Rising mayB nam nameMax RefS)

/-- One of its files turns. -/
theorem RefD.part {w w' : World} {r : Nat} {S : DS} {M : Nat → Nat → Prop} {q : Nat} {fv : Value} {P : Nat → Nat} (h : RefDI w r S M q fv P) (hd : RefD w r S M) {n : Nat} (x : FileS)
    (hw : ∃ J' : Nat → Prop, RefAt w' (P n) x.D x.A J' ∧ (∀ g, J' g → M (n + 3) g ∨ w.heap.size ≤ g) ∧ Kept (M (n + 3)) w w') : WentD w r M { S with file := upd S.file n x } w' := by
  obtain ⟨J', k1, k2, k3⟩ := hw
  have hs := k3.size
  have hk0 : ∀ k, k ≠ n + 3 → ∀ g, M k g → w'.heap[g]? = w.heap[g]? := fun k hne g hm => hd.parts.kept k3 hne g (.inl hm)
  refine ⟨pput M (n + 3) J', ⟨⟨q, fv, P, (hk0 1 (by omega) r h.own).trans h.blk, ?_, by rw [pput_other _ _ (by omega)]; exact h.own, owns_same h.row fun g hg' => hk0 2 (by omega) g (h.rowM g hg'), by rw [pput_other _ _ (by omega)]; exact h.rowM, ?_, h.zero⟩, hd.good, ?_, hd.room, hd.armed⟩, all_pput k2, k3.all⟩
  · rw [pput_other _ _ (by omega)]
    exact h.dir.same (hk0 0 (by omega)) hs
  · intro m h1 h2
    by_cases e : m = n
    · subst e
      rw [pput_same]
      show RefAt w' (P m) (upd S.file m x m).D (upd S.file m x m).A J'
      rw [upd_same]
      exact k1
    · rw [pput_other _ _ (by omega)]
      show RefAt w' (P m) (upd S.file n x m).D (upd S.file n x m).A _
      rw [upd_other _ _ e]
      exact (h.files m h1 h2).same (hk0 (m + 3) (by omega)) hs
  · have := hd.parts.step (n + 3) (M' := J') (I' := noB 0) hs k2 (fun g hf => hf.elim) (fun g hg' => hg'.elim (fun hg' => k1.mem g hg') fun hf => hf.elim) (fun g hf => hf.elim)
    rwa [show pput noB (n + 3) (noB 0) = noB from by funext k; unfold pput; split <;> rfl] at this

set_option maxHeartbeats 2000000 in
set_option maxRecDepth 100000 in
theorem refSync_any {w : World} {r : Nat} {S : DS} {M : Nat → Nat → Prop} (hd : RefD w r S M) (s : ByteArray) (hf : S.Fit2) :
    Calls Tryz.prog 61 #[.pointer (some ⟨r, 0, none⟩), .string s] w fun e w' => e = .returned (.int .i64 (((S.sync s).2 : Nat) : Int)) ∧ WentD w r M (S.sync s).1 w' := by
  have QS := Lib.hid (refStep_any hd (Nat.le_trans hf.steps (by decide)))
  have hn5 : S.stepped.fold.n ≤ 100000 := hf.n
  unfold DS.sync DS.change DS.doing DS.change0
  obtain ⟨T, hT⟩ : ∃ T, S.stepped = T := ⟨_, rfl⟩
  rw [hT] at QS hn5 ⊢
  clear hT hf hd
  obtain ⟨dn, hdn⟩ : ∃ dn, T.down = dn := ⟨_, rfl⟩
  rw [hdn] at QS ⊢
  cases dn with
  | true =>
    rw [if_pos rfl]
    go_enter Tryz.func61, Tryz.ntmps61
    go_wp2_with (go_at_call 120; go_must (with_reducible refine QS.out.mono ?_); rintro e w1 ⟨rfl, hq⟩; have H1 := Lib.hid hq; clear hq)
    go_ret
    exact ⟨rfl, H1.out⟩
  | false =>
    rw [if_neg Bool.false_ne_true]
    obtain ⟨fb, hfb⟩ : ∃ fb, foundB T.fold.there s.data.toList = fb := ⟨_, rfl⟩
    obtain ⟨fn, hfn⟩ : ∃ fn, foundN T.fold.there s.data.toList = fn := ⟨_, rfl⟩
    have hfi := fun (hg : T.fold.good) x => found_in hg (k := s.data.toList) x
    have QF := Lib.hid (fun (W : World) (M1 : Nat → Nat → Prop) (q : Nat) (fv : Value) (P : Nat → Nat) (h1 : RefDI W r T M1 q fv P) (k1 : RefD W r T M1) => refFile_any h1 k1 s hn5)
    rw [hfb, hfn] at hfi
    simp only [hfb, hfn] at QF
    simp only [hfb, hfn]
    have HFI := Lib.hid hfi
    have HLEN := Lib.hid trivial
    clear hfb hfn hfi
    cases fb with
    | false =>
      simp only [Bool.false_eq_true, if_false] at QF ⊢
      go_enter Tryz.func61, Tryz.ntmps61
      go_wp2_with (first
        | (go_at_call 120; go_must (with_reducible refine QS.out.mono ?_); rintro e w1 ⟨rfl, M1, k1, k2, k3⟩; obtain ⟨q, fv, P, h1⟩ := k1.it; have K1 := Lib.hid k1; have K2 := Lib.hid k2; have K3 := Lib.hid k3; have H1 := Lib.hid h1; clear k1 k2 k3 h1)
        | (go_at_call 121; go_must (with_reducible refine (QF.out _ _ _ _ _ H1.out K1.out).mono ?_); rintro e w2 ⟨rfl, hq⟩; have B2 := Lib.hid hq; clear hq))
      go_ret
      exact ⟨rfl, M1, K1.out.below B2.out, K2.out, K3.out.trans (Kept.below (M := fun _ => False) B2.out) fun g hg => hg.elim⟩
    | true =>
      simp only [if_true, fptr] at QF ⊢
      go_enter Tryz.func61, Tryz.ntmps61
      go_wp2_with (first
        | (go_at_call 120; go_must (with_reducible refine QS.out.mono ?_); rintro e w1 ⟨rfl, M1, k1, k2, k3⟩; obtain ⟨q, fv, P, h1⟩ := k1.it; have K1 := Lib.hid k1; have K2 := Lib.hid k2; have K3 := Lib.hid k3; have H1 := Lib.hid h1; clear k1 k2 k3 h1)
        | (go_at_call 121; go_must (with_reducible refine (QF.out _ _ _ _ _ H1.out K1.out).mono ?_); rintro e w2 ⟨rfl, hq⟩; have B2 := Lib.hid hq; have H2 := Lib.hid (H1.out.below K1.out.parts hq); clear hq)
        | (go_at_call 123; go_must (with_reducible refine (ref_sync (H2.out.files fn (HFI.out K1.out.good trivial).1 (HFI.out K1.out.good trivial).2)).mono ?_); rintro e w3 ⟨rfl, hq⟩; have H3 := Lib.hid hq; clear hq))
      go_ret
      exact ⟨rfl, WentD.after K2.out K3.out (WentD.after (M1 := M1) (fun g hg => .inl hg) (Kept.below B2.out) (RefD.part H2.out (K1.out.below B2.out) ⟨(T.file fn).R, []⟩ H3.out))⟩

set_option maxHeartbeats 2000000 in
set_option maxRecDepth 100000 in
theorem refTruncate_any {w : World} {r : Nat} {S : DS} {M : Nat → Nat → Prop} (hd : RefD w r S M) (s : ByteArray) (k : Int) (hf : S.Fit2) (hlen : ∀ m, (S.stepped.file m).A.length ≤ 1000) :
    Calls Tryz.prog 60 #[.pointer (some ⟨r, 0, none⟩), .string s, .int .i64 k] w fun e w' => e = .returned (.int .i64 (((S.truncate s k).2 : Nat) : Int)) ∧ WentD w r M (S.truncate s k).1 w' := by
  have QS := Lib.hid (refStep_any hd (Nat.le_trans hf.steps (by decide)))
  have hn5 : S.stepped.fold.n ≤ 100000 := hf.n
  have hlen := hlen
  unfold DS.truncate DS.change DS.doing DS.change0
  obtain ⟨T, hT⟩ : ∃ T, S.stepped = T := ⟨_, rfl⟩
  rw [hT] at QS hn5 hlen ⊢
  clear hT hf hd
  obtain ⟨dn, hdn⟩ : ∃ dn, T.down = dn := ⟨_, rfl⟩
  rw [hdn] at QS ⊢
  cases dn with
  | true =>
    rw [if_pos rfl]
    go_enter Tryz.func60, Tryz.ntmps60
    go_wp2_with (go_at_call 120; go_must (with_reducible refine QS.out.mono ?_); rintro e w1 ⟨rfl, hq⟩; have H1 := Lib.hid hq; clear hq)
    go_ret
    exact ⟨rfl, H1.out⟩
  | false =>
    rw [if_neg Bool.false_ne_true]
    obtain ⟨fb, hfb⟩ : ∃ fb, foundB T.fold.there s.data.toList = fb := ⟨_, rfl⟩
    obtain ⟨fn, hfn⟩ : ∃ fn, foundN T.fold.there s.data.toList = fn := ⟨_, rfl⟩
    have hfi := fun (hg : T.fold.good) x => found_in hg (k := s.data.toList) x
    have QF := Lib.hid (fun (W : World) (M1 : Nat → Nat → Prop) (q : Nat) (fv : Value) (P : Nat → Nat) (h1 : RefDI W r T M1 q fv P) (k1 : RefD W r T M1) => refFile_any h1 k1 s hn5)
    rw [hfb, hfn] at hfi
    simp only [hfb, hfn] at QF
    simp only [hfb, hfn]
    have HFI := Lib.hid hfi
    have HLEN := Lib.hid hlen
    clear hfb hfn hfi
    cases fb with
    | false =>
      simp only [Bool.false_eq_true, if_false] at QF ⊢
      go_enter Tryz.func60, Tryz.ntmps60
      go_wp2_with (first
        | (go_at_call 120; go_must (with_reducible refine QS.out.mono ?_); rintro e w1 ⟨rfl, M1, k1, k2, k3⟩; obtain ⟨q, fv, P, h1⟩ := k1.it; have K1 := Lib.hid k1; have K2 := Lib.hid k2; have K3 := Lib.hid k3; have H1 := Lib.hid h1; clear k1 k2 k3 h1)
        | (go_at_call 121; go_must (with_reducible refine (QF.out _ _ _ _ _ H1.out K1.out).mono ?_); rintro e w2 ⟨rfl, hq⟩; have B2 := Lib.hid hq; clear hq))
      go_ret
      exact ⟨rfl, M1, K1.out.below B2.out, K2.out, K3.out.trans (Kept.below (M := fun _ => False) B2.out) fun g hg => hg.elim⟩
    | true =>
      simp only [if_true, fptr] at QF ⊢
      go_enter Tryz.func60, Tryz.ntmps60
      go_wp2_with (first
        | (go_at_call 120; go_must (with_reducible refine QS.out.mono ?_); rintro e w1 ⟨rfl, M1, k1, k2, k3⟩; obtain ⟨q, fv, P, h1⟩ := k1.it; have K1 := Lib.hid k1; have K2 := Lib.hid k2; have K3 := Lib.hid k3; have H1 := Lib.hid h1; clear k1 k2 k3 h1)
        | (go_at_call 121; go_must (with_reducible refine (QF.out _ _ _ _ _ H1.out K1.out).mono ?_); rintro e w2 ⟨rfl, hq⟩; have B2 := Lib.hid hq; have H2 := Lib.hid (H1.out.below K1.out.parts hq); clear hq)
        | (go_at_call 122; go_must (with_reducible refine (ref_cut (n := k) (H2.out.files fn (HFI.out K1.out.good trivial).1 (HFI.out K1.out.good trivial).2) (HLEN.out fn)).mono ?_); rintro e w3 ⟨rfl, hq⟩; have H3 := Lib.hid hq; clear hq))
      go_ret
      exact ⟨by rw [show (((cutG k (T.file fn)).2 : Nat) : Int) = cutE (T.file fn).R k from by unfold cutG cutE; dsimp only; split <;> rfl]; rfl, WentD.after K2.out K3.out (WentD.after (M1 := M1) (fun g hg => .inl hg) (Kept.below B2.out) (RefD.part H2.out (K1.out.below B2.out) ⟨(T.file fn).D, cutT (T.file fn).R (T.file fn).A k⟩ H3.out))⟩

end Go.Proofs.YtmmoilmfpiclgaaGreat
namespace Go.Proofs.YtmmoilmfpiclgaaGreat
open Go.RowKit Go.Shelf
open Fld (FS Names FAct actsOn foundN foundB findT withT withoutT GoodN Rising mayB nam nameMax RefS WentR)

theorem range_snoc {α : Type} (f : Nat → α) (n : Nat) : ((List.range (n + 1)).map f) = (List.range n).map f ++ [f n] := by rw [List.range_succ, List.map_append]; rfl
/-- A folder's act, a row, and a file more. -/
theorem RefD.more {w w2 w4 : World} {r : Nat} {S : DS} {M : Nat → Nat → Prop} {q : Nat} {fv v4 : Value} {P : Nat → Nat} {F : FS} {b : Nat} {D : List UInt8} (hD : D.length ≤ 100000) (h : RefDI w r S M q fv P) (hd : RefD w r S M) (hw : WentR w q (M 0) F w2) (hn : F.n = S.fold.n + 1) (hg : F.good)
    (hb : Below w2.heap.size w2 w4) (hnb : w2.heap.size ≤ b) (hbc : w4.heap[b]? = some (.cells #[.string (strO D), .slice none 0 0] 88 (0, 0))) (ho : w4.ownsRow w2.heap.size 85 1 v4 (S.fold.n + 1) ((List.range S.fold.n).map (fun i => fptr (P (i + 1))) ++ [fptr b])) :
    WentD w r M { S with fold := F, file := upd S.file F.n ⟨D, []⟩ } (w4.setCell ⟨r, 1, none⟩ v4) := by
  obtain ⟨J', k1, k2, k3⟩ := hw
  have hkq : Kept (M 0) w w2 := (kept_in k3).mono fun g e => .inl (e ▸ h.dir.lt.2)
  have hs := hkq.size
  have hs2 := hb.size
  have hrl : r < w.heap.size := h.lt
  have hbl := (Array.getElem?_eq_some_iff.1 hbc).1
  have hvb : ∀ g, v4.ownBlock = some g → w2.heap.size ≤ g ∧ g < w4.heap.size ∧ g ≠ b := fun g hg' => ⟨(ho.lt g hg').1, (ho.lt g hg').2, fun e => by
    subst e
    obtain ⟨cs, hcs⟩ := Fld.owns_mem ho hg'
    exact absurd rfl (Fld.two_types hcs hbc (by decide))⟩
  have hgr := grown_setCell w4 r 1 v4
  have hsz : (w4.setCell ⟨r, 1, none⟩ v4).heap.size = w4.heap.size := by simp
  have hr2 : w2.heap[r]? = some (.cells (refC q fv S) 84 (0, 0)) := (hd.parts.kept hkq (k := 1) (by decide) r (.inl h.own)).trans h.blk
  have hr4 := (hb.block r (by omega)).trans hr2
  have hkA : Kept (fun g => M 0 g ∨ M 1 g) w (w4.setCell ⟨r, 1, none⟩ v4) := (((hkq.mono (fun g hg => .inl (.inl hg))).trans (Kept.below (M := fun _ => False) hb) fun g hg => hg.elim)).trans (Kept.grown (M := M 1) hgr fun g e => by cases e; exact h.own) fun g hg => .inl (.inr hg)
  have hold : ∀ k, k ≠ 0 → k ≠ 1 → ∀ g, M k g → (w4.setCell ⟨r, 1, none⟩ v4).heap[g]? = w.heap[g]? := fun k h0 h1 g hm => hkA.block g (hd.parts.mem k g (.inl hm)) fun hg => hg.elim (fun hg => hd.parts.apart k 0 g h0 hm hg) fun hg => hd.parts.apart k 1 g h1 hm hg
  have hnew : ∀ g, w2.heap.size ≤ g → g < w4.heap.size → (w4.setCell ⟨r, 1, none⟩ v4).heap[g]? = w4.heap[g]? := fun g h1 _ => heap_setCell_ne (by omega)
  have cls : ∀ k g, pput (pput (pput M 0 J') 2 (fun g => v4.ownBlock = some g)) (S.fold.n + 4) (fun g => g = b) k g → (k = 0 ∧ (M 0 g ∨ w.heap.size ≤ g) ∧ g < w2.heap.size) ∨ (k = 2 ∧ w2.heap.size ≤ g ∧ g < w4.heap.size ∧ g ≠ b) ∨ (k = S.fold.n + 4 ∧ g = b) ∨ (k ≠ 0 ∧ k ≠ 2 ∧ k ≠ S.fold.n + 4 ∧ M k g ∧ g < w.heap.size) := fun k g hk => by
    by_cases e1 : k = S.fold.n + 4
    · subst e1; rw [pput_same] at hk; exact .inr (.inr (.inl ⟨rfl, hk⟩))
    · rw [pput_other _ _ e1] at hk
      by_cases e2 : k = 2
      · subst e2; rw [pput_same] at hk; exact .inr (.inl ⟨rfl, (hvb g hk).1, (hvb g hk).2⟩)
      · rw [pput_other _ _ e2] at hk
        by_cases e3 : k = 0
        · subst e3; rw [pput_same] at hk; exact .inl ⟨rfl, k2 g hk, k1.mem g hk⟩
        · rw [pput_other _ _ e3] at hk; exact .inr (.inr (.inr ⟨e3, e2, e1, hk, hd.parts.mem k g (.inl hk)⟩))
  refine ⟨pput (pput (pput M 0 J') 2 (fun g => v4.ownBlock = some g)) (S.fold.n + 4) (fun g => g = b), ⟨⟨q, v4, fun m => if m = S.fold.n + 1 then b else P m, cells_setCell hr4 1 v4, ?_, ?_, ?_, ?_, ?_, fun h0 => by rw [show ({ S with fold := F, file := upd S.file F.n ⟨D, []⟩ } : DS).fold.n = F.n from rfl, hn] at h0; omega⟩, hg, ⟨?_, ?_, fun k l g hf => hf.elim⟩, hd.room, hd.armed⟩, ?_, hkA.mono fun g hg => .inl (hg.elim (fun hg => ⟨0, hg⟩) fun hg => ⟨1, hg⟩)⟩
  · rw [pput_other _ _ (by omega), pput_other _ _ (by omega), pput_same]
    refine k1.same (fun g hg => ?_) (by rw [hsz]; exact hs2)
    have hgl := k1.mem g hg
    have hgr : g ≠ r := fun e => by
      subst e
      rcases k2 g hg with k | k
      · exact hd.parts.apart 0 1 g (by decide) k h.own
      · omega
    exact (heap_setCell_ne hgr).trans (hb.block g hgl)
  · rw [pput_other _ _ (by omega), pput_other _ _ (by omega), pput_other _ _ (by omega)]; exact h.own
  · show (w4.setCell ⟨r, 1, none⟩ v4).ownsRow 0 _ 1 v4 F.n _
    rw [hn, range_snoc]
    have e1 : (fptr (if S.fold.n + 1 = S.fold.n + 1 then b else P (S.fold.n + 1))) = fptr b := by rw [if_pos rfl]
    rw [e1, List.map_congr_left (g := fun i => fptr (P (i + 1))) (fun i hi => by
      have := List.mem_range.1 hi
      rw [if_neg (by omega)])]
    exact owns_base (owns_same ho fun g hg => hnew g (hvb g hg).1 (hvb g hg).2.1)
  · intro g hg'
    rw [pput_other _ _ (by omega), pput_same]; exact hg'
  · intro m h1 h2
    have h2 : m ≤ S.fold.n + 1 := by rw [← hn]; exact h2
    show RefAt _ _ (upd S.file F.n ⟨D, []⟩ m).D (upd S.file F.n ⟨D, []⟩ m).A _
    by_cases e : m = S.fold.n + 1
    · subst e
      rw [if_pos rfl, hn, upd_same, pput_same]
      exact ⟨⟨.slice none 0 0, (hnew b hnb hbl).trans hbc, World.ownsRow_nil _ 0 _ 3, rfl, fun g hg => by cases hg⟩, trivial, hD, fun g hg => by cases hg; rw [hsz]; exact hbl⟩
    · rw [if_neg e, hn, upd_other _ _ e, pput_other _ _ (by omega), pput_other _ _ (by omega), pput_other _ _ (by omega)]
      exact (h.files m h1 (by omega)).same (hold (m + 3) (by omega) (by omega)) hkA.size
  · intro k g hk
    rw [hsz]
    rcases hk with hk | hk
    · rcases cls k g hk with ⟨_, _, x⟩ | ⟨_, _, x, _⟩ | ⟨_, rfl⟩ | ⟨_, _, _, _, x⟩ <;> omega
    · exact hk.elim
  · intro k l g hkl hk hl
    rcases cls k g hk with ⟨rfl, x1, x2⟩ | ⟨rfl, x1, x2, x3⟩ | ⟨rfl, x1⟩ | ⟨x1, x2, x3, x4, x5⟩ <;> rcases cls l g hl with ⟨rfl, y1, y2⟩ | ⟨rfl, y1, y2, y3⟩ | ⟨rfl, y1⟩ | ⟨y1, y2, y3, y4, y5⟩ <;> first | omega | skip
    · rcases x1 with x1 | x1
      · exact hd.parts.apart 0 l g (Ne.symm y1) x1 y4
      · omega
    · rcases y1 with y1 | y1
      · exact hd.parts.apart k 0 g x1 x4 y1
      · omega
    · exact hd.parts.apart k l g hkl x4 y4
  · rintro g ⟨k, hk⟩
    rcases cls k g hk with ⟨_, x, _⟩ | ⟨_, x, _⟩ | ⟨_, rfl⟩ | ⟨_, _, _, x, _⟩
    · exact x.imp (fun x => ⟨0, x⟩) id
    · exact .inr (by omega)
    · exact .inr (by omega)
    · exact .inl ⟨k, x⟩

theorem row_form {w : World} {base size n : Nat} {e : TypeId} {v : Value} {xs : List Value} (h : w.ownsRow base e size v n xs) : ∃ ad c, v = .slice ad n c := by
  rcases h.2 with ⟨rfl, h0⟩ | ⟨g, cap, cur, rfl, _⟩
  · exact ⟨none, 0, by rw [h0]⟩
  · exact ⟨_, cap, rfl⟩
theorem iptr : (Tryz.prog.info? 85).map (fun i => (i.zero, i.size, i.bytes)) = some (some (.pointer none), 1, 8) := by kernel_rfl
/-- An append of files to a row of the call's own: what a walk goes on with. -/
theorem wpList_append_ptr {w : World} {ops : Array Oper} {rest : List Oper} {o : Oper} {a : Act} {Q : Exit → Act → World → Prop} (hgd : o.guard = none) (s x : Operand)
    (hop : o.op = Op.call { callee := Callee.builtin Builtin.append, args := #[s, x], argTypes := #[82, 82] }) (ht : o.type = 82) (base : Nat) (v : Value) (n : Nat) (fs : List Value) (ad : Addr) (m c : Nat) (news : List Value)
    (hs : a.eval s = v) (hx : a.eval x = .slice (some ad) m c) (hl : news.length = m) (hc : ∀ j u, news[j]? = some u → w.cell? (ad.add j) = some u) (hf : ∀ u ∈ news, u.oneCell' = true) (hv : w.ownsRow base 85 1 v n fs) (hb : base ≤ w.heap.size) (hlen : n + m ≤ 1000000)
    (h : ∀ v' w', w'.ownsRow base 85 1 v' (n + m) (fs ++ news) → w.grownBy w' v.ownBlock → wpList Tryz.prog ops Q rest (a.put o.dst v') w') : wpList Tryz.prog ops Q (o :: rest) a w := by
  obtain ⟨i0, hi, hz0, hz1, hz2⟩ := info_parts iptr
  obtain ⟨v', w1, h1, h2, h3, _, _⟩ := run_append_own_at (P := Tryz.prog) w base 82 82 85 i0 _ 1 8 Tryz.underlying82 hi hz0 hz1 hz2 rfl (by decide) v n fs hv ad m c news (by omega)
    hc hf (by unfold maxLen; omega) (by omega) hb
  refine wpList_plain hgd fun _ hK => ?_
  unfold Oper.wp execOp
  simp only [hop, ht, resolve, invoke, builtin, Sem.run_bind, Sem.run_pure, Result.andThen_ok, List.map_toArray, List.map_cons, List.map_nil, hs, hx, h1]
  exact hK _ _ (h v' w1 h2 h3)

/-- Three blocks more: a row without cells, a file, and a cell that leads there. -/
theorem lone_cells (w : World) (o o' : Obj) (t : TypeId) : ∀ j u, [fptr (w.heap.size + 1)][j]? = some u → (((w.alloc o).alloc o').alloc (.cells #[fptr (w.heap.size + 1)] t)).cell? ((⟨w.heap.size + 1 + 1, 0, none⟩ : Addr).add j) = some u := by
  have h := cells_new ((w.alloc o).alloc o') [fptr (w.heap.size + 1)] t
  simpa using h
theorem lone_file (w : World) (o o' o2 : Obj) : (((w.alloc o).alloc o').alloc o2).heap[w.heap.size + 1]? = some o' := by
  have h := heap_alloc_new (w.alloc o) o'
  rw [World.size_alloc] at h
  exact (Below.heap_alloc _ _ _ (by simp)).trans h
theorem lone_below (w : World) (o o' o2 : Obj) : Below w.heap.size w (((w.alloc o).alloc o').alloc o2) := below_alloc' (below_alloc' (below_alloc' (Below.refl _ w)))
theorem lone_row (w : World) (o' o2 : Obj) : (((w.alloc (.cells #[] 85)).alloc o').alloc o2).ownsRow w.heap.size 85 1 (.slice (some ⟨w.heap.size, 0, none⟩) 0 0) 0 [] :=
  owns_below (owns_below (World.ownsRow_made w #[] 0 (Nat.le_refl _) (Nat.zero_le _) rfl) (below_alloc' (Below.refl _ _))) (below_alloc' (Below.refl _ _))
theorem duo_cells (w : World) (o : Obj) (t : TypeId) : ∀ j u, [fptr w.heap.size][j]? = some u → ((w.alloc o).alloc (.cells #[fptr w.heap.size] t)).cell? ((⟨w.heap.size + 1, 0, none⟩ : Addr).add j) = some u := by
  have h := cells_new (w.alloc o) [fptr w.heap.size] t
  simpa using h
theorem duo_file (w : World) (o o' : Obj) : ((w.alloc o).alloc o').heap[w.heap.size]? = some o := (Below.heap_alloc _ _ _ (by simp)).trans (heap_alloc_new w o)
theorem more_cells {w w' : World} {g n j : Nat} {xs : List Value} {u : Value} (hb : Below w.heap.size w w') (hg : g < w.heap.size) (hc : j < n → ∀ u, xs[j]? = some u → w.cell? ⟨g, j, none⟩ = some u) (hj : xs[j]? = some u) (hl : xs.length = n := by simp) : w'.cell? ((⟨g, 0, none⟩ : Addr).add j) = some u := by
  rw [Addr.add_lit, Nat.zero_add, hb.cell (p := ⟨g, j, none⟩) hg]
  exact hc (by have := (List.getElem?_eq_some_iff.1 hj).1; omega) u hj

theorem create_n0 (S : FS) (s : ByteArray) (h : (S.create s).2.2 = 0) : (S.create s).1.n = S.n + 1 ∧ (S.create s).2.1 = S.n + 1 := by
  unfold FS.create at h ⊢
  split
  · rename_i h1; rw [if_pos h1] at h; cases h
  · rename_i h1
    rw [if_neg h1] at h
    split
    · rename_i h2; rw [if_pos h2] at h; cases h
    · exact ⟨rfl, rfl⟩
theorem create_n1 (S : FS) (s : ByteArray) (h : (S.create s).2.2 ≠ 0) : (S.create s).1 = S := by
  unfold FS.create at h ⊢
  split
  · rfl
  · rename_i h1
    rw [if_neg h1] at h
    split
    · rfl
    · rename_i h2; rw [if_neg h2] at h; exact absurd rfl h

set_option maxHeartbeats 2000000 in
set_option maxRecDepth 100000 in
theorem refCreate_any {w : World} {r : Nat} {S : DS} {M : Nat → Nat → Prop} (hd : RefD w r S M) (s : ByteArray) (hs : s.size ≤ nameMax) (hf : S.Fit2) :
    Calls Tryz.prog 59 #[.pointer (some ⟨r, 0, none⟩), .string s] w fun e w' => e = .returned (.int .i64 (((S.create s).2 : Nat) : Int)) ∧ WentD w r M (S.create s).1 w' := by
  have QS := Lib.hid (refStep_any hd (Nat.le_trans hf.steps (by decide)))
  have hwt : S.stepped.fold.weight ≤ 90000 := Nat.le_trans hf.weight (by decide)
  have hn5 : S.stepped.fold.n ≤ 100000 := hf.n
  unfold DS.create DS.doing DS.create0
  obtain ⟨T, hT⟩ : ∃ T, S.stepped = T := ⟨_, rfl⟩
  rw [hT] at QS hwt hn5 ⊢
  have HWT := Lib.hid hwt
  clear hwt hT hf hd
  obtain ⟨dn, hdn⟩ : ∃ dn, T.down = dn := ⟨_, rfl⟩
  rw [hdn] at QS ⊢
  cases dn with
  | true =>
    rw [if_pos rfl]
    go_enter Tryz.func59, Tryz.ntmps59
    go_wp2_with (go_at_call 120; go_must (with_reducible refine QS.out.mono ?_); rintro e w1 ⟨rfl, hq⟩; have H1 := Lib.hid hq; clear hq)
    go_ret
    exact ⟨rfl, H1.out⟩
  | false =>
    rw [if_neg Bool.false_ne_true]
    have QC := Lib.hid (fun (W : World) (q : Nat) (J : Nat → Prop) (h1 : RefS W q T.fold J) (hg : T.fold.good) => Fld.refS_create h1 s hs hg HWT.out)
    have hc0 := create_n0 T.fold s
    have hc1 := create_n1 T.fold s
    have hcg := fun (hg : T.fold.good) => Fld.good_create hg s
    obtain ⟨F, hF⟩ : ∃ F, (T.fold.create s).1 = F := ⟨_, rfl⟩
    obtain ⟨nn, hnn⟩ : ∃ nn, (T.fold.create s).2.1 = nn := ⟨_, rfl⟩
    obtain ⟨er, her⟩ : ∃ er, (T.fold.create s).2.2 = er := ⟨_, rfl⟩
    simp only [hF, hnn, her] at QC hc0 hc1 hcg ⊢
    have HCG := Lib.hid hcg
    clear hF hnn her hcg
    by_cases h0 : er = 0
    · subst h0
      obtain ⟨c1, c2⟩ := hc0 rfl
      rw [if_pos rfl]
      have HC1 := Lib.hid c1
      rw [← c1] at c2
      subst c2
      clear hc0 hc1 c1
      have HGF : ∀ W (q : Nat) (fv : Value) (P : Nat → Nat) (M1 : Nat → Nat → Prop) (w2 : World), RefDI W r T M1 q fv P → RefD W r T M1 → WentR W q (M1 0) F w2 → ∀ W2, Below w2.heap.size w2 W2 → W2.cell? ⟨r, 1, none⟩ = some fv ∧ W2.frozen? ⟨r, 1, none⟩ = false ∧ w2.ownsRow 0 85 1 fv T.fold.n ((List.range T.fold.n).map fun i => fptr (P (i + 1))) := fun W q fv P M1 w2 h1 k1 hw W2 hb => by
        obtain ⟨J', -, -, k3⟩ := hw
        have hkq : Kept (M1 0) W w2 := (kept_in k3).mono fun g e => .inl (e ▸ h1.dir.lt.2)
        have hb2 := (k1.parts.kept hkq (k := 1) (by decide) r (.inl h1.own)).trans h1.blk
        have hb3 := (hb.block r (Array.getElem?_eq_some_iff.1 hb2).1).trans hb2
        exact ⟨by rw [cell_of_row W2 r 1 _ _ _ hb3]; rfl, free_of hb3 1, owns_same h1.row fun g hg => k1.parts.kept hkq (k := 2) (by decide) g (.inl (h1.rowM g hg))⟩
      have HG := Lib.hid HGF
      clear HGF
      by_cases hz : T.fold.n = 0
      · have HZ := Lib.hid hz
        clear hz
        go_enter Tryz.func59, Tryz.ntmps59
        go_wp2_with (first
          | (go_at_call 120; go_must (with_reducible refine QS.out.mono ?_); rintro e w1 ⟨rfl, M1, k1, k2, k3⟩; obtain ⟨q, fv, P, h1⟩ := k1.it; have hfv := h1.zero HZ.out; subst hfv; have c0 := h1.cell.1; have K1 := Lib.hid k1; have K2 := Lib.hid k2; have K3 := Lib.hid k3; have H1 := Lib.hid h1; clear k1 k2 k3 h1)
          | (go_at_call 42; go_must (with_reducible refine (QC.out _ _ _ H1.out.dir K1.out.good).mono ?_); rintro e w2 ⟨rfl, hq⟩; have H2 := Lib.hid hq; have b2 := below_alloc' (o := .cells #[] 85) (Below.refl _ w2); obtain ⟨x1, x2, -⟩ := HG.out _ _ _ _ _ _ H1.out K1.out hq _ b2; clear hq b2)
          | (at_builtin; refine wpList_append_ptr rfl _ _ rfl rfl w2.heap.size (.slice (some ⟨w2.heap.size, 0, none⟩) 0 0) 0 [] ⟨w2.heap.size + 1 + 1, 0, none⟩ 1 1 [fptr (w2.heap.size + 1)] rfl rfl rfl (lone_cells w2 _ _ _) (by intro u hu; simp at hu; subst hu; rfl) (lone_row w2 _ _) (by simp <;> omega) (by omega) ?_; go_loud (intro v4 w4 o4 g4; have hb4 := (lone_below w2 _ _ _).grown g4 (by simp <;> omega) (fun k hk => by cases hk; exact Nat.le_refl _); have hf4 := (g4.block (w2.heap.size + 1) (by simp <;> omega) (fun e => by have e2 : some (w2.heap.size + 1) = some w2.heap.size := e; simp at e2)).trans (lone_file w2 _ _ _); obtain ⟨y1, y2, -⟩ := HG.out _ _ _ _ _ _ H1.out K1.out H2.out _ hb4; have B4 := Lib.hid hb4; have F4 := Lib.hid hf4; have O4 := Lib.hid o4; obtain ⟨a4, c4, rfl⟩ := row_form o4; clear o4 g4 hb4 hf4)))
        go_ret
        exact ⟨rfl, WentD.after K2.out K3.out (RefD.more (D := []) (Nat.zero_le _) H1.out K1.out H2.out HC1.out (HCG.out K1.out.good) B4.out (Nat.le_succ _) F4.out (by have := O4.out; rw [HZ.out]; exact this))⟩
      · have HZ := Lib.hid hz
        clear hz
        go_enter Tryz.func59, Tryz.ntmps59
        go_wp2_with (first
          | (go_at_call 120; go_must (with_reducible refine QS.out.mono ?_); rintro e w1 ⟨rfl, M1, k1, k2, k3⟩; obtain ⟨q, fv, P, h1⟩ := k1.it; have c0 := h1.cell.1; have K1 := Lib.hid k1; have K2 := Lib.hid k2; have K3 := Lib.hid k3; have H1 := Lib.hid h1; clear k1 k2 k3 h1)
          | (go_at_call 42; go_must (with_reducible refine (QC.out _ _ _ H1.out.dir K1.out.good).mono ?_); rintro e w2 ⟨rfl, hq⟩; have H2 := Lib.hid hq; have b2 := below_alloc' (o := .cells #[] 85) (Below.refl _ w2); obtain ⟨x1, x2, x3⟩ := HG.out _ _ _ _ _ _ H1.out K1.out hq _ b2; obtain ⟨g, c, rfl, hc1, hc2, hgl, hcell⟩ := row_at x3 (by have := HZ.out; omega); have HX := Lib.hid (fun j u hj => more_cells b2 hgl (hcell j) (show _ = some u from hj)); have B2 := Lib.hid b2; clear hq b2 x3 hcell)
          | (at_builtin; refine wpList_append_ptr rfl _ _ rfl rfl w2.heap.size (.slice (some ⟨w2.heap.size, 0, none⟩) 0 0) 0 [] ⟨g, 0, none⟩ T.fold.n c ((List.range T.fold.n).map fun i => fptr (P (i + 1))) rfl rfl (by simp) HX.out (by intro u hu; obtain ⟨i, -, rfl⟩ := List.mem_map.1 hu; rfl) (World.ownsRow_made w2 #[] 0 (Nat.le_refl _) (Nat.zero_le _) rfl) (by simp) (by omega) ?_; intro v3 w3 o3 g3; rw [List.nil_append, Nat.zero_add] at o3; have hb3 := B2.out.grown g3 (by simp) (fun k hk => by cases hk; exact Nat.le_refl _); obtain ⟨z1, z2, -⟩ := HG.out _ _ _ _ _ _ H1.out K1.out H2.out _ hb3; have B3 := Lib.hid hb3; have O3 := Lib.hid o3; obtain ⟨a3, c3, rfl⟩ := row_form o3; clear o3 g3 hb3)
          | (at_builtin; refine wpList_append_ptr rfl _ _ rfl rfl w2.heap.size _ _ _ ⟨w3.heap.size + 1, 0, none⟩ 1 1 [fptr w3.heap.size] rfl rfl rfl (duo_cells w3 _ _) (by intro u hu; simp at hu; subst hu; rfl) (owns_below (owns_below O3.out (below_alloc' (Below.refl _ w3))) (below_alloc' (Below.refl _ _))) (by have := B3.out.size; simp <;> omega) (by omega) ?_; intro v4 w4 o4 g4; have hb4 := (below_alloc' (below_alloc' B3.out)).grown g4 (by have := B3.out.size; simp <;> omega) (fun k hk => (O3.out.lt k hk).1); have hf4 := (g4.block w3.heap.size (by simp <;> omega) (fun e => by have := (O3.out.lt _ e.symm).2; omega)).trans (duo_file w3 _ _); obtain ⟨y1, y2, -⟩ := HG.out _ _ _ _ _ _ H1.out K1.out H2.out _ hb4; have B4 := Lib.hid hb4; have F4 := Lib.hid hf4; have O4 := Lib.hid o4; obtain ⟨a4, c4, rfl⟩ := row_form o4; clear o4 g4 hb4 hf4))
        go_ret
        exact ⟨rfl, WentD.after K2.out K3.out (RefD.more (D := []) (Nat.zero_le _) H1.out K1.out H2.out HC1.out (HCG.out K1.out.good) B4.out B3.out.size F4.out O4.out)⟩
    · have e0 : ((er : Int) == 0) = false := by simpa using h0
      rw [if_neg h0]
      have hFF := hc1 h0
      subst hFF
      clear hc0 hc1
      go_enter Tryz.func59, Tryz.ntmps59
      go_wp2_with (first
        | (go_at_call 120; go_must (with_reducible refine QS.out.mono ?_); rintro e w1 ⟨rfl, M1, k1, k2, k3⟩; obtain ⟨q, fv, P, h1⟩ := k1.it; have c0 := h1.cell.1; have K1 := Lib.hid k1; have K2 := Lib.hid k2; have K3 := Lib.hid k3; have H1 := Lib.hid h1; clear k1 k2 k3 h1)
        | (go_at_call 42; go_must (with_reducible refine (QC.out _ _ _ H1.out.dir K1.out.good).mono ?_); rintro e w2 ⟨rfl, hq⟩; have H2 := Lib.hid hq; clear hq))
      go_ret
      exact ⟨rfl, WentD.after K2.out K3.out (RefD.folder H1.out K1.out H2.out rfl K1.out.good)⟩
end Go.Proofs.YtmmoilmfpiclgaaGreat

/-
  A folder in memory: its four cells, its two maps, its acts; what is told of it.
-/
import Derived.Test.YtfjgefnklelnnaaOBehind
namespace Go.Proofs.Ytfjgefnklelnnaa
open Go.RowKit Go.Shelf

/-- The acts of a row. -/
def FActs (w : World) (fs : List Value) (A : List FAct) (I : Nat → Prop) : Prop := fs.length = A.length ∧ ∀ k (h : k < A.length), ∃ f, fs[k]? = some f ∧ FActAt w f A[k] I

theorem FActs.same {w w' : World} {fs : List Value} {A : List FAct} {I J : Nat → Prop} (h : FActs w fs A I) (he : ∀ g, I g → (∃ cs T, w.heap[g]? = some (.cells cs T (0, 0))) → w'.heap[g]? = w.heap[g]?) (hj : ∀ g, I g → J g) : FActs w' fs A J :=
  ⟨h.1, fun k hk => by
    obtain ⟨f, h1, h2⟩ := h.2 k hk
    exact ⟨f, h1, h2.same he hj⟩⟩

/-- Block p holds a folder's four cells. -/
def Four (w : World) (p : Nat) (a b c d : Value) : Prop := w.heap[p]? = some (.cells #[a, b, c, d] 56 (0, 0))
theorem Four.at0 {w : World} {p : Nat} {a b c d : Value} (h : Four w p a b c d) : w.cell? ⟨p, 0, none⟩ = some a := by rw [cell_of_row w p 0 _ _ _ h]; rfl
theorem Four.at1 {w : World} {p : Nat} {a b c d : Value} (h : Four w p a b c d) : w.cell? ⟨p, 1, none⟩ = some b := by rw [cell_of_row w p 1 _ _ _ h]; rfl
theorem Four.at2 {w : World} {p : Nat} {a b c d : Value} (h : Four w p a b c d) : w.cell? ⟨p, 2, none⟩ = some c := by rw [cell_of_row w p 2 _ _ _ h]; rfl
theorem Four.at3 {w : World} {p : Nat} {a b c d : Value} (h : Four w p a b c d) : w.cell? ⟨p, 3, none⟩ = some d := by rw [cell_of_row w p 3 _ _ _ h]; rfl
theorem Four.free {w : World} {p : Nat} {a b c d : Value} (h : Four w p a b c d) (o : Nat) : w.frozen? ⟨p, o, none⟩ = false := by
  unfold Four at h
  simp [World.frozen?, h]
theorem Four.lt {w : World} {p : Nat} {a b c d : Value} (h : Four w p a b c d) : p < w.heap.size := (Array.getElem?_eq_some_iff.1 h).1
theorem Four.set0 {w : World} {p : Nat} {a b c d : Value} (h : Four w p a b c d) (v : Value) : Four (w.setCell ⟨p, 0, none⟩ v) p v b c d := cells_setCell h 0 v
theorem Four.set1 {w : World} {p : Nat} {a b c d : Value} (h : Four w p a b c d) (v : Value) : Four (w.setCell ⟨p, 1, none⟩ v) p a v c d := cells_setCell h 1 v
theorem Four.set2 {w : World} {p : Nat} {a b c d : Value} (h : Four w p a b c d) (v : Value) : Four (w.setCell ⟨p, 2, none⟩ v) p a b v d := cells_setCell h 2 v
theorem Four.set3 {w : World} {p : Nat} {a b c d : Value} (h : Four w p a b c d) (v : Value) : Four (w.setCell ⟨p, 3, none⟩ v) p a b c v := cells_setCell h 3 v
theorem Four.same {w w' : World} {p : Nat} {a b c d : Value} (h : Four w p a b c d) (he : w'.heap[p]? = w.heap[p]?) : Four w' p a b c d := he.trans h

/-- A folder: M: the blocks that it writes; I: what its acts have caught, and what it only reads. L0: what lasts; A: the acts behind it; n: the greatest number; av: the slice of its acts; fs: the functions in it. -/
structure FolderIn (w : World) (p : Nat) (L0 : Names) (A : List FAct) (n : Nat) (av : Value) (fs : List Value) (M I : Nat → Prop) : Prop where
  it : ∃ lv tv, Four w p lv av tv (.int .i64 (n : Int)) ∧ MapIs w lv L0 ∧ MapIs w tv (actsOn L0 A) ∧ M p ∧ (∀ b, mapOf lv = some b → M b) ∧ (∀ b, mapOf tv = some b → M b) ∧ (mapOf lv = mapOf tv → mapOf lv = none)
  row : ARow w av fs
  acts : FActs w fs A I
  room : ∀ b, av.ownBlock = some b → M b ∨ (I b ∧ capOf av = fs.length)
  fine : ∀ x ∈ A, x.fine
  small : L0.length + A.length ≤ 100000 ∧ n ≤ 100000
  mem : ∀ g, M g ∨ I g → g < w.heap.size
  apart : ∀ g, I g → ¬ M g

theorem FolderIn.same_row {w w' : World} {p : Nat} {L0 : Names} {A : List FAct} {n : Nat} {av : Value} {fs : List Value} {M I : Nat → Prop} (h : FolderIn w p L0 A n av fs M I) (he : ∀ g, M g ∨ I g → av.ownBlock ≠ some g → w'.heap[g]? = w.heap[g]?) (hr : ARow w' av fs) (hs : w.heap.size ≤ w'.heap.size) : FolderIn w' p L0 A n av fs M I := by
  obtain ⟨lv, tv, h1, h2, h3, h4, h5, h6, h7⟩ := h.it
  have ne : ∀ g, (∃ es clock, w.heap[g]? = some (.map es clock)) → av.ownBlock ≠ some g := fun g ⟨es, clock, hm⟩ hg => by
    obtain ⟨cs, hc⟩ := h.row.mem hg
    rw [hm] at hc; cases hc
  have ne' : ∀ g cs T, w.heap[g]? = some (.cells cs T (0, 0)) → T ≠ 90 → av.ownBlock ≠ some g := fun g cs T hc ht hg => by
    obtain ⟨ds, hd⟩ := h.row.mem hg
    rw [hd] at hc; cases hc; exact ht rfl
  refine ⟨⟨lv, tv, h1.same (he p (.inl h4) (ne' p _ _ h1 (by decide))), h2.same fun b hb => he b (.inl (h5 b hb)) (ne b (h2.mem hb)), h3.same fun b hb => he b (.inl (h6 b hb)) (ne b (h3.mem hb)), h4, h5, h6, h7⟩, hr, ⟨h.acts.1, fun k hk => ?_⟩, h.room, h.fine, h.small, fun g hg => Nat.lt_of_lt_of_le (h.mem g hg) hs, h.apart⟩
  obtain ⟨f, k1, k2⟩ := h.acts.2 k hk
  refine ⟨f, k1, ?_⟩
  revert k2
  generalize A[k] = x
  intro k2
  cases x with
  | create k n =>
    obtain ⟨c, d, q1, q2, q3, q4, q5⟩ := k2
    exact ⟨c, d, q1, (he c (.inr q4) (ne' c _ _ q2 (by decide))).trans q2, (he d (.inr q5) (ne' d _ _ q3 (by decide))).trans q3, q4, q5⟩
  | rename a b n =>
    obtain ⟨c, d, e, q1, q2, q3, q4, q5, q6, q7⟩ := k2
    exact ⟨c, d, e, q1, (he c (.inr q5) (ne' c _ _ q2 (by decide))).trans q2, (he d (.inr q6) (ne' d _ _ q3 (by decide))).trans q3, (he e (.inr q7) (ne' e _ _ q4 (by decide))).trans q4, q5, q6, q7⟩
  | remove k =>
    obtain ⟨c, q1, q2, q3⟩ := k2
    exact ⟨c, q1, (he c (.inr q3) (ne' c _ _ q2 (by decide))).trans q2, q3⟩
theorem FolderIn.same {w w' : World} {p : Nat} {L0 : Names} {A : List FAct} {n : Nat} {av : Value} {fs : List Value} {M I : Nat → Prop} (h : FolderIn w p L0 A n av fs M I) (he : ∀ g, M g ∨ I g → w'.heap[g]? = w.heap[g]?) (hs : w.heap.size ≤ w'.heap.size) : FolderIn w' p L0 A n av fs M I :=
  h.same_row (fun g hg _ => he g hg) (h.row.same fun g hg => by
    rcases h.room g hg with k | k
    · exact he g (.inl k)
    · exact he g (.inr k.1)) hs
theorem FolderIn.kept {w w' : World} {p : Nat} {L0 : Names} {A : List FAct} {n : Nat} {av : Value} {fs : List Value} {M I N : Nat → Prop} (h : FolderIn w p L0 A n av fs M I) (hk : Kept N w w') (hn : ∀ g, M g ∨ I g → ¬ N g) : FolderIn w' p L0 A n av fs M I :=
  h.same (fun g hg => hk.block g (h.mem g hg) (hn g hg)) hk.size
theorem FolderIn.below {w w' : World} {p : Nat} {L0 : Names} {A : List FAct} {n : Nat} {av : Value} {fs : List Value} {M I : Nat → Prop} (h : FolderIn w p L0 A n av fs M I) (hb : Below w.heap.size w w') : FolderIn w' p L0 A n av fs M I :=
  h.same (fun g hg => hb.block g (h.mem g hg)) hb.size
theorem FolderIn.rising {w : World} {p : Nat} {L0 : Names} {A : List FAct} {n : Nat} {av : Value} {fs : List Value} {M I : Nat → Prop} (h : FolderIn w p L0 A n av fs M I) : Rising L0 := by
  obtain ⟨lv, tv, h1, h2, _⟩ := h.it
  exact h2.rising
theorem FolderIn.rising' {w : World} {p : Nat} {L0 : Names} {A : List FAct} {n : Nat} {av : Value} {fs : List Value} {M I : Nat → Prop} (h : FolderIn w p L0 A n av fs M I) : Rising (actsOn L0 A) := actsOn_rising h.rising A

/-- The acts that a slice of such a row holds. -/
theorem ARow.acts {w : World} {v : Value} {fs : List Value} {A : List FAct} {I : Nat → Prop} (h : ARow w v fs) (hA : FActs w fs A I) {ad : Option Addr} {n c : Nat} (hv : v = .slice ad n c) : ActsIn w ad A I := fun k hk => by
  obtain ⟨f, h1, h2⟩ := hA.2 k hk
  rcases h with ⟨rfl, rfl⟩ | ⟨g, cap, cs, rfl, k1, k2, k3, k4, k5⟩
  · have := hA.1
    simp at this
    omega
  · cases hv
    refine ⟨g, 0, rfl, (Array.getElem?_eq_some_iff.1 k3).1, ⟨cs, 90, k3⟩, f, ?_, h2⟩
    have hlt : k < fs.length := by rw [hA.1]; exact hk
    have := ARow.cell (.inr ⟨g, c, cs, rfl, k1, k2, k3, k4, k5⟩) rfl hlt (w := w)
    rw [Nat.zero_add, this]
    rw [List.getElem?_eq_getElem hlt] at h1
    exact h1

set_option maxHeartbeats 1000000 in
set_option maxRecDepth 100000 in
theorem pending_any {w : World} {p : Nat} {L0 : Names} {A : List FAct} {n : Nat} {av : Value} {fs : List Value} {M I : Nat → Prop} (h : FolderIn w p L0 A n av fs M I) :
    Calls Try.prog 25 #[.pointer (some ⟨p, 0, none⟩)] w fun e w' => e = .returned (.int .i64 (A.length : Nat)) ∧ w = w' := by
  obtain ⟨lv, tv, h1, _⟩ := h.it
  have k1 := h1.at1
  obtain ⟨ad, c, rfl, _, _⟩ := h.row.shape
  rw [h.acts.1] at k1
  clear h h1
  go_enter Try.func25, Try.ntmps25
  go_wp2
  go_ret
  exact ⟨rfl, rfl⟩

set_option maxHeartbeats 1000000 in
set_option maxRecDepth 100000 in
theorem find_any {w : World} {p : Nat} {L0 : Names} {A : List FAct} {n : Nat} {av : Value} {fs : List Value} {M I : Nat → Prop} (h : FolderIn w p L0 A n av fs M I) (s : ByteArray) (hs : s.size ≤ 1000000) :
    Calls Try.prog 29 #[.pointer (some ⟨p, 0, none⟩), .string s] w fun e w' => e = .returned (.tuple #[.int .i64 (foundN (actsOn L0 A) s.data.toList : Nat), .bool (foundB (actsOn L0 A) s.data.toList)]) ∧ w = w' := by
  obtain ⟨lv, tv, h1, _, h3, _⟩ := h.it
  have k2 := h1.at2
  have hl := h3.look s hs
  obtain ⟨m, rfl⟩ := h3.shape
  clear h h1 h3
  go_enter Try.func29, Try.ntmps29
  go_wp2
  go_ret2
  exact ⟨rfl, rfl⟩

/-- May that be a name? -/
def mayB (s : ByteArray) : Bool := decide (0 < s.size ∧ s.size ≤ 64)

set_option maxHeartbeats 1000000 in
set_option maxRecDepth 100000 in
theorem may_any (s : ByteArray) (w : World) (hs : s.size ≤ 1000000) : Calls Try.prog 32 #[.string s] w fun e w' => e = .returned (.bool (mayB s)) ∧ w = w' := by
  rcases Nat.eq_zero_or_pos s.size with h0 | h0
  · have he : s = ⟨#[]⟩ := by
      cases s with | mk d => simp only [ByteArray.size] at h0; rw [Array.size_eq_zero_iff.1 h0]
    subst he
    go_enter Try.func32, Try.ntmps32
    go_wp2
    go_ret
    exact ⟨rfl, rfl⟩
  · have hne : (!s.toList.isEmpty) = true := by
      have : s.toList.length = s.size := by rw [Lib.toList_data]; exact Array.length_toList
      cases hl : s.toList with
      | nil => rw [hl] at this; simp at this; omega
      | cons a r => rfl
    by_cases h64 : s.size ≤ 64
    · have hm : mayB s = true := decide_eq_true ⟨h0, h64⟩
      rw [hm]
      go_enter Try.func32, Try.ntmps32
      go_wp2
      go_ret
      exact ⟨by simp; omega, rfl⟩
    · have hm : mayB s = false := decide_eq_false fun h => h64 h.2
      rw [hm]
      go_enter Try.func32, Try.ntmps32
      go_wp2
      go_ret
      exact ⟨by simp; omega, rfl⟩

/-- The first acts of n. -/
def upTo (n : Int) (l : Nat) : Nat := (max (min n (l : Int)) 0).toNat

set_option maxHeartbeats 1000000 in
set_option maxRecDepth 100000 in
theorem first_any {w : World} {v : Value} {fs : List Value} (h : ARow w v fs) (n : Int) (hn : -1000000 ≤ n ∧ n ≤ 1000000) (hl : fs.length ≤ 1000000) :
    Calls Try.prog 44 #[v, .int .i64 n] w fun e w' => ∃ v', e = .returned v' ∧ ARow w v' (fs.take (upTo n fs.length)) ∧ (v' = .slice none 0 0 ∨ v'.ownBlock = v.ownBlock) ∧ capOf v' = upTo n fs.length ∧ w = w' := by
  obtain ⟨ad, c, rfl, h1, h2⟩ := h.shape
  obtain ⟨u, hu⟩ : ∃ u, upTo n fs.length = u := ⟨_, rfl⟩
  have hui : (u : Int) = max (min n (fs.length : Int)) 0 := by rw [← hu]; unfold upTo; omega
  have hul : u ≤ fs.length := by omega
  rw [hu]
  obtain ⟨l, hl'⟩ : ∃ l, fs.length = l := ⟨_, rfl⟩
  have hcases : (n ≤ 0 ∧ u = 0) ∨ (0 < n ∧ n < (l : Int) ∧ n = (u : Int)) ∨ (0 < n ∧ ¬ n < (l : Int) ∧ u = l) := by omega
  have fin : ∀ v', v' = (.slice ad u u : Value) → ARow w v' (fs.take u) ∧ (v' = .slice none 0 0 ∨ v'.ownBlock = (Value.slice ad fs.length c).ownBlock) ∧ capOf v' = u := by
    rintro v' rfl
    rcases h with ⟨hv, rfl⟩ | ⟨g, cap, cs, hv, k1, k2, k3, k4, k5⟩
    · cases hv
      obtain rfl : u = 0 := by simpa using hul
      exact ⟨.inl ⟨rfl, rfl⟩, .inl rfl, rfl⟩
    · cases hv
      refine ⟨.inr ⟨g, u, cs, by rw [List.length_take, Nat.min_eq_left hul], by rw [List.length_take]; omega, by omega, k3, by omega, ?_⟩, .inr rfl, rfl⟩
      rw [List.length_take, Nat.min_eq_left hul]
      have := congrArg (List.take u) k5
      rwa [List.take_take, Nat.min_eq_left hul] at this
  rw [hl'] at h1 hul hl fin ⊢
  have FIN := Lib.hid fin
  have hcap : u ≤ c := by omega
  clear h hu hui fin hl'
  go_enter Try.func44, Try.ntmps44
  rcases hcases with ⟨h1', rfl⟩ | ⟨h1', h2', rfl⟩ | ⟨h1', h2', rfl⟩
  · rcases (by omega : n < 0 ∨ n = 0) with h0 | rfl
    · go_wp2
      go_ret
      exact ⟨_, rfl, (FIN.out _ rfl).1, (FIN.out _ rfl).2.1, (FIN.out _ rfl).2.2, rfl⟩
    · go_wp2
      go_ret
      exact ⟨_, rfl, (FIN.out _ rfl).1, (FIN.out _ rfl).2.1, (FIN.out _ rfl).2.2, rfl⟩
  · go_wp2
    go_ret
    exact ⟨_, rfl, (FIN.out _ rfl).1, (FIN.out _ rfl).2.1, (FIN.out _ rfl).2.2, rfl⟩
  · rcases (by omega : n = (u : Int) ∨ (u : Int) < n) with rfl | h0
    · go_wp2
      go_ret
      exact ⟨_, rfl, (FIN.out _ rfl).1, (FIN.out _ rfl).2.1, (FIN.out _ rfl).2.2, rfl⟩
    · go_wp2
      go_ret
      exact ⟨_, rfl, (FIN.out _ rfl).1, (FIN.out _ rfl).2.1, (FIN.out _ rfl).2.2, rfl⟩
end Go.Proofs.Ytfjgefnklelnnaa

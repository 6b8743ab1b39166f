/-
  A folder in a walk; the calls of the statements themselves: a name, the names joined, an act.
-/
import Derived.Test.YtfjgefnklelnnaaOGood
import Derived.Test.YtfjgefnklelnnaaShelf
namespace Go.Proofs.Ytfjgefnklelnnaa
open Go.RowKit Go.Shelf

theorem went_after {w w1 w' : World} {p : Nat} {S' : FS} {av : Value} {fs : List Value} {M I : Nat → Prop} (hb : Below w.heap.size w w1) (h : WentS w1 p av fs M I S' w') : WentS w p av fs M I S' w' := by
  obtain ⟨av', fs', M', I', h1, h2, h3, h4, h5⟩ := h
  have hz := hb.size
  exact ⟨av', fs', M', I', h1, fun g hg => (h2 g hg).imp_right (fun k => by omega), fun g hg => (h3 g hg).imp_right (fun k => by omega), (Kept.below hb).trans h4 (fun g hg => .inl hg), h5⟩

/-- One folder, newer than a world. -/
def Sole (w0 w : World) (p : Nat) (S : FS) : Prop := ∃ av fs M I, FolderS w p S av fs M I ∧ (∀ g, M g ∨ I g → w0.heap.size ≤ g) ∧ Below w0.heap.size w0 w ∧ S.good

theorem Sole.next {w0 w w' : World} {p : Nat} {S : FS} (h : Sole w0 w p S) (hb : Below w.heap.size w w') : Sole w0 w' p S := by
  obtain ⟨av, fs, M, I, h1, h2, h3, h4⟩ := h
  exact ⟨av, fs, M, I, FolderIn.below h1 hb, h2, Below.next h3 hb, h4⟩
theorem Sole.below {w0 w : World} {p : Nat} {S : FS} (h : Sole w0 w p S) : Below w0.heap.size w0 w := by
  obtain ⟨av, fs, M, I, h1, h2, h3, h4⟩ := h
  exact h3
theorem Sole.good {w0 w : World} {p : Nat} {S : FS} (h : Sole w0 w p S) : S.good := by
  obtain ⟨av, fs, M, I, h1, h2, h3, h4⟩ := h
  exact h4
theorem sole_went {w0 w w' : World} {p : Nat} {S' : FS} {av : Value} {fs : List Value} {M I : Nat → Prop} (h2 : ∀ g, M g ∨ I g → w0.heap.size ≤ g) (h3 : Below w0.heap.size w0 w) (hg : S'.good) (h : WentS w p av fs M I S' w') : Sole w0 w' p S' := by
  obtain ⟨av', fs', M', I', k1, k2, k3, k4, _⟩ := h
  have hz := h3.size
  refine ⟨av', fs', M', I', k1, fun g hq => ?_, h3.trans (k4.to hz fun g hm => h2 g (.inl hm)), hg⟩
  rcases hq with hq | hq
  · rcases k2 g hq with k | k
    · exact h2 g (.inl k)
    · omega
  · rcases k3 g hq with k | k
    · exact h2 g (.inr k)
    · omega
/-- A method of it. -/
theorem Sole.went {w0 w : World} {p : Nat} {S S' : FS} {f : Nat} {args : Array Value} {r : Value} (h : Sole w0 w p S) (hg : S'.good) (hq : ∀ av fs M I, FolderS w p S av fs M I → Calls Try.prog f args w fun e w' => e = .returned r ∧ WentS w p av fs M I S' w') :
    Calls Try.prog f args w fun e w' => e = .returned r ∧ Sole w0 w' p S' := by
  obtain ⟨av, fs, M, I, h1, h2, h3, h4⟩ := h
  refine (hq av fs M I h1).mono ?_
  rintro e w' ⟨rfl, k⟩
  exact ⟨rfl, sole_went h2 h3 hg k⟩
theorem Sole.read {w0 w : World} {p : Nat} {S : FS} {f : Nat} {args : Array Value} {R : Ending → World → Prop} (h : Sole w0 w p S) (hq : ∀ av fs M I, FolderS w p S av fs M I → Calls Try.prog f args w R) : Calls Try.prog f args w R := by
  obtain ⟨av, fs, M, I, h1, h2, h3, h4⟩ := h
  exact hq av fs M I h1

theorem sole_new (w0 w : World) (hb : Below w0.heap.size w0 w) : Calls Try.prog 8 #[] w fun e w' => ∃ p, e = .returned (.pointer (some ⟨p, 0, none⟩)) ∧ Sole w0 w' p FS.new := by
  refine (new_any w).mono ?_
  rintro e w' ⟨p, rfl, h1, h2, h3⟩
  have hz := hb.size
  exact ⟨p, rfl, _, _, _, _, h1, (fun g hg => Or.elim hg (fun e => by omega) False.elim), Below.next hb h3, good_new⟩

theorem sole_create {w0 w : World} {p : Nat} {S : FS} (h : Sole w0 w p S) (s : ByteArray) (hs : s.size ≤ 1000000) (hl : S.weight ≤ 90000) :
    Calls Try.prog 11 #[.pointer (some ⟨p, 0, none⟩), .string s] w fun e w' => e = .returned (.tuple #[.int .i64 ((S.create s).2.1 : Nat), .int .i64 ((S.create s).2.2 : Nat)]) ∧ Sole w0 w' p (S.create s).1 :=
  h.went (good_create h.good s) fun _ _ _ _ hf => create_any hf s hs hl
theorem sole_rename {w0 w : World} {p : Nat} {S : FS} (h : Sole w0 w p S) (a b : ByteArray) (ha : a.size ≤ 1000000) (hb : b.size ≤ 1000000) (hl : S.weight ≤ 90000) :
    Calls Try.prog 13 #[.pointer (some ⟨p, 0, none⟩), .string a, .string b] w fun e w' => e = .returned (.int .i64 ((S.rename a b).2 : Nat)) ∧ Sole w0 w' p (S.rename a b).1 :=
  h.went (good_rename h.good a b) fun _ _ _ _ hf => rename_any hf a b ha hb hl (by have := h.good.there.found a.data.toList; unfold FS.weight at hl; omega)
theorem sole_remove {w0 w : World} {p : Nat} {S : FS} (h : Sole w0 w p S) (s : ByteArray) (hs : s.size ≤ 1000000) (hl : S.weight ≤ 90000) :
    Calls Try.prog 15 #[.pointer (some ⟨p, 0, none⟩), .string s] w fun e w' => e = .returned (.int .i64 ((S.remove s).2 : Nat)) ∧ Sole w0 w' p (S.remove s).1 :=
  h.went (good_remove h.good s) fun _ _ _ _ hf => remove_any hf s hs hl
theorem sole_sync {w0 w : World} {p : Nat} {S : FS} (h : Sole w0 w p S) (hl : S.weight ≤ 90000) :
    Calls Try.prog 17 #[.pointer (some ⟨p, 0, none⟩)] w fun e w' => e = .returned (.tuple #[]) ∧ Sole w0 w' p S.sync :=
  h.went (good_sync h.good) fun _ _ _ _ hf => sync_any hf hl
theorem sole_survive {w0 w : World} {p : Nat} {S : FS} (h : Sole w0 w p S) (k : Int) (hk : -1000000 ≤ k ∧ k ≤ 1000000) (hl : S.weight ≤ 90000) :
    Calls Try.prog 20 #[.pointer (some ⟨p, 0, none⟩), .int .i64 k] w fun e w' => e = .returned (.tuple #[]) ∧ Sole w0 w' p (S.survive k) :=
  h.went (good_survive h.good k) fun _ _ _ _ hf => survive_any hf k hk hl
theorem sole_find {w0 w : World} {p : Nat} {S : FS} (h : Sole w0 w p S) (s : ByteArray) (hs : s.size ≤ 1000000) :
    Calls Try.prog 29 #[.pointer (some ⟨p, 0, none⟩), .string s] w fun e w' => e = .returned (.tuple #[.int .i64 (foundN S.there s.data.toList : Nat), .bool (foundB S.there s.data.toList)]) ∧ w = w' :=
  h.read fun _ _ _ _ hf => find_any hf s hs
theorem sole_pending {w0 w : World} {p : Nat} {S : FS} (h : Sole w0 w p S) :
    Calls Try.prog 25 #[.pointer (some ⟨p, 0, none⟩)] w fun e w' => e = .returned (.int .i64 (S.A.length : Nat)) ∧ w = w' :=
  h.read fun _ _ _ _ hf => pending_any hf

set_option maxHeartbeats 2000000 in
set_option maxRecDepth 100000 in
theorem name_any (n : Nat) (hn : n ≤ 255) (w : World) : Calls Try.prog 10 #[.int .u8 (n : Int)] w fun e w' => e = .returned (.string (nameT n)) ∧ Below w.heap.size w w' := by
  have h7 : n % 7 = 0 ∨ n % 7 = 1 ∨ n % 7 = 2 ∨ n % 7 = 3 ∨ n % 7 = 4 ∨ n % 7 = 5 ∨ n % 7 = 6 := by omega
  have hb : ∀ o, Below w.heap.size w (w.alloc o) := fun o => below_alloc' (Below.refl _ w)
  have HB := Lib.hid hb
  clear hb
  unfold nameT
  rcases h7 with h | h | h | h | h | h | h
  all_goals
    have h2 : (n : Int).tmod 7 = ((n % 7 : Nat) : Int) := by rw [Int.tmod_eq_emod_of_nonneg (by omega)]; omega
    rw [h] at h2
    rw [h]
    clear h
    go_enter Try.func10, Try.ntmps10
    go_wp2
    go_ret
    exact ⟨rfl, HB.out _⟩

/-- The names of a folder, joined by blanks. -/
def joinedN (L : Names) : List UInt8 := Lib.join (L.map (·.1)) [32]
theorem texts_data (L : Names) : (textsOf L).map (fun x : ByteArray => x.data.toList) = L.map (·.1) := by
  unfold textsOf
  rw [List.map_map]
  refine List.map_congr_left fun p _ => ?_
  simp [strO]

theorem join_length (ls : List (List UInt8)) (h : ∀ x ∈ ls, x.length ≤ 64) : (Lib.join ls [32]).length ≤ 65 * ls.length := by
  cases ls with
  | nil => simp [Lib.join_nil]
  | cons x r =>
    rw [Lib.join_cons, List.length_append]
    have h1 := h x (by simp)
    have h2 : (Lib.joinTail [32] r).length ≤ 65 * r.length := by
      unfold Lib.joinTail
      clear h1
      induction r with
      | nil => simp
      | cons y r ih =>
        have hy := h y (by simp)
        have := ih fun z hz => h z (by
          rcases List.mem_cons.1 hz with rfl | hz
          · simp
          · simp [hz])
        simp only [List.map_cons, List.flatten_cons, List.length_append, List.length_cons, List.length_nil]
        omega
    simp only [List.length_cons]
    omega

set_option maxHeartbeats 2000000 in
set_option maxRecDepth 100000 in
theorem names26_any {w : World} {p : Nat} {S : FS} {av : Value} {fs : List Value} {M I : Nat → Prop} (h : FolderS w p S av fs M I) (hl : S.weight ≤ 90000) (hg : S.good) (want : ByteArray) :
    Calls Try.prog 26 #[.pointer (some ⟨p, 0, none⟩), .string want] w fun e w' => e = .returned (.bool (decide (joinedN S.there = want.data.toList))) ∧ Below w.heap.size w w' := by
  obtain ⟨ts, hts⟩ : ∃ ts, textsOf S.there = ts := ⟨_, rfl⟩
  have Q28 := names_any h hl
  rw [hts] at Q28
  have Q28 := Lib.hid Q28
  have hjl : (Lib.join (ts.map fun x : ByteArray => x.data.toList) [32]).length ≤ 65 * ts.length := by
    rw [← hts, texts_data]
    have := join_length (S.there.map (·.1)) (fun x hx => by obtain ⟨p, hp, rfl⟩ := List.mem_map.1 hx; exact hg.there.short p hp)
    rw [List.length_map] at this
    rw [textsOf_length]
    exact this
  have htl : ts.length ≤ 90000 := by
    rw [← hts, textsOf_length]
    have := actsOn_length S.L0 S.A
    unfold FS.weight at hl
    unfold FS.there
    omega
  have hj : joinedN S.there = Lib.join (ts.map fun x : ByteArray => x.data.toList) [32] := by unfold joinedN; rw [← hts, texts_data]
  rw [hj]
  obtain ⟨J, hJ⟩ : ∃ J, strO (Lib.join (ts.map fun x : ByteArray => x.data.toList) [32]) = J := ⟨_, rfl⟩
  have hJe : decide (Lib.join (ts.map fun x : ByteArray => x.data.toList) [32] = want.data.toList) = (J.toList == want.toList) := by
    rw [← hJ, Lib.toList_data, Lib.toList_data, strO_data, Bool.eq_iff_iff]
    simp
  rw [hJe]
  have Q27 : Hid (∀ W v, W.ownsRow w.heap.size 9 1 v ts.length (ts.map Value.string) → Calls Try.prog 27 #[v, .string ⟨#[32]⟩] W fun e w' => e = .returned (.string J) ∧ Below W.heap.size W w') := Lib.hid fun W v hr => by
    rcases hr.2 with ⟨rfl, h0⟩ | ⟨g, cap, cur, rfl, _, hh, hc1, _, _, ht⟩
    · have h0 : ts = [] := List.length_eq_zero_iff.1 h0
      refine (Try.strings_Join_none none 0 ⟨#[32]⟩ W).mono ?_
      rintro e w' ⟨rfl, hb⟩
      refine ⟨?_, hb ▸ Below.refl _ _⟩
      rw [← hJ, h0]
      rfl
    · refine (Try.strings_Join g 0 cap ts ⟨#[32]⟩ W (fun j x hj => ?_) (Array.getElem?_eq_some_iff.1 hh).1 (by omega) hc1 ?_).mono ?_
      · rw [Nat.zero_add, cell_of_row W g j cur 9 (0, 0) hh, ← Array.getElem?_toList]
        have hx : (ts.map Value.string)[j]? = some (.string x) := by simp [hj]
        rw [← ht, List.getElem?_take] at hx
        split at hx
        · exact hx
        · cases hx
      · show (Lib.join (ts.map fun x : ByteArray => x.data.toList) [32]).length ≤ _
        omega
      · rintro e w' ⟨rfl, hb⟩
        exact ⟨by rw [← hJ], hb⟩
  clear hJe hj hJ hjl h hl hg hts
  go_enter Try.func26, Try.ntmps26
  go_wp2_with (first
    | (go_at_call 28; (with_reducible refine Q28.out.mono ?_); rintro e w1 ⟨v, rfl, r1, b1⟩; obtain ⟨ad, c, hv⟩ := row_shape r1; subst hv; have R1 := Lib.hid r1; have B1 := Lib.hid b1; clear r1 b1)
    | (go_at_call 27; (with_reducible refine (Q27.out _ _ R1.out).mono ?_); rintro e w2 ⟨rfl, b2⟩; have B2 := Lib.hid b2; clear b2))
  go_ret
  exact ⟨rfl, Below.next B1.out B2.out⟩

theorem sole_names {w0 w : World} {p : Nat} {S : FS} (h : Sole w0 w p S) (hl : S.weight ≤ 90000) (want : ByteArray) :
    Calls Try.prog 26 #[.pointer (some ⟨p, 0, none⟩), .string want] w fun e w' => e = .returned (.bool (decide (joinedN S.there = want.data.toList))) ∧ Below w.heap.size w w' :=
  h.read fun _ _ _ _ hf => names26_any hf hl h.good want
end Go.Proofs.Ytfjgefnklelnnaa

/-
  The document's folder, told as the program's is: what it does.
-/
import Derived.Test.YtfjgefnklelnnaaORefH
namespace Go.Proofs.Ytfjgefnklelnnaa
open Go.RowKit Go.Shelf

/-- What was there behind 0, 1, .. acts. -/
def FS.was (S : FS) : List Names := (List.range (S.A.length + 1)).map fun i => actsOn S.L0 (S.A.take i)
theorem was_length (S : FS) : S.was.length = S.A.length + 1 := by unfold FS.was; simp
theorem was_at (S : FS) (i : Nat) (h : i < S.was.length) : S.was[i] = actsOn S.L0 (S.A.take i) := by
  have h0 : i < S.A.length + 1 := by rw [← was_length]; exact h
  have h1 : S.was[i]? = some (actsOn S.L0 (S.A.take i)) := by
    unfold FS.was
    rw [List.getElem?_map, List.getElem?_range h0]
    rfl
  rw [List.getElem?_eq_getElem h] at h1
  exact Option.some.inj h1
theorem was_now (S : FS) : nowN S.was = S.there := by
  rw [nowN_at (by rw [was_length]; omega), was_at]
  rw [was_length, Nat.add_sub_cancel, List.take_length]
  rfl
theorem was_snoc (L0 : Names) (A : List FAct) (n m : Nat) (x : FAct) : FS.was ⟨L0, A ++ [x], m⟩ = FS.was ⟨L0, A, n⟩ ++ [x.on (actsOn L0 A)] := by
  unfold FS.was
  show (List.range ((A ++ [x]).length + 1)).map _ = (List.range (A.length + 1)).map _ ++ _
  rw [List.length_append, List.length_singleton, List.range_succ (n := A.length + 1), List.map_append]
  congr 1
  · refine List.map_congr_left fun i hi => ?_
    have := List.mem_range.1 hi
    rw [List.take_append_of_le_length (by omega)]
  · rw [List.map_singleton, List.take_of_length_le (by simp), actsOn_snoc]
theorem was_none (S : FS) (k : Int) : (S.survive k).was = [actsOn S.L0 (S.A.take (upTo k S.A.length))] := rfl

/-- The document's folder in memory. -/
def RefS (w : World) (q : Nat) (S : FS) (J : Nat → Prop) : Prop := RefAt w q S.was S.n J
/-- What a method leaves. -/
def WentR (w : World) (q : Nat) (J : Nat → Prop) (S' : FS) (w' : World) : Prop := ∃ J', RefS w' q S' J' ∧ (∀ g, J' g → J g ∨ w.heap.size ≤ g) ∧ Kept (fun g => g = q) w w'

theorem refS_find {w : World} {q : Nat} {S : FS} {J : Nat → Prop} (h : RefS w q S J) (s : ByteArray) :
    Calls Try.prog 35 #[.pointer (some ⟨q, 0, none⟩), .string s] w fun e w' => e = .returned (.tuple #[.int .i64 (foundN S.there s.data.toList : Nat), .bool (foundB S.there s.data.toList)]) ∧ Below w.heap.size w w' := by
  have := refFind_any h s
  rwa [was_now] at this
theorem refS_names {w : World} {q : Nat} {S : FS} {J : Nat → Prop} (h : RefS w q S J) :
    Calls Try.prog 46 #[.pointer (some ⟨q, 0, none⟩)] w fun e w' => ∃ v, e = .returned v ∧ w'.ownsRow w.heap.size 9 1 v S.there.length ((textsOf S.there).map Value.string) ∧ Below w.heap.size w w' := by
  have := refNames_any h
  rwa [was_now] at this
theorem refS_pending {w : World} {q : Nat} {S : FS} {J : Nat → Prop} (h : RefS w q S J) :
    Calls Try.prog 19 #[.pointer (some ⟨q, 0, none⟩)] w fun e w' => e = .returned (.int .i64 (S.A.length : Nat)) ∧ Below w.heap.size w w' := by
  have := refPending_any h
  rwa [was_length, Nat.add_sub_cancel] at this
theorem refS_now {w : World} {q : Nat} {S : FS} {J : Nat → Prop} (h : RefS w q S J) :
    Calls Try.prog 39 #[.pointer (some ⟨q, 0, none⟩)] w fun e w' => ∃ v, e = .returned v ∧ (w.ownsRow 0 68 2 v S.there.length (nams S.there) ∧ ∀ g, v.ownBlock = some g → J g) ∧ Below w.heap.size w w' := by
  have := refNow_any h
  rwa [was_now] at this
theorem refS_new (w : World) : Calls Try.prog 9 #[] w fun e w' => ∃ q J, e = .returned (.pointer (some ⟨q, 0, none⟩)) ∧ RefS w' q FS.new J ∧ (∀ g, J g → w.heap.size ≤ g) ∧ Below w.heap.size w w' := refNew_any w

/-- An act behind the others. -/
theorem refS_act {w : World} {q n : Nat} {L0 : Names} {A : List FAct} {J : Nat → Prop} (h : RefS w q ⟨L0, A, n⟩ J) (x : FAct) {lv : Value} (hl : w.ownsRow 0 68 2 lv (x.on (actsOn L0 A)).length (nams (x.on (actsOn L0 A)))) (hr : Rising (x.on (actsOn L0 A))) (hll : (x.on (actsOn L0 A)).length ≤ 100000) (hlen : A.length ≤ 90000) :
    Calls Try.prog 37 #[.pointer (some ⟨q, 0, none⟩), lv] w fun e w' => e = .returned (.tuple #[]) ∧ (∃ J', RefS w' q ⟨L0, A ++ [x], n⟩ J' ∧ ∀ g, J' g → J g ∨ lv.ownBlock = some g ∨ w.heap.size ≤ g) ∧ Kept (fun g => g = q) w w' := by
  have := refAct_any h hl hr hll (by rw [was_length]; show A.length + 1 < _; omega)
  rw [← was_snoc L0 A n n x] at this
  exact this

theorem RefS.lt {w : World} {q : Nat} {S : FS} {J : Nat → Prop} (h : RefS w q S J) : q < w.heap.size ∧ J q := by
  obtain ⟨_, _, _, _, _, h4, _⟩ := h.it
  exact ⟨h.mem _ h4, h4⟩

set_option maxHeartbeats 2000000 in
set_option maxRecDepth 100000 in
theorem refS_remove {w : World} {q : Nat} {S : FS} {J : Nat → Prop} (h : RefS w q S J) (s : ByteArray) (hg : S.good) (hl : S.weight ≤ 90000) :
    Calls Try.prog 16 #[.pointer (some ⟨q, 0, none⟩), .string s] w fun e w' => e = .returned (.int .i64 ((S.remove s).2 : Nat)) ∧ WentR w q J (S.remove s).1 w' := by
  have Q35 := Lib.hid (refS_find h s)
  have HH := Lib.hid h
  have hthere := S.there_length
  have hrise := hg.there.rising
  obtain ⟨L0, A, n⟩ := S
  have hwl : A.length ≤ 90000 := by unfold FS.weight at hl; simp only at hl; omega
  obtain ⟨L, hL⟩ : ∃ L, FS.there ⟨L0, A, n⟩ = L := ⟨_, rfl⟩
  have hL' : actsOn L0 A = L := hL
  cases hb : foundB L s.data.toList with
  | false =>
    have hrm : FS.remove ⟨L0, A, n⟩ s = (⟨L0, A, n⟩, 9) := by unfold FS.remove; rw [hL, if_pos hb]
    rw [hrm]
    rw [hL, hb] at Q35
    have FIN : Hid (∀ W, Below w.heap.size w W → WentR w q J ⟨L0, A, n⟩ W) := Lib.hid fun W hW => ⟨J, HH.out.below hW, fun g hg => .inl hg, Kept.below hW⟩
    clear h hrm hb
    go_enter Try.func16, Try.ntmps16
    go_wp2_with (go_at_call 35; (with_reducible refine Q35.out.mono ?_); rintro e w1 ⟨rfl, h1⟩; have H1 := Lib.hid h1; clear h1)
    go_ret
    exact ⟨rfl, FIN.out _ H1.out⟩
  | true =>
    have hrm : FS.remove ⟨L0, A, n⟩ s = (⟨L0, A ++ [.remove s], n⟩, 0) := by unfold FS.remove; rw [hL, if_neg (by rw [hb]; simp)]
    rw [hrm]
    rw [hL, hb] at Q35
    have Q39 : Hid (∀ W, Below w.heap.size w W → Calls Try.prog 39 #[.pointer (some ⟨q, 0, none⟩)] W fun e w' => ∃ v, e = .returned v ∧ Nams W v L ∧ Below W.heap.size W w') := Lib.hid fun W hW => (refS_now (HH.out.below hW)).mono fun e w' ⟨v, he, h1, h2⟩ => ⟨v, he, by have := nams_of_owns h1.1; rwa [hL] at this, h2⟩
    have Q41 : Hid (∀ W v, Nams W v L → Calls Try.prog 41 #[v, .string s] W fun e w' => ∃ v', e = .returned v' ∧ w'.ownsRow W.heap.size 68 2 v' (withoutT L s.data.toList).length (nams (withoutT L s.data.toList)) ∧ Below W.heap.size W w') := Lib.hid fun W v hv => refWithout_any L v s W hv (by rw [← hL]; omega)
    have Q37 : Hid (∀ W v', Below w.heap.size w W → W.ownsRow w.heap.size 68 2 v' (withoutT L s.data.toList).length (nams (withoutT L s.data.toList)) → Calls Try.prog 37 #[.pointer (some ⟨q, 0, none⟩), v'] W fun e w' => e = .returned (.tuple #[]) ∧ WentR w q J ⟨L0, A ++ [.remove s], n⟩ w') := Lib.hid fun W v' hW hv => by
      have hon : (FAct.remove s).on (actsOn L0 A) = withoutT L s.data.toList := by rw [hL']; rfl
      refine (refS_act (HH.out.below hW) (.remove s) (lv := v') (by rw [hon]; exact owns_weaken hv (Nat.zero_le _)) (by rw [hon, ← hL]; exact hrise.without _) (by rw [hon]; have := without_length L s.data.toList; rw [← hL] at this ⊢; omega) hwl).mono ?_
      rintro e w' ⟨rfl, ⟨J', k1, k2⟩, k3⟩
      have hz := hW.size
      refine ⟨rfl, J', k1, fun g hg => ?_, (Kept.below hW).trans k3 fun g hg => .inl hg⟩
      rcases k2 g hg with k | k | k
      · exact .inl k
      · exact .inr (hv.lt g k).1
      · exact .inr (by omega)
    clear h hrm hb hL hL' hrise
    go_enter Try.func16, Try.ntmps16
    go_wp2_with (first
      | (go_at_call 35; (with_reducible refine Q35.out.mono ?_); rintro e w1 ⟨rfl, h1⟩; have H1 := Lib.hid h1; clear h1)
      | (go_at_call 39; (with_reducible refine (Q39.out _ H1.out).mono ?_); rintro e w2 ⟨v, rfl, n2, h2⟩; have H2 := Lib.hid (Below.next H1.out h2); have N2 := Lib.hid (n2.below h2); clear n2 h2)
      | (go_at_call 41; (with_reducible refine (Q41.out _ _ N2.out).mono ?_); rintro e w3 ⟨v3, rfl, o3, h3⟩; have H3 := Lib.hid (Below.next H2.out h3); have O3 := Lib.hid (owns_weaken o3 H2.out.size); clear o3 h3)
      | (go_at_call 37; (with_reducible refine (Q37.out _ _ H3.out O3.out).mono ?_); rintro e w4 ⟨rfl, h4⟩; have H4 := Lib.hid h4; clear h4))
    go_ret
    exact ⟨rfl, H4.out⟩
end Go.Proofs.Ytfjgefnklelnnaa

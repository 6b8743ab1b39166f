/-
  The document's folder: a creation, what survives.
-/
import Derived.Test.YtfjgefnklelnnaaORefT
namespace Go.Proofs.Ytfjgefnklelnnaa
open Go.RowKit Go.Shelf

/-- Another greatest number. -/
theorem ref_count {w : World} {q n m : Nat} {Ws : List Names} {J : Nat → Prop} (h : RefAt w q Ws n J) (hm : m ≤ 100000) : RefAt (w.setCell ⟨q, 1, none⟩ (.int .i64 (m : Int))) q Ws m J := by
  obtain ⟨av, vs, h1, h2, h3, h4, h5, h6⟩ := h.it
  have hne : ∀ g, (∃ cs T, w.heap[g]? = some (.cells cs T (0, 0)) ∧ T ≠ 59) → g ≠ q := fun g ⟨cs, T, hg, ht⟩ e => by
    subst e
    rw [h1] at hg
    cases hg
    exact ht rfl
  refine ⟨⟨av, vs, setCell_heap h1 1 _, owns_same h2 fun g hg => heap_setCell_ne ?_, h3, h4, h5, fun i hi => ?_⟩, h.some, h.rising, ⟨h.small.1, hm, h.small.2.2⟩, fun g hg => Nat.lt_of_lt_of_le (h.mem g hg) (grown_setCell _ _ _ _).size⟩
  · obtain ⟨cs, hcs⟩ := owns_mem h2 hg
    exact hne g ⟨cs, 64, hcs, by decide⟩
  · obtain ⟨v, k1, k2, k3⟩ := h6 i hi
    refine ⟨v, k1, owns_same k2 fun g hg => heap_setCell_ne ?_, k3⟩
    obtain ⟨cs, hcs⟩ := owns_mem k2 hg
    exact hne g ⟨cs, 68, hcs, by decide⟩

theorem ref_cells {w : World} {q n : Nat} {Ws : List Names} {J : Nat → Prop} (h : RefAt w q Ws n J) : w.cell? ⟨q, 1, none⟩ = some (.int .i64 (n : Int)) ∧ w.frozen? ⟨q, 1, none⟩ = false := by
  obtain ⟨av, vs, h1, _⟩ := h.it
  exact ⟨by rw [cell_of_row w q 1 _ 59 (0, 0) h1]; rfl, by simp [World.frozen?, h1]⟩

set_option maxHeartbeats 2000000 in
set_option maxRecDepth 100000 in
theorem refS_create {w : World} {q : Nat} {S : FS} {J : Nat → Prop} (h : RefS w q S J) (t : ByteArray) (ht : t.size ≤ 1000000) (hg : S.good) (hl : S.weight ≤ 90000) :
    Calls Try.prog 12 #[.pointer (some ⟨q, 0, none⟩), .string t] w fun e w' => e = .returned (.tuple #[.int .i64 ((S.create t).2.1 : Nat), .int .i64 ((S.create t).2.2 : Nat)]) ∧ WentR w q J (S.create t).1 w' := by
  have Q35 := Lib.hid (refS_find h t)
  have Q36 := Lib.hid (refMay_any t ht)
  have HH := Lib.hid h
  have hthere := S.there_length
  have hrise := hg.there.rising
  obtain ⟨L0, A, n⟩ := S
  have hwl : A.length ≤ 90000 ∧ n ≤ 90000 := by unfold FS.weight at hl; simp only at hl; omega
  obtain ⟨L, hL⟩ : ∃ L, FS.there ⟨L0, A, n⟩ = L := ⟨_, rfl⟩
  have hL' : actsOn L0 A = L := hL
  have FIN0 : Hid (∀ W, Below w.heap.size w W → WentR w q J ⟨L0, A, n⟩ W) := Lib.hid fun W hW => ⟨J, HH.out.below hW, fun g hg => .inl hg, Kept.below hW⟩
  obtain ⟨m, hm⟩ : ∃ m, foundN L t.data.toList = m := ⟨_, rfl⟩
  rw [hL, hm] at Q35
  cases hmay : mayB t with
  | false =>
    have hrm : FS.create ⟨L0, A, n⟩ t = (⟨L0, A, n⟩, 0, 2) := by unfold FS.create; rw [if_pos hmay]
    rw [hrm]
    rw [hmay] at Q36
    clear h hrm hmay
    go_enter Try.func12, Try.ntmps12
    go_wp2_with (first
      | (go_at_call 35; (with_reducible refine Q35.out.mono ?_); rintro e w1 ⟨rfl, h1⟩; have H1 := Lib.hid h1; clear h1)
      | (go_at_call 36; (with_reducible refine (Q36.out _).mono ?_); rintro e w2 ⟨rfl, rfl⟩))
    go_ret2
    exact ⟨rfl, FIN0.out _ H1.out⟩
  | true =>
    rw [hmay] at Q36
    cases hb : foundB L t.data.toList with
    | true =>
      have hrm : FS.create ⟨L0, A, n⟩ t = (⟨L0, A, n⟩, 0, 8) := by unfold FS.create; rw [if_neg (by rw [hmay]; simp), hL, if_pos hb]
      rw [hrm]
      rw [hb] at Q35
      clear h hrm hb hmay
      go_enter Try.func12, Try.ntmps12
      go_wp2_with (first
        | (go_at_call 35; (with_reducible refine Q35.out.mono ?_); rintro e w1 ⟨rfl, h1⟩; have H1 := Lib.hid h1; clear h1)
        | (go_at_call 36; (with_reducible refine (Q36.out _).mono ?_); rintro e w2 ⟨rfl, rfl⟩))
      go_ret2
      exact ⟨rfl, FIN0.out _ H1.out⟩
    | false =>
      have hrm : FS.create ⟨L0, A, n⟩ t = (⟨L0, A ++ [.create t (n + 1)], n + 1⟩, n + 1, 0) := by unfold FS.create; rw [if_neg (by rw [hmay]; simp), hL, if_neg (by rw [hb]; simp)]
      rw [hrm]
      rw [hb] at Q35
      obtain ⟨n1, hn1⟩ : ∃ n1, n + 1 = n1 := ⟨_, rfl⟩
      rw [hn1]
      have hn1i : (n : Int) + 1 = (n1 : Int) := by omega
      have hr2 : Rising L := by rw [← hL]; exact hrise
      have hLl : L.length ≤ 90000 := by rw [← hL]; omega
      have HP : Hid (∀ W, Below w.heap.size w W → W.cell? ⟨q, 1, none⟩ = some (.int .i64 (n : Int)) ∧ W.frozen? ⟨q, 1, none⟩ = false) := Lib.hid fun W hW => ref_cells (HH.out.below hW)
      have HS : Hid (∀ w1, Below w.heap.size w w1 → RefS (w1.setCell ⟨q, 1, none⟩ (.int .i64 (n1 : Int))) q ⟨L0, A, n1⟩ J ∧ Kept (fun g => g = q) w (w1.setCell ⟨q, 1, none⟩ (.int .i64 (n1 : Int)))) := Lib.hid fun w1 hb1 => ⟨ref_count (HH.out.below hb1) (by omega), (Kept.below hb1).trans (Kept.grown (grown_setCell _ _ _ _) (M := fun g => g = q) (fun g hg => by cases hg; rfl)) (fun g hg => .inl hg)⟩
      have Q39 : Hid (∀ W, RefS W q ⟨L0, A, n1⟩ J → Calls Try.prog 39 #[.pointer (some ⟨q, 0, none⟩)] W fun e w' => ∃ v, e = .returned v ∧ Nams W v L ∧ Below W.heap.size W w') := Lib.hid fun W hW => (refS_now hW).mono fun e w' ⟨v, he, h1, h2⟩ => ⟨v, he, by have := nams_of_owns h1.1; rwa [show FS.there ⟨L0, A, n1⟩ = L from hL'] at this, h2⟩
      have Q38 : Hid (∀ W v, Nams W v L → Calls Try.prog 38 #[v, .agg #[.string t, .int .i64 (n1 : Nat)]] W fun e w' => ∃ v', e = .returned v' ∧ w'.ownsRow W.heap.size 68 2 v' (withT L t.data.toList n1).length (nams (withT L t.data.toList n1)) ∧ Below W.heap.size W w') := Lib.hid fun W v hv => by
        have := refWith_any L hr2 v (t.data.toList, n1) W hv (by omega)
        rw [show strO (t.data.toList, n1).1 = t from strO_of t] at this
        exact this
      have Q37 : Hid (∀ W v', RefS W q ⟨L0, A, n1⟩ J → Kept (fun g => g = q) w W → W.ownsRow w.heap.size 68 2 v' (withT L t.data.toList n1).length (nams (withT L t.data.toList n1)) → Calls Try.prog 37 #[.pointer (some ⟨q, 0, none⟩), v'] W fun e w' => e = .returned (.tuple #[]) ∧ WentR w q J ⟨L0, A ++ [.create t n1], n1⟩ w') := Lib.hid fun W v' hW hk hv => by
        have hon : (FAct.create t n1).on (actsOn L0 A) = withT L t.data.toList n1 := by rw [hL']; rfl
        refine (refS_act hW (.create t n1) (lv := v') (by rw [hon]; exact owns_weaken hv (Nat.zero_le _)) (by rw [hon]; exact hr2.with _ _) (by rw [hon]; have := with_length (L := L) t.data.toList n1; omega) hwl.1).mono ?_
        rintro e w' ⟨rfl, ⟨J', k1, k2⟩, k3⟩
        have hz := hk.size
        refine ⟨rfl, J', k1, fun g hg => ?_, hk.trans k3 fun g hg => .inl hg⟩
        rcases k2 g hg with k | k | k
        · exact .inl k
        · exact .inr (hv.lt g k).1
        · exact .inr (by omega)
      clear h hrm hb hL hrise hmay hL' hr2
      go_enter Try.func12, Try.ntmps12
      go_upto_region 7 with (first
        | (go_at_call 35; (with_reducible refine Q35.out.mono ?_); rintro e w1 ⟨rfl, h1⟩; have H1 := Lib.hid h1; obtain ⟨c1, f1⟩ := HP.out _ h1; clear h1)
        | (go_at_call 36; (with_reducible refine (Q36.out _).mono ?_); rintro e w1' ⟨rfl, rfl⟩))
      obtain ⟨hs2, hk2⟩ := HS.out _ H1.out
      clear c1 f1
      generalize w1.setCell ⟨q, 1, none⟩ (.int .i64 (n1 : Int)) = W2 at hs2 hk2 ⊢
      have HS2 : Hid (∀ W, Below W2.heap.size W2 W → RefS W q ⟨L0, A, n1⟩ J ∧ Kept (fun g => g = q) w W) := Lib.hid fun W hW => ⟨hs2.below hW, hk2.trans (Kept.below hW) fun g hg => .inl hg⟩
      have hz2 := hk2.size
      obtain ⟨k1, _⟩ := ref_cells hs2
      clear hs2 hk2 HS HP Q35 Q36
      go_region_with (first
        | (go_at_call 39; (with_reducible refine (Q39.out _ (HS2.out _ (below_drewO (Below.refl _ _))).1).mono ?_); rintro e w3 ⟨v, rfl, n3, h3⟩; obtain ⟨ad3, cp3, hv3, _⟩ := nams_cell n3; subst hv3; have H3 := Lib.hid (Below.next (below_drewO (Below.refl _ _)) h3); have N3 := Lib.hid (n3.below h3); obtain ⟨k3, _⟩ := ref_cells (HS2.out _ H3.out).1; clear n3 h3)
        | (go_at_call 38; (with_reducible refine (Q38.out _ _ N3.out).mono ?_); rintro e w5 ⟨v5, rfl, o5, h5⟩; obtain ⟨ad5, cp5, hv5⟩ := row_shape o5; subst hv5; have H5 := Lib.hid (Below.next H3.out h5); have O5 := Lib.hid (owns_weaken (base' := w.heap.size) o5 (Nat.le_trans hz2 H3.out.size)); clear o5 h5)
        | (go_at_call 37; (with_reducible refine (Q37.out _ _ (HS2.out _ H5.out).1 (HS2.out _ H5.out).2 O5.out).mono ?_); rintro e w4 ⟨rfl, ⟨J', r4, q4, p4⟩⟩; obtain ⟨k4, _⟩ := ref_cells r4; have H4 := Lib.hid (And.intro r4 (And.intro q4 p4)); clear r4 q4 p4))
      all_goals
        go_wp2
        go_ret2
        exact ⟨rfl, J', H4.out⟩
end Go.Proofs.Ytfjgefnklelnnaa

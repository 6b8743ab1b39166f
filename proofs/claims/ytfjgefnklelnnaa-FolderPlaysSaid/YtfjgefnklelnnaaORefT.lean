/-
  The document's folder: a renaming, a creation, what survives.
-/
import Derived.Test.YtfjgefnklelnnaaORefS
namespace Go.Proofs.Ytfjgefnklelnnaa
open Go.RowKit Go.Shelf

set_option maxHeartbeats 2000000 in
set_option maxRecDepth 100000 in
theorem refS_rename {w : World} {q : Nat} {S : FS} {J : Nat → Prop} (h : RefS w q S J) (s t : ByteArray) (ht : t.size ≤ 1000000) (hg : S.good) (hl : S.weight ≤ 90000) :
    Calls Try.prog 14 #[.pointer (some ⟨q, 0, none⟩), .string s, .string t] w fun e w' => e = .returned (.int .i64 ((S.rename s t).2 : Nat)) ∧ WentR w q J (S.rename s t).1 w' := by
  have Q35 := Lib.hid (refS_find h s)
  have Q36 := Lib.hid (refMay_any t ht)
  have HH := Lib.hid h
  have hthere := S.there_length
  have hrise := hg.there.rising
  obtain ⟨L0, A, n⟩ := S
  have hwl : A.length ≤ 90000 := by unfold FS.weight at hl; simp only at hl; omega
  obtain ⟨L, hL⟩ : ∃ L, FS.there ⟨L0, A, n⟩ = L := ⟨_, rfl⟩
  have hL' : actsOn L0 A = L := hL
  have FIN0 : Hid (∀ W, Below w.heap.size w W → WentR w q J ⟨L0, A, n⟩ W) := Lib.hid fun W hW => ⟨J, HH.out.below hW, fun g hg => .inl hg, Kept.below hW⟩
  obtain ⟨m, hm⟩ : ∃ m, foundN L s.data.toList = m := ⟨_, rfl⟩
  rw [hL, hm] at Q35
  cases hmay : mayB t with
  | false =>
    have hrm : FS.rename ⟨L0, A, n⟩ s t = (⟨L0, A, n⟩, 2) := by unfold FS.rename; rw [if_pos hmay]
    rw [hrm]
    rw [hmay] at Q36
    clear h hrm hmay
    go_enter Try.func14, Try.ntmps14
    go_wp2_with (first
      | (go_at_call 35; (with_reducible refine Q35.out.mono ?_); rintro e w1 ⟨rfl, h1⟩; have H1 := Lib.hid h1; clear h1)
      | (go_at_call 36; (with_reducible refine (Q36.out _).mono ?_); rintro e w2 ⟨rfl, rfl⟩))
    go_ret
    exact ⟨rfl, FIN0.out _ H1.out⟩
  | true =>
    rw [hmay] at Q36
    cases hb : foundB L s.data.toList with
    | false =>
      have hrm : FS.rename ⟨L0, A, n⟩ s t = (⟨L0, A, n⟩, 9) := by unfold FS.rename; rw [if_neg (by rw [hmay]; simp), hL, if_pos hb]
      rw [hrm]
      rw [hb] at Q35
      clear h hrm hb hmay
      go_enter Try.func14, Try.ntmps14
      go_wp2_with (first
        | (go_at_call 35; (with_reducible refine Q35.out.mono ?_); rintro e w1 ⟨rfl, h1⟩; have H1 := Lib.hid h1; clear h1)
        | (go_at_call 36; (with_reducible refine (Q36.out _).mono ?_); rintro e w2 ⟨rfl, rfl⟩))
      go_ret
      exact ⟨rfl, FIN0.out _ H1.out⟩
    | true =>
      have hrm : FS.rename ⟨L0, A, n⟩ s t = (⟨L0, A ++ [.rename s t m], n⟩, 0) := by unfold FS.rename; rw [if_neg (by rw [hmay]; simp), hL, if_neg (by rw [hb]; simp), hm]
      rw [hrm]
      rw [hb] at Q35
      obtain ⟨L2, hL2⟩ : ∃ L2, withoutT L s.data.toList = L2 := ⟨_, rfl⟩
      have hr2 : Rising L2 := by rw [← hL2, ← hL]; exact hrise.without _
      have hl2 : L2.length ≤ 90000 := by have := without_length L s.data.toList; rw [hL2, ← hL] at this; omega
      have Q39 : Hid (∀ W, Below w.heap.size w W → Calls Try.prog 39 #[.pointer (some ⟨q, 0, none⟩)] W fun e w' => ∃ v, e = .returned v ∧ Nams W v L ∧ Below W.heap.size W w') := Lib.hid fun W hW => (refS_now (HH.out.below hW)).mono fun e w' ⟨v, he, h1, h2⟩ => ⟨v, he, by have := nams_of_owns h1.1; rwa [hL] at this, h2⟩
      have Q41 : Hid (∀ W v, Nams W v L → Calls Try.prog 41 #[v, .string s] W fun e w' => ∃ v', e = .returned v' ∧ Nams w' v' L2 ∧ Below W.heap.size W w') := Lib.hid fun W v hv => (refWithout_any L v s W hv (by rw [← hL]; omega)).mono fun e w' ⟨v', he, h1, h2⟩ => ⟨v', he, by rw [hL2] at h1; exact nams_of_owns h1, h2⟩
      have Q38 : Hid (∀ W v, Nams W v L2 → Calls Try.prog 38 #[v, .agg #[.string t, .int .i64 (m : Nat)]] W fun e w' => ∃ v', e = .returned v' ∧ w'.ownsRow W.heap.size 68 2 v' (withT L2 t.data.toList m).length (nams (withT L2 t.data.toList m)) ∧ Below W.heap.size W w') := Lib.hid fun W v hv => by
        have := refWith_any L2 hr2 v (t.data.toList, m) W hv (by omega)
        rw [show strO (t.data.toList, m).1 = t from strO_of t] at this
        exact this
      have Q37 : Hid (∀ W v', Below w.heap.size w W → W.ownsRow w.heap.size 68 2 v' (withT L2 t.data.toList m).length (nams (withT L2 t.data.toList m)) → Calls Try.prog 37 #[.pointer (some ⟨q, 0, none⟩), v'] W fun e w' => e = .returned (.tuple #[]) ∧ WentR w q J ⟨L0, A ++ [.rename s t m], n⟩ w') := Lib.hid fun W v' hW hv => by
        have hon : (FAct.rename s t m).on (actsOn L0 A) = withT L2 t.data.toList m := by rw [hL', ← hL2]; rfl
        refine (refS_act (HH.out.below hW) (.rename s t m) (lv := v') (by rw [hon]; exact owns_weaken hv (Nat.zero_le _)) (by rw [hon]; exact hr2.with _ _) (by rw [hon]; have := with_length (L := L2) t.data.toList m; omega) hwl).mono ?_
        rintro e w' ⟨rfl, ⟨J', k1, k2⟩, k3⟩
        have hz := hW.size
        refine ⟨rfl, J', k1, fun g hg => ?_, (Kept.below hW).trans k3 fun g hg => .inl hg⟩
        rcases k2 g hg with k | k | k
        · exact .inl k
        · exact .inr (hv.lt g k).1
        · exact .inr (by omega)
      clear h hrm hb hL hL' hrise hmay hL2 hr2
      go_enter Try.func14, Try.ntmps14
      go_wp2_with (first
        | (go_at_call 35; (with_reducible refine Q35.out.mono ?_); rintro e w1 ⟨rfl, h1⟩; have H1 := Lib.hid h1; clear h1)
        | (go_at_call 36; (with_reducible refine (Q36.out _).mono ?_); rintro e w1' ⟨rfl, rfl⟩)
        | (go_at_call 39; (with_reducible refine (Q39.out _ H1.out).mono ?_); rintro e w2 ⟨v, rfl, n2, h2⟩; have H2 := Lib.hid (Below.next H1.out h2); have N2 := Lib.hid (n2.below h2); clear n2 h2)
        | (go_at_call 41; (with_reducible refine (Q41.out _ _ N2.out).mono ?_); rintro e w3 ⟨v3, rfl, n3, h3⟩; have H3 := Lib.hid (Below.next H2.out h3); have N3 := Lib.hid n3; clear n3 h3)
        | (go_at_call 38; (with_reducible refine (Q38.out _ _ N3.out).mono ?_); rintro e w5 ⟨v5, rfl, o5, h5⟩; have H5 := Lib.hid (Below.next H3.out h5); have O5 := Lib.hid (owns_weaken o5 H3.out.size); clear o5 h5)
        | (go_at_call 37; (with_reducible refine (Q37.out _ _ H5.out O5.out).mono ?_); rintro e w4 ⟨rfl, h4⟩; have H4 := Lib.hid h4; clear h4))
      go_ret
      exact ⟨rfl, H4.out⟩
end Go.Proofs.Ytfjgefnklelnnaa

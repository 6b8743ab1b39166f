/-
  A file of its own, alike: the call.
-/
import Derived.Test.YtloijbhilfbliaaFCopy
import Derived.Deep.RegionHeld3
namespace Go.Proofs.Ytloijbhilfbliaa
open Go.RowKit Go.Shelf

theorem owns_below {w w' : World} {base size n : Nat} {e : TypeId} {v : Value} {xs : List Value} (h : w.ownsRow base e size v n xs) (hb : Below w.heap.size w w') : w'.ownsRow base e size v n xs :=
  owns_same h fun g hg => by
    obtain ⟨cs, hc⟩ := owns_mem h hg
    exact hb.block g (Array.getElem?_eq_some_iff.1 hc).1

theorem below_drew'' {w0 w : World} (h : Below w0.heap.size w0 w) : Below w0.heap.size w0 w.drew := h.trans ⟨rfl, rfl, rfl, Nat.le_refl _, fun _ _ => rfl⟩

/-- What a copy is, where its three parts are made one behind the other. -/
theorem copy_end {w w1 w2 w3 wa wb : World} {p : Nat} {D : List UInt8} {A : List Do} {M I : Nat → Prop} {dv av rv : Value} {fs : List Value} (h : FileAt w p D A M I) (hA : ActsAt w fs A I)
    (b0 : Below w.heap.size w w1) (f1 : ∀ g, dv.ownBlock = some g → w.heap.size ≤ g) (r1 : BRow w1 dv D) (ba : Below w1.heap.size w1 wa)
    (o2 : w2.ownsRow wa.heap.size 61 1 av A.length fs) (b2 : Below wa.heap.size wa w2) (bb : Below w2.heap.size w2 wb)
    (f3 : ∀ g, rv.ownBlock = some g → wb.heap.size ≤ g) (r3 : BRow w3 rv (reads D A)) (b3 : Below wb.heap.size wb w3) :
    ∃ M', FileAt (w3.alloc (.cells #[dv, av, rv] 57)) w3.heap.size D A M' I ∧ (∀ g, M' g → w.heap.size ≤ g) ∧ Below w.heap.size w (w3.alloc (.cells #[dv, av, rv] 57)) := by
  have z0 := b0.size
  have z1 := ba.size
  have z2 := b2.size
  have zb := bb.size
  have z3 := b3.size
  have e13 : Below w1.heap.size w1 w3 := Below.next (Below.next (Below.next ba b2) bb) b3
  have e03 : Below w.heap.size w w3 := Below.next b0 e13
  have e04 : Below w.heap.size w (w3.alloc (.cells #[dv, av, rv] 57)) := below_alloc' e03
  have e14 : Below w1.heap.size w1 (w3.alloc (.cells #[dv, av, rv] 57)) := below_alloc' e13
  have e24 : Below w2.heap.size w2 (w3.alloc (.cells #[dv, av, rv] 57)) := below_alloc' (Below.next bb b3)
  have e34 : Below w3.heap.size w3 (w3.alloc (.cells #[dv, av, rv] 57)) := below_alloc' (Below.refl _ _)
  have s4 : w3.heap.size < (w3.alloc (.cells #[dv, av, rv] 57)).heap.size := by simp
  have R1 := r1.below e14
  have R3 := r3.below e34
  have O2 := owns_base (owns_below o2 e24)
  have l1 : ∀ g, dv.ownBlock = some g → g < w1.heap.size := fun g hg => r1.own_lt g hg
  have l3 : ∀ g, rv.ownBlock = some g → g < w3.heap.size := fun g hg => r3.own_lt g hg
  have l2 : ∀ g, av.ownBlock = some g → g < w2.heap.size := fun g hg => by
    obtain ⟨cs, hc⟩ := owns_mem o2 hg
    exact (Array.getElem?_eq_some_iff.1 hc).1
  have f2 := owns_new o2
  refine ⟨fun g => g = w3.heap.size ∨ dv.ownBlock = some g ∨ av.ownBlock = some g ∨ rv.ownBlock = some g, ⟨⟨dv, av, rv, fs, heap_alloc_new w3 _, R1, R3, O2, ?_, ?_, .inl rfl, fun g hg => .inr (.inl hg), fun g hg => .inr (.inr (.inr hg)), fun g hg => .inr (.inr (.inl hg))⟩, h.fits, h.small, ?_, ?_⟩, ?_, e04⟩
  · exact hA.same (fun g hg => e04.block g (h.mem g (.inr hg))) (fun _ h => h)
  · intro he
    cases hd : dv.ownBlock with
    | none =>
      have hr : rv.ownBlock = none := by rw [← he, hd]
      rcases r1 with ⟨rfl, rfl⟩ | ⟨g, cap, cs, rfl, _⟩
      · rcases r3 with ⟨rfl, hn⟩ | ⟨g, cap, cs, rfl, _⟩
        · exact ⟨rfl, List.nil_prefix⟩
        · cases hr
      · cases hd
    | some g =>
      have hr : rv.ownBlock = some g := by rw [← he, hd]
      have := l1 g hd
      have := f3 g hr
      omega
  · rintro g ((rfl | hg | hg | hg) | hg)
    · exact s4
    · have := l1 g hg; have := e13.size; omega
    · have := l2 g hg; omega
    · have := l3 g hg; omega
    · have := h.mem g (.inr hg); have := e03.size; omega
  · rintro g hg hm
    have hl := h.mem g (.inr hg)
    rcases hm with rfl | hm | hm | hm
    · have := e03.size; omega
    · have := f1 g hm; omega
    · have := f2 g hm; omega
    · have := f3 g hm; omega
  · rintro g (rfl | hm | hm | hm)
    · have := e03.size; omega
    · exact f1 g hm
    · have := f2 g hm; omega
    · have := f3 g hm; omega

set_option maxHeartbeats 1000000 in
set_option maxRecDepth 100000 in
theorem copy_any {w : World} {p : Nat} {D : List UInt8} {A : List Do} {M I : Nat → Prop} (h : FileAt w p D A M I) (hlen : A.length ≤ 1000) :
    Calls Try.prog 8 #[.pointer (some ⟨p, 0, none⟩)] w fun e w' => ∃ q M', e = .returned (.pointer (some ⟨q, 0, none⟩)) ∧ FileAt w' q D A M' I ∧ (∀ g, M' g → w.heap.size ≤ g) ∧ Below w.heap.size w w' := by
  obtain ⟨dv, av, rv, fs, ht, hd, hr, ha, hA, hs, m0, m1, m2, m3⟩ := id h.it
  have ht : Trio w p dv av rv := ht
  have hpl := ht.lt
  have hsm := h.small
  have hLb := Nat.le_trans (reads_length D A) (Nat.le_refl _)
  have hDb : D.length ≤ bulk D A := by unfold bulk; omega
  have Qd : Hid (∀ W, Below w.heap.size w W → Calls Try.prog 24 #[dv] W fun e w' => ∃ v', e = .returned v' ∧ BRow w' v' D ∧ Below W.heap.size W w' ∧ (∀ g, v'.ownBlock = some g → W.heap.size ≤ g)) := Lib.hid fun W hW => by
    refine (clone_any (hd.below hW) (by omega)).mono ?_
    rintro e w' ⟨v', h1, h2, h3, h4, _⟩
    exact ⟨v', h1, h2, h3, h4⟩
  have Qr : Hid (∀ W, Below w.heap.size w W → Calls Try.prog 24 #[rv] W fun e w' => ∃ v', e = .returned v' ∧ BRow w' v' (reads D A) ∧ Below W.heap.size W w' ∧ (∀ g, v'.ownBlock = some g → W.heap.size ≤ g)) := Lib.hid fun W hW => by
    refine (clone_any (hr.below hW) (by omega)).mono ?_
    rintro e w' ⟨v', h1, h2, h3, h4, _⟩
    exact ⟨v', h1, h2, h3, h4⟩
  have Qa : Hid (∀ W, Below w.heap.size w W → Calls Try.prog 25 #[av] W fun e w' => ∃ v', e = .returned v' ∧ w'.ownsRow W.heap.size 61 1 v' A.length fs ∧ Below W.heap.size W w') := Lib.hid fun W hW => clone_acts (owns_below ha hW) (by omega) (acts_one hA)
  have HP : Hid (∀ W, Below w.heap.size w W → W.cell? ⟨p, 0, none⟩ = some dv ∧ W.cell? ⟨p, 1, none⟩ = some av ∧ W.cell? ⟨p, 2, none⟩ = some rv) := Lib.hid fun W hW => by
    have t : Trio W p _ _ _ := (hW.block p hpl).trans ht
    exact ⟨t.at0, t.at1, t.at2⟩
  have HFA := Lib.hid (And.intro h hA)
  obtain ⟨k0, k1, k2⟩ := HP.out w (Below.refl _ w)
  clear h ht hd hr ha hA hs m0 m1 m2 m3
  go_enter Try.func8, Try.ntmps8
  go_upto_region 3 with fail
  go_region_held3 (fun W => W.cell? ⟨p, 0, none⟩ = some dv ∧ W.cell? ⟨p, 1, none⟩ = some av ∧ W.cell? ⟨p, 2, none⟩ = some rv ∧ Below w.heap.size w W)
    ((refine (fun hB => ⟨(HP.out _ hB).1, (HP.out _ hB).2.1, (HP.out _ hB).2.2, hB⟩ : Below w.heap.size w _ → _) ?_; repeat (first | with_reducible exact Below.refl _ _ | (with_reducible apply below_drew'') | (with_reducible apply below_alloc') | (with_reducible apply N1) | (with_reducible apply N2) | (with_reducible apply N3))))
    (first
      | (go_at_call 24; (with_reducible refine Calls.mono (Qd.out _ (by repeat (first | with_reducible exact Below.refl _ _ | (with_reducible apply below_drew'') | (with_reducible apply N1) | (with_reducible apply N2) | (with_reducible apply N3)))) ?_); rintro e w1 ⟨v1, rfl, r1, b1, f1⟩; obtain ⟨ad1, c1, rfl, _, _⟩ := r1.shape; have N1 := fun (u : World) (h : Below u.heap.size u _) => Below.next h b1)
      | (go_at_call 25; (with_reducible refine Calls.mono (Qa.out _ (by repeat (first | with_reducible exact Below.refl _ _ | (with_reducible apply below_drew'') | (with_reducible apply N1) | (with_reducible apply N2) | (with_reducible apply N3)))) ?_); rintro e w2 ⟨v2, rfl, r2, b2⟩; obtain ⟨ad2, c2, rfl⟩ := owns_slice (owns_base r2); have N2 := fun (u : World) (h : Below u.heap.size u _) => Below.next h b2)
      | (go_at_call 24; (with_reducible refine Calls.mono (Qr.out _ (by repeat (first | with_reducible exact Below.refl _ _ | (with_reducible apply below_drew'') | (with_reducible apply N1) | (with_reducible apply N2) | (with_reducible apply N3)))) ?_); rintro e w3 ⟨v3, rfl, r3, b3, f3⟩; obtain ⟨ad3, c3, rfl, _, _⟩ := r3.shape; have N3 := fun (u : World) (h : Below u.heap.size u _) => Below.next h b3))
  obtain ⟨M', c1, c2, c3⟩ := copy_end HFA.out.1 HFA.out.2 (Below.next (below_drew'' (Below.refl _ w)) b1) f1 r1 (Below.refl _ w1) r2 b2 (Below.refl _ w2) f3 r3 b3
  go_wp2
  go_ret
  exact ⟨_, M', rfl, c1, c2, c3⟩
end Go.Proofs.Ytloijbhilfbliaa

/-
  A file of its own, alike: the call. The document's file: an act done, the bytes. The document's file: its bytes. The document's file: Sync, ReadAt. The document's file: Cut. The document's file: Append. The document's file: what stays of a choice.
-/
import Derived.Test.YtmmoilmfpiclgaaGreatT09
import Derived.Deep.RegionHeld3
set_option linter.unusedVariables false
set_option linter.unusedSimpArgs false
namespace Go.Proofs.YtmmoilmfpiclgaaGreat
open Go.RowKit Go.Shelf

theorem owns_below {w w' : World} {base size n : Nat} {e : TypeId} {v : Value} {xs : List Value} (h : w.ownsRow base e size v n xs) (hb : Below w.heap.size w w') : w'.ownsRow base e size v n xs :=
  owns_same h fun g hg => by
    obtain ⟨cs, hc⟩ := owns_mem h hg
    exact hb.block g (Array.getElem?_eq_some_iff.1 hc).1

theorem below_drew'' {w0 w : World} (h : Below w0.heap.size w0 w) : Below w0.heap.size w0 w.drew := h.trans ⟨rfl, rfl, rfl, Nat.le_refl _, fun _ _ => rfl⟩

/-- What a copy is, where its three parts are made one behind the other. -/
theorem copy_end {w w1 w2 w3 wa wb : World} {p : Nat} {D : List UInt8} {A : List Do} {M I : Nat → Prop} {dv av rv : Value} {fs : List Value} (h : FileAt w p D A M I) (hA : ActsAt w fs A I)
    (b0 : Below w.heap.size w w1) (f1 : ∀ g, dv.ownBlock = some g → w.heap.size ≤ g) (r1 : BRow w1 dv D) (ba : Below w1.heap.size w1 wa)
    (o2 : w2.ownsRow wa.heap.size 140 1 av A.length fs) (b2 : Below wa.heap.size wa w2) (bb : Below w2.heap.size w2 wb)
    (f3 : ∀ g, rv.ownBlock = some g → wb.heap.size ≤ g) (r3 : BRow w3 rv (reads D A)) (b3 : Below wb.heap.size wb w3) :
    ∃ M', FileAt (w3.alloc (.cells #[dv, av, rv] 124)) w3.heap.size D A M' I ∧ (∀ g, M' g → w.heap.size ≤ g) ∧ Below w.heap.size w (w3.alloc (.cells #[dv, av, rv] 124)) := by
  have z0 := b0.size
  have z1 := ba.size
  have z2 := b2.size
  have zb := bb.size
  have z3 := b3.size
  have e13 : Below w1.heap.size w1 w3 := Below.next (Below.next (Below.next ba b2) bb) b3
  have e03 : Below w.heap.size w w3 := Below.next b0 e13
  have e04 : Below w.heap.size w (w3.alloc (.cells #[dv, av, rv] 124)) := below_alloc' e03
  have e14 : Below w1.heap.size w1 (w3.alloc (.cells #[dv, av, rv] 124)) := below_alloc' e13
  have e24 : Below w2.heap.size w2 (w3.alloc (.cells #[dv, av, rv] 124)) := below_alloc' (Below.next bb b3)
  have e34 : Below w3.heap.size w3 (w3.alloc (.cells #[dv, av, rv] 124)) := below_alloc' (Below.refl _ _)
  have s4 : w3.heap.size < (w3.alloc (.cells #[dv, av, rv] 124)).heap.size := by simp
  have R1 := r1.below e14
  have R3 := r3.below e34
  have O2 := owns_base (owns_below o2 e24)
  have l1 : ∀ g, dv.ownBlock = some g → g < w1.heap.size := fun g hg => r1.own_lt g hg
  have l3 : ∀ g, rv.ownBlock = some g → g < w3.heap.size := fun g hg => r3.own_lt g hg
  have l2 : ∀ g, av.ownBlock = some g → g < w2.heap.size := fun g hg => by
    obtain ⟨cs, hc⟩ := owns_mem o2 hg
    exact (Array.getElem?_eq_some_iff.1 hc).1
  have f2 := owns_new o2
  refine ⟨fun g => g = w3.heap.size ∨ dv.ownBlock = some g ∨ av.ownBlock = some g ∨ rv.ownBlock = some g, ⟨⟨dv, av, rv, fs, heap_alloc_new w3 _, R1, R3, O2, ?_, ?_, .inl rfl, fun g hg => .inr (.inl hg), fun g hg => .inr (.inr (.inr hg)), fun g hg => .inr (.inr (.inl hg))⟩, h.fits, h.small, ?_, ?_⟩, ?_, e04⟩
  · exact hA.same (fun g hg => e04.block g (h.mem g (.inr hg))) (fun _ h => h)
  · intro he
    cases hd : dv.ownBlock with
    | none =>
      have hr : rv.ownBlock = none := by rw [← he, hd]
      rcases r1 with ⟨rfl, rfl⟩ | ⟨g, cap, cs, rfl, _⟩
      · rcases r3 with ⟨rfl, hn⟩ | ⟨g, cap, cs, rfl, _⟩
        · exact ⟨rfl, List.nil_prefix⟩
        · cases hr
      · cases hd
    | some g =>
      have hr : rv.ownBlock = some g := by rw [← he, hd]
      have := l1 g hd
      have := f3 g hr
      omega
  · rintro g ((rfl | hg | hg | hg) | hg)
    · exact s4
    · have := l1 g hg; have := e13.size; omega
    · have := l2 g hg; omega
    · have := l3 g hg; omega
    · have := h.mem g (.inr hg); have := e03.size; omega
  · rintro g hg hm
    have hl := h.mem g (.inr hg)
    rcases hm with rfl | hm | hm | hm
    · have := e03.size; omega
    · have := f1 g hm; omega
    · have := f2 g hm; omega
    · have := f3 g hm; omega
  · rintro g (rfl | hm | hm | hm)
    · have := e03.size; omega
    · exact f1 g hm
    · have := f2 g hm; omega
    · have := f3 g hm; omega

set_option maxHeartbeats 1000000 in
set_option maxRecDepth 100000 in
theorem copy_any {w : World} {p : Nat} {D : List UInt8} {A : List Do} {M I : Nat → Prop} (h : FileAt w p D A M I) (hlen : A.length ≤ 1000) :
    Calls Tryz.prog 46 #[.pointer (some ⟨p, 0, none⟩)] w fun e w' => ∃ q M', e = .returned (.pointer (some ⟨q, 0, none⟩)) ∧ FileAt w' q D A M' I ∧ (∀ g, M' g → w.heap.size ≤ g) ∧ Below w.heap.size w w' := by
  obtain ⟨dv, av, rv, fs, ht, hd, hr, ha, hA, hs, m0, m1, m2, m3⟩ := id h.it
  have ht : Trio w p dv av rv := ht
  have hpl := ht.lt
  have hsm := h.small
  have hLb := Nat.le_trans (reads_length D A) (Nat.le_refl _)
  have hDb : D.length ≤ bulk D A := by unfold bulk; omega
  have Qd : Hid (∀ W, Below w.heap.size w W → Calls Tryz.prog 105 #[dv] W fun e w' => ∃ v', e = .returned v' ∧ BRow w' v' D ∧ Below W.heap.size W w' ∧ (∀ g, v'.ownBlock = some g → W.heap.size ≤ g)) := Lib.hid fun W hW => by
    refine (clone_any (hd.below hW) (by omega)).mono ?_
    rintro e w' ⟨v', h1, h2, h3, h4, _⟩
    exact ⟨v', h1, h2, h3, h4⟩
  have Qr : Hid (∀ W, Below w.heap.size w W → Calls Tryz.prog 105 #[rv] W fun e w' => ∃ v', e = .returned v' ∧ BRow w' v' (reads D A) ∧ Below W.heap.size W w' ∧ (∀ g, v'.ownBlock = some g → W.heap.size ≤ g)) := Lib.hid fun W hW => by
    refine (clone_any (hr.below hW) (by omega)).mono ?_
    rintro e w' ⟨v', h1, h2, h3, h4, _⟩
    exact ⟨v', h1, h2, h3, h4⟩
  have Qa : Hid (∀ W, Below w.heap.size w W → Calls Tryz.prog 106 #[av] W fun e w' => ∃ v', e = .returned v' ∧ w'.ownsRow W.heap.size 140 1 v' A.length fs ∧ Below W.heap.size W w') := Lib.hid fun W hW => clone_acts (owns_below ha hW) (by omega) (acts_one hA)
  have HP : Hid (∀ W, Below w.heap.size w W → W.cell? ⟨p, 0, none⟩ = some dv ∧ W.cell? ⟨p, 1, none⟩ = some av ∧ W.cell? ⟨p, 2, none⟩ = some rv) := Lib.hid fun W hW => by
    have t : Trio W p _ _ _ := (hW.block p hpl).trans ht
    exact ⟨t.at0, t.at1, t.at2⟩
  have HFA := Lib.hid (And.intro h hA)
  obtain ⟨k0, k1, k2⟩ := HP.out w (Below.refl _ w)
  clear h ht hd hr ha hA hs m0 m1 m2 m3
  go_enter Tryz.func46, Tryz.ntmps46
  go_upto_region 3 with fail
  go_region_held3 (fun W => W.cell? ⟨p, 0, none⟩ = some dv ∧ W.cell? ⟨p, 1, none⟩ = some av ∧ W.cell? ⟨p, 2, none⟩ = some rv ∧ Below w.heap.size w W)
    ((refine (fun hB => ⟨(HP.out _ hB).1, (HP.out _ hB).2.1, (HP.out _ hB).2.2, hB⟩ : Below w.heap.size w _ → _) ?_; repeat (first | with_reducible exact Below.refl _ _ | (with_reducible apply below_drew'') | (with_reducible apply below_alloc') | (with_reducible apply N1) | (with_reducible apply N2) | (with_reducible apply N3))))
    (first
      | (go_at_call 105; (with_reducible refine Calls.mono (Qd.out _ (by repeat (first | with_reducible exact Below.refl _ _ | (with_reducible apply below_drew'') | (with_reducible apply N1) | (with_reducible apply N2) | (with_reducible apply N3)))) ?_); rintro e w1 ⟨v1, rfl, r1, b1, f1⟩; obtain ⟨ad1, c1, rfl, _, _⟩ := r1.shape; have N1 := fun (u : World) (h : Below u.heap.size u _) => Below.next h b1)
      | (go_at_call 106; (with_reducible refine Calls.mono (Qa.out _ (by repeat (first | with_reducible exact Below.refl _ _ | (with_reducible apply below_drew'') | (with_reducible apply N1) | (with_reducible apply N2) | (with_reducible apply N3)))) ?_); rintro e w2 ⟨v2, rfl, r2, b2⟩; obtain ⟨ad2, c2, rfl⟩ := owns_slice (owns_base r2); have N2 := fun (u : World) (h : Below u.heap.size u _) => Below.next h b2)
      | (go_at_call 105; (with_reducible refine Calls.mono (Qr.out _ (by repeat (first | with_reducible exact Below.refl _ _ | (with_reducible apply below_drew'') | (with_reducible apply N1) | (with_reducible apply N2) | (with_reducible apply N3)))) ?_); rintro e w3 ⟨v3, rfl, r3, b3, f3⟩; obtain ⟨ad3, c3, rfl, _, _⟩ := r3.shape; have N3 := fun (u : World) (h : Below u.heap.size u _) => Below.next h b3))
  obtain ⟨M', c1, c2, c3⟩ := copy_end HFA.out.1 HFA.out.2 (Below.next (below_drew'' (Below.refl _ w)) b1) f1 r1 (Below.refl _ w1) r2 b2 (Below.refl _ w2) f3 r3 b3
  go_wp2
  go_ret
  exact ⟨_, M', rfl, c1, c2, c3⟩
end Go.Proofs.YtmmoilmfpiclgaaGreat
namespace Go.Proofs.YtmmoilmfpiclgaaGreat
open Go.RowKit Go.Shelf

def strO (l : List UInt8) : ByteArray := ⟨l.toArray⟩
theorem strO_list (l : List UInt8) : (strO l).data.toList = l := rfl
theorem strO_of (a : ByteArray) : strO a.data.toList = a := by unfold strO; cases a; simp
theorem strO_size (l : List UInt8) : (strO l).size = l.length := by show l.toArray.size = _; simp
theorem ba_same {a b : ByteArray} (h : a.data.toList = b.data.toList) : a = b := by rw [← strO_of a, ← strO_of b, h]
theorem strO_join (a b : List UInt8) : strO a ++ strO b = strO (a ++ b) := ba_same (by simp [strO])
theorem strO_take (l : List UInt8) (k : Nat) : (strO l).extract 0 k = strO (l.take k) := ba_same (by simp [strO])

/-- An act's three cells in the document's file. -/
def actC : Do → List Value
  | .app b => [.bool false, .int .i64 0, .string (strO b)]
  | .cut n => [.bool true, .int .i64 (n : Int), .string ⟨#[]⟩]

set_option maxHeartbeats 1000000 in
set_option maxRecDepth 100000 in
theorem ref_done {w : World} {R : List UInt8} {a : Do} (hf : Fits R [a]) (hL : (a.on R).length ≤ 1000000) :
    Calls Tryz.prog 140 #[.string (strO R), .agg (actC a).toArray] w fun e w' => e = .returned (.string (strO (a.on R))) ∧ Below w.heap.size w w' := by
  obtain ⟨S, hS⟩ : ∃ S, strO R = S := ⟨_, rfl⟩
  have hs : S.size = R.length := by rw [← hS, strO_size]
  cases a with
  | app b =>
    have he : strO ((Do.app b).on R) = S ++ strO b := by rw [← hS, strO_join]; rfl
    rw [he, hS]
    unfold actC
    simp only
    obtain ⟨B, hB⟩ : ∃ B, strO b = B := ⟨_, rfl⟩
    have hbs : B.size = b.length := by rw [← hB, strO_size]
    have hov : ¬ 9223372036854775807 < R.length + B.size := by
      rw [hbs]
      have : ((Do.app b).on R).length = R.length + b.length := List.length_append
      omega
    rw [hB]
    clear hbs
    go_enter Tryz.func140, Tryz.ntmps140
    go_wp2
    go_ret
    exact ⟨rfl, below_alloc' (Below.refl _ w)⟩
  | cut n =>
    have hn : n < R.length := hf.1
    have he : strO ((Do.cut n).on R) = S.extract 0 n := by rw [← hS, strO_take]; rfl
    rw [he, hS]
    unfold actC
    simp only
    have m1 : min (n : Int) (S.size : Int) = (n : Int) := by rw [hs]; omega
    have m2 : (n : Int) ≤ (S.size : Int) := by rw [hs]; omega
    have m3 : n ≤ S.size := by omega
    go_enter Tryz.func140, Tryz.ntmps140
    go_wp2
    go_ret
    exact ⟨rfl, below_alloc' (Below.refl _ w)⟩

/-- The document's file in memory: at block p; J: the blocks it stands in. -/
structure RefAt (w : World) (p : Nat) (D : List UInt8) (A : List Do) (J : Nat → Prop) : Prop where
  it : ∃ av, w.heap[p]? = some (.cells #[.string (strO D), av] 88 (0, 0)) ∧ w.ownsRow 0 167 3 av A.length (A.flatMap actC) ∧ J p ∧ (∀ g, av.ownBlock = some g → J g)
  fits : Fits D A
  small : bulk D A ≤ 100000
  mem : ∀ g, J g → g < w.heap.size

theorem RefAt.same {w w' : World} {p : Nat} {D : List UInt8} {A : List Do} {J : Nat → Prop} (h : RefAt w p D A J) (he : ∀ g, J g → w'.heap[g]? = w.heap[g]?) (hs : w.heap.size ≤ w'.heap.size) : RefAt w' p D A J := by
  obtain ⟨av, h1, h2, h3, h4⟩ := h.it
  exact ⟨⟨av, (he p h3).trans h1, owns_same h2 fun g hg => he g (h4 g hg), h3, h4⟩, h.fits, h.small, fun g hg => Nat.lt_of_lt_of_le (h.mem g hg) hs⟩
theorem RefAt.kept {w w' : World} {p : Nat} {D : List UInt8} {A : List Do} {J N : Nat → Prop} (h : RefAt w p D A J) (hk : Kept N w w') (hn : ∀ g, J g → ¬ N g) : RefAt w' p D A J :=
  h.same (fun g hg => hk.block g (h.mem g hg) (hn g hg)) hk.size
theorem RefAt.below {w w' : World} {p : Nat} {D : List UInt8} {A : List Do} {J : Nat → Prop} (h : RefAt w p D A J) (hb : Below w.heap.size w w') : RefAt w' p D A J :=
  h.same (fun g hg => hb.block g (h.mem g hg)) hb.size

theorem flat_at (A : List Do) (k j : Nat) (hk : k < A.length) (hj : j < 3) : (A.flatMap actC)[k * 3 + j]? = (actC A[k])[j]? := by
  induction A generalizing k with
  | nil => simp at hk
  | cons a A ih =>
    have hl : (actC a).length = 3 := by cases a <;> rfl
    cases k with
    | zero => rw [List.flatMap_cons, List.getElem?_append_left (by omega)]; simp
    | succ k =>
      rw [List.flatMap_cons, List.getElem?_append_right (by omega), hl, show (k + 1) * 3 + j - 3 = k * 3 + j by omega, ih k (by simpa using hk)]
      rfl
theorem flat_length (A : List Do) : (A.flatMap actC).length = A.length * 3 := by
  induction A with
  | nil => rfl
  | cons a A ih =>
    have hl : (actC a).length = 3 := by cases a <;> rfl
    rw [List.flatMap_cons, List.length_append, ih, hl, List.length_cons]; omega

/-- The acts of the document's file, in memory. -/
theorem acts_cells {w : World} {av : Value} {A : List Do} (h : w.ownsRow 0 167 3 av A.length (A.flatMap actC)) : ∃ ad c, av = .slice ad A.length c ∧ A.length ≤ c ∧ c ≤ 9223372036854775807 ∧ ∀ k (hk : k < A.length), ∃ b, ad = some ⟨b, 0, none⟩ ∧ b < w.heap.size ∧ ∀ j, j < 3 → w.cell? ⟨b, k * 3 + j, none⟩ = (actC A[k])[j]? := by
  rcases h.2 with ⟨rfl, h0⟩ | ⟨g, cap, cur, rfl, _, hg, h1, h2, h3, ht⟩
  · exact ⟨none, 0, by rw [h0], by omega, by omega, fun k hk => by omega⟩
  · unfold maxLen at h2
    refine ⟨_, cap, rfl, h1, h2, fun k hk => ⟨g, rfl, (Array.getElem?_eq_some_iff.1 hg).1, fun j hj => ?_⟩⟩
    rw [cell_of_row w g _ _ _ _ hg, ← Array.getElem?_toList, ← flat_at A k j hk hj, ← ht, List.getElem?_take, if_pos (by omega)]
end Go.Proofs.YtmmoilmfpiclgaaGreat
namespace Go.Proofs.YtmmoilmfpiclgaaGreat
open Go.RowKit Go.Shelf

set_option maxHeartbeats 1000000 in
set_option maxRecDepth 100000 in
theorem ref_bytes {w : World} {p : Nat} {D : List UInt8} {A : List Do} {J : Nat → Prop} (h : RefAt w p D A J) :
    Calls Tryz.prog 127 #[.pointer (some ⟨p, 0, none⟩)] w fun e w' => e = .returned (.string (strO (reads D A))) ∧ Below w.heap.size w w' := by
  obtain ⟨av, hp, ha, hj, hj2⟩ := id h.it
  obtain ⟨ad, c, rfl, hc1, hc2, hrow⟩ := acts_cells ha
  have hpl : p < w.heap.size := h.mem p hj
  have HF := Lib.hid h
  have HR := Lib.hid hrow
  have HP : Hid (∀ W, Below w.heap.size w W → W.cell? ⟨p, 0, none⟩ = some (.string (strO D)) ∧ W.cell? ⟨p, 1, none⟩ = some (.slice ad A.length c)) := Lib.hid fun W hW => by
    have t := (hW.block p hpl).trans hp
    exact ⟨by rw [cell_of_row _ _ 0 _ _ _ t]; rfl, by rw [cell_of_row _ _ 1 _ _ _ t]; rfl⟩
  obtain ⟨k0, k1⟩ := HP.out w (Below.refl _ w)
  clear h hp ha hrow hj hj2
  go_enter Tryz.func127, Tryz.ntmps127
  go_wp2
  go_loopw [3, 4] (fun s3 s4 wr => ∃ k : Nat, k ≤ A.length ∧ s4 = .int .i64 k ∧ s3 = .string (strO (reads D (A.take k))) ∧ Below w.heap.size w wr) (fun _ s4 _ => A.length - (intOf s4).toNat)
  case atStart => exact ⟨0, Nat.zero_le _, rfl, rfl, Below.refl _ w⟩
  case round =>
    obtain ⟨k, hk, rfl, rfl, hb⟩ := hrel
    obtain ⟨j0, j1⟩ := HP.out _ hb
    by_cases hlt : k < A.length
    · obtain ⟨b, rfl, hbl, hcs⟩ := HR.out k hlt
      have hc0 := (hb.cell (p := ⟨b, k * 3, none⟩) hbl).trans (hcs 0 (by omega))
      have hc1' := (hb.cell (p := ⟨b, k * 3 + 1, none⟩) hbl).trans (hcs 1 (by omega))
      have hc2' := (hb.cell (p := ⟨b, k * 3 + 2, none⟩) hbl).trans (hcs 2 (by omega))
      have hft := fits_at HF.out.fits k hlt
      have hbk := Nat.le_trans (reads_length D (A.take (k + 1))) (bulk_take D A (k + 1))
      have hbk0 := Nat.le_trans (reads_length D (A.take k)) (bulk_take D A k)
      have hsm := HF.out.small
      have hsn : reads D (A.take (k + 1)) = A[k].on (reads D (A.take k)) := by rw [List.take_succ_eq_append_getElem hlt, reads_snoc]
      have q41 := fun W : World => ref_done (w := W) (a := A[k]) hft (by rw [← hsn]; omega)
      simp only [← hsn] at q41
      have Q41 := Lib.hid (fun (W : World) (hW : Below w.heap.size w W) => q41 W)
      clear q41 hft hbk hbk0 hsn
      cases ha : A[k] with
      | app bb =>
        rw [ha] at hc0 hc1' hc2' Q41
        unfold actC at hc0 hc1' hc2' Q41
        simp only [List.getElem?_cons_zero, List.getElem?_cons_succ] at hc0 hc1' hc2' Q41
        clear ha
        go_wp2_with (go_at_call 140; (with_reducible refine (Q41.out _ hb).mono ?_); rintro e w1 ⟨rfl, b1⟩; have HB1 := Lib.hid (Below.next hb b1); clear b1)
        exact ⟨⟨k + 1, by omega, by go_num, rfl, HB1.out⟩, by simp [intOf]; omega⟩
      | cut n =>
        rw [ha] at hc0 hc1' hc2' Q41
        unfold actC at hc0 hc1' hc2' Q41
        simp only [List.getElem?_cons_zero, List.getElem?_cons_succ] at hc0 hc1' hc2' Q41
        clear ha
        go_wp2_with (go_at_call 140; (with_reducible refine (Q41.out _ hb).mono ?_); rintro e w1 ⟨rfl, b1⟩; have HB1 := Lib.hid (Below.next hb b1); clear b1)
        exact ⟨⟨k + 1, by omega, by go_num, rfl, HB1.out⟩, by simp [intOf]; omega⟩
    · obtain rfl : k = A.length := by omega
      rw [List.take_length]
      have HB := Lib.hid hb
      go_wp2
      go_ret
      exact ⟨rfl, HB.out⟩
end Go.Proofs.YtmmoilmfpiclgaaGreat
namespace Go.Proofs.YtmmoilmfpiclgaaGreat
open Go.RowKit Go.Shelf

/-- Block p holds the two cells of the document's file. -/
def Duo (w : World) (p : Nat) (a b : Value) : Prop := w.heap[p]? = some (.cells #[a, b] 88 (0, 0))
theorem Duo.at0 {w : World} {p : Nat} {a b : Value} (h : Duo w p a b) : w.cell? ⟨p, 0, none⟩ = some a := by rw [cell_of_row w p 0 _ _ _ h]; rfl
theorem Duo.at1 {w : World} {p : Nat} {a b : Value} (h : Duo w p a b) : w.cell? ⟨p, 1, none⟩ = some b := by rw [cell_of_row w p 1 _ _ _ h]; rfl
theorem Duo.free {w : World} {p : Nat} {a b : Value} (h : Duo w p a b) (o : Nat) : w.frozen? ⟨p, o, none⟩ = false := by
  unfold Duo at h
  simp [World.frozen?, h]
theorem Duo.lt {w : World} {p : Nat} {a b : Value} (h : Duo w p a b) : p < w.heap.size := (Array.getElem?_eq_some_iff.1 h).1
theorem Duo.set0 {w : World} {p : Nat} {a b : Value} (h : Duo w p a b) (v : Value) : Duo (w.setCell ⟨p, 0, none⟩ v) p v b := cells_setCell h 0 v
theorem Duo.set1 {w : World} {p : Nat} {a b : Value} (h : Duo w p a b) (v : Value) : Duo (w.setCell ⟨p, 1, none⟩ v) p a v := cells_setCell h 1 v
theorem Duo.below {w w' : World} {p : Nat} {a b : Value} (h : Duo w p a b) (hb : Below w.heap.size w w') : Duo w' p a b := (hb.block p h.lt).trans h

/-- What the document's file has become. -/
def RefWent (w : World) (p : Nat) (D : List UInt8) (A : List Do) (J : Nat → Prop) (r : Value) (e : Ending) (w' : World) : Prop :=
  e = .returned r ∧ ∃ J' : Nat → Prop, RefAt w' p D A J' ∧ (∀ g, J' g → J g ∨ w.heap.size ≤ g) ∧ Kept J w w'

/-- Bytes put in the place of all. -/
theorem ref_settled {w w1 : World} {p : Nat} {D : List UInt8} {A : List Do} {J : Nat → Prop} {av : Value} (h : RefAt w p D A J) (hd : Duo w p (.string (strO D)) av) (hj : J p) (hb : Below w.heap.size w w1) (S : List UInt8) (hS : S.length ≤ 100000) :
    RefWent w p S [] J (.tuple #[]) (.returned (.tuple #[])) ((w1.setCell ⟨p, 0, none⟩ (.string (strO S))).setCell ⟨p, 1, none⟩ (.slice none 0 0)) := by
  have d1 := ((hd.below hb).set0 (.string (strO S))).set1 (.slice none 0 0)
  have hg : w1.grownBy ((w1.setCell ⟨p, 0, none⟩ (.string (strO S))).setCell ⟨p, 1, none⟩ (.slice none 0 0)) (some p) := grownBy_trans (grown_setCell _ _ _ _) (grown_setCell _ _ _ _)
  have hk : Kept J w ((w1.setCell ⟨p, 0, none⟩ (.string (strO S))).setCell ⟨p, 1, none⟩ (.slice none 0 0)) := (Kept.below hb).trans (Kept.grown (M := J) hg (fun g e => by cases e; exact hj)) (fun g hg => .inl hg)
  refine ⟨rfl, J, ⟨⟨.slice none 0 0, d1, World.ownsRow_nil _ 0 167 3, hj, fun g hg => by cases hg⟩, trivial, hS, fun g hg => Nat.lt_of_lt_of_le (h.mem g hg) hk.size⟩, fun g hg => .inl hg, hk⟩

set_option maxHeartbeats 1000000 in
set_option maxRecDepth 100000 in
theorem ref_sync {w : World} {p : Nat} {D : List UInt8} {A : List Do} {J : Nat → Prop} (h : RefAt w p D A J) :
    Calls Tryz.prog 123 #[.pointer (some ⟨p, 0, none⟩)] w (RefWent w p (reads D A) [] J (.tuple #[])) := by
  obtain ⟨av, hp, ha, hj, hj2⟩ := id h.it
  have hp : Duo w p (.string (strO D)) av := hp
  have Q28 := Lib.hid (ref_bytes h)
  have hS : (reads D A).length ≤ 100000 := Nat.le_trans (reads_length D A) h.small
  have HE := Lib.hid fun (w1 : World) (hb : Below w.heap.size w w1) => ref_settled h hp hj hb (reads D A) hS
  have HP : Hid (∀ W, Below w.heap.size w W → W.cell? ⟨p, 0, none⟩ = some (.string (strO D)) ∧ W.cell? ⟨p, 1, none⟩ = some av ∧ W.frozen? ⟨p, 0, none⟩ = false ∧ W.frozen? ⟨p, 1, none⟩ = false) := Lib.hid fun W hW => ⟨(hp.below hW).at0, (hp.below hW).at1, (hp.below hW).free 0, (hp.below hW).free 1⟩
  clear h hp ha hj hj2 hS
  obtain ⟨S, hS⟩ : ∃ S, strO (reads D A) = S := ⟨_, rfl⟩
  rw [hS] at Q28 HE
  clear hS
  go_enter Tryz.func123, Tryz.ntmps123
  go_wp2_with (go_at_call 127; (with_reducible refine Q28.out.mono ?_); rintro e w1 ⟨rfl, hb⟩; obtain ⟨k0, k1, f0, f1⟩ := HP.out _ hb; have HB := Lib.hid hb; clear hb)
  exact bodyPost_end (v := .tuple #[]) (by simp [results, Tryz.results123, go_sem]) rfl (HE.out _ HB.out)

theorem strO_drop (l : List UInt8) (k : Nat) : (strO l).extract k (strO l).size = strO (l.drop k) := ba_same (by
  simp only [strO, ByteArray.data_extract, Array.toList_extract, ByteArray.size, List.size_toArray, List.extract_eq_take_drop]
  rw [List.take_of_length_le (by simp)])

set_option maxHeartbeats 1000000 in
set_option maxRecDepth 100000 in
theorem ref_readAt {w : World} {p : Nat} {D : List UInt8} {A : List Do} {J : Nat → Prop} {a n : Int} (h : RefAt w p D A J) :
    Calls Tryz.prog 126 #[.pointer (some ⟨p, 0, none⟩), .int .i64 a, .int .i64 n] w fun e w' => e = .returned (.tuple #[.string ⟨(readT (reads D A) a n).toArray⟩, .int .i64 (readE (reads D A) a n)]) ∧ Below w.heap.size w w' := by
  have Q28 := Lib.hid (ref_bytes h)
  have hS : (reads D A).length ≤ 100000 := Nat.le_trans (reads_length D A) h.small
  obtain ⟨L, hL⟩ : ∃ L, reads D A = L := ⟨_, rfl⟩
  rw [hL] at Q28 hS
  rw [hL]
  clear h hL
  obtain ⟨S, hSL⟩ : ∃ S, strO L = S := ⟨_, rfl⟩
  have hs : S.size = L.length := by rw [← hSL, strO_size]
  rw [hSL] at Q28
  by_cases hc : a < 0 ∨ n < 0 ∨ (L.length : Int) < a
  · rw [show readT L a n = [] by unfold readT; rw [if_pos hc], show readE L a n = 17 by unfold readE; rw [if_pos hc]]
    by_cases ha : a < 0
    · have d1 : decide (a < 0) = true := decide_eq_true ha
      go_enter Tryz.func126, Tryz.ntmps126
      go_wp2_with (go_at_call 127; (with_reducible refine Q28.out.mono ?_); rintro e w1 ⟨rfl, hb⟩; have HB := Lib.hid hb; clear hb)
      go_ret2
      exact ⟨rfl, HB.out⟩
    · have d1 : decide (a < 0) = false := decide_eq_false ha
      by_cases hn : n < 0
      · have d2 : decide (n < 0) = true := decide_eq_true hn
        go_enter Tryz.func126, Tryz.ntmps126
        go_wp2_with (go_at_call 127; (with_reducible refine Q28.out.mono ?_); rintro e w1 ⟨rfl, hb⟩; have HB := Lib.hid hb; clear hb)
        go_ret2
        exact ⟨rfl, HB.out⟩
      · have d2 : decide (n < 0) = false := decide_eq_false hn
        have d3 : decide ((L.length : Int) < a) = true := decide_eq_true (by omega)
        go_enter Tryz.func126, Tryz.ntmps126
        go_wp2_with (go_at_call 127; (with_reducible refine Q28.out.mono ?_); rintro e w1 ⟨rfl, hb⟩; have HB := Lib.hid hb; clear hb)
        go_ret2
        exact ⟨rfl, HB.out⟩
  · obtain ⟨m, rfl⟩ : ∃ m : Nat, a = (m : Int) := ⟨a.toNat, by omega⟩
    obtain ⟨k, rfl⟩ : ∃ k : Nat, n = (k : Int) := ⟨n.toNat, by omega⟩
    have hm : m ≤ L.length := by omega
    have hr : readT L m k = (L.drop m).take k := by unfold readT; rw [if_neg hc]; rfl
    rw [hr, show readE L m k = 0 by unfold readE; rw [if_neg hc]]
    have d1 : decide ((m : Int) < 0) = false := decide_eq_false (by omega)
    have d2 : decide ((k : Int) < 0) = false := decide_eq_false (by omega)
    have d3 : decide ((L.length : Int) < (m : Int)) = false := decide_eq_false (by omega)
    have he : S.extract m S.size = strO (L.drop m) := by rw [← hSL, strO_drop]
    have hz : (strO (L.drop m)).size = L.length - m := by rw [strO_size, List.length_drop]
    obtain ⟨j, hj⟩ : ∃ j, min k (L.length - m) = j := ⟨_, rfl⟩
    have hx : (strO (L.drop m)).extract 0 j = ⟨((L.drop m).take k).toArray⟩ := by
      rw [strO_take, ← hj]
      show (⟨_⟩ : ByteArray) = _
      congr 2
      rw [List.take_eq_take_iff, List.length_drop]
      omega
    have f1 : (m : Int) ≤ (L.length : Int) := by omega
    have f2 : min (k : Int) ((L.length - m : Nat) : Int) = (j : Int) := by omega
    have f3 : (j : Int) ≤ ((L.length - m : Nat) : Int) := by omega
    rw [hs] at he
    rw [← hx]
    clear hx hr hj hc hSL
    obtain ⟨T, hT⟩ : ∃ T, strO (L.drop m) = T := ⟨_, rfl⟩
    rw [hT] at he hz ⊢
    clear hT
    go_enter Tryz.func126, Tryz.ntmps126
    go_wp2_with (go_at_call 127; (with_reducible refine Q28.out.mono ?_); rintro e w1 ⟨rfl, hb⟩; have HB := Lib.hid hb; clear hb)
    all_goals
      go_ret2
      refine ⟨?_, HB.out⟩
      first
        | (rw [show j = L.length - m by omega]; rfl)
        | (rw [show j = k by omega]; rfl)
end Go.Proofs.YtmmoilmfpiclgaaGreat
namespace Go.Proofs.YtmmoilmfpiclgaaGreat
open Go.RowKit Go.Shelf

/-- One more act. -/
theorem ref_more {w w2 : World} {p : Nat} {D : List UInt8} {A : List Do} {J : Nat → Prop} {av v2 : Value} {a : Do} (hd : Duo w p (.string (strO D)) av) (hj : J p) (hb : Below w.heap.size w w2)
    (ho : w2.ownsRow w.heap.size 167 3 v2 (A.length + 1) (A.flatMap actC ++ actC a)) (hf : Fits D (A ++ [a])) (hs : bulk D (A ++ [a]) ≤ 100000) (r : Value) :
    RefWent w p D (A ++ [a]) J r (.returned r) (w2.setCell ⟨p, 1, none⟩ v2) := by
  have d1 := (hd.below hb).set1 v2
  have hg : w2.grownBy (w2.setCell ⟨p, 1, none⟩ v2) (some p) := grown_setCell _ _ _ _
  have hk : Kept J w (w2.setCell ⟨p, 1, none⟩ v2) := (Kept.below hb).trans (Kept.grown (M := J) hg (fun g e => by cases e; exact hj)) (fun g hg => .inl hg)
  have hz := hg.size
  have hz2 := hk.size
  have ho2 : (w2.setCell ⟨p, 1, none⟩ v2).ownsRow w.heap.size 167 3 v2 (A.length + 1) (A.flatMap actC ++ actC a) := owns_same ho fun g hv => hg.block g (by
    obtain ⟨cs, hc⟩ := owns_mem ho hv
    exact (Array.getElem?_eq_some_iff.1 hc).1) (fun e => by cases e; have := owns_new ho p hv; have := hd.lt; omega)
  refine ⟨rfl, fun g => (J g ∨ w.heap.size ≤ g) ∧ g < (w2.setCell ⟨p, 1, none⟩ v2).heap.size, ⟨⟨v2, d1, ?_, ⟨.inl hj, by have := hd.lt; omega⟩, fun g hv => ⟨.inr (owns_new ho g hv), ?_⟩⟩, hf, hs, fun g hg => hg.2⟩, fun g hg => hg.1, hk⟩
  · rw [List.length_append, List.flatMap_append]
    have := owns_base ho2
    simpa using this
  · obtain ⟨cs, hc⟩ := owns_mem ho2 hv
    exact (Array.getElem?_eq_some_iff.1 hc).1

theorem i72 : (Tryz.prog.info? 167).map (fun i => (i.zero, i.size, i.bytes)) = some (some (.agg #[.bool false, .int .i64 0, .string ⟨#[]⟩]), 3, 32) := by kernel_rfl

/-- An append of acts to a row of the call's own: what a walk goes on with. -/
theorem wpList_append_ref {w : World} {ops : Array Oper} {rest : List Oper} {o : Oper} {a : Act} {Q : Exit → Act → World → Prop} (hgd : o.guard = none) (s x : Operand)
    (hop : o.op = Op.call { callee := Callee.builtin Builtin.append, args := #[s, x], argTypes := #[86, 86] }) (ht : o.type = 86) (base : Nat) (v : Value) (n : Nat) (fs : List Value) (ad : Addr) (m c : Nat) (news : List Value)
    (hs : a.eval s = v) (hx : a.eval x = .slice (some ad) m c) (hl : news.length = m * 3) (hc : ∀ j u, news[j]? = some u → w.cell? (ad.add j) = some u) (hf : ∀ u ∈ news, u.oneCell' = true) (hv : w.ownsRow base 167 3 v n fs) (hb : base ≤ w.heap.size) (hlen : n + m ≤ 1000000)
    (h : ∀ v' w', w'.ownsRow base 167 3 v' (n + m) (fs ++ news) → w.grownBy w' v.ownBlock → wpList Tryz.prog ops Q rest (a.put o.dst v') w') : wpList Tryz.prog ops Q (o :: rest) a w := by
  obtain ⟨i0, hi, hz0, hz1, hz2⟩ := info_parts i72
  obtain ⟨v', w1, h1, h2, h3, _, _⟩ := run_append_own_at (P := Tryz.prog) w base 86 86 167 i0 _ 3 32 Tryz.underlying86 hi hz0 hz1 hz2 rfl (by decide) v n fs hv ad m c news hl
    hc hf (by unfold maxLen; omega) (by omega) hb
  refine wpList_plain hgd fun _ hK => ?_
  unfold Oper.wp execOp
  simp only [hop, ht, resolve, invoke, builtin, Sem.run_bind, Sem.run_pure, Result.andThen_ok, List.map_toArray, List.map_cons, List.map_nil, hs, hx, h1]
  exact hK _ _ (h v' w1 h2 h3)

theorem cells_new (w : World) (xs : List Value) (t : TypeId) : ∀ j u, xs[j]? = some u → (w.alloc (.cells xs.toArray t)).cell? ((⟨w.heap.size, 0, none⟩ : Addr).add j) = some u := fun j u hj => by
  rw [Addr.add_lit, Nat.zero_add, cell_of_row _ _ j _ _ _ (heap_alloc_new w _)]
  simpa using hj

theorem owns_slice72 {w : World} {base n : Nat} {v : Value} {xs : List Value} (h : w.ownsRow base 167 3 v n xs) : ∃ ad c, v = .slice ad n c := by
  rcases h.2 with ⟨rfl, h0⟩ | ⟨g, cap, cur, rfl, _⟩
  · exact ⟨none, 0, by rw [h0]⟩
  · exact ⟨_, cap, rfl⟩

theorem actC_one (A : List Do) : ∀ u ∈ A.flatMap actC, u.oneCell' = true := by
  intro u hu
  obtain ⟨a, _, ha⟩ := List.mem_flatMap.1 hu
  cases a <;> (simp [actC] at ha; rcases ha with rfl | rfl | rfl <;> rfl)

set_option maxHeartbeats 1000000 in
set_option maxRecDepth 100000 in
theorem ref_cut {w : World} {p : Nat} {D : List UInt8} {A : List Do} {J : Nat → Prop} {n : Int} (h : RefAt w p D A J) (hlen : A.length ≤ 1000) :
    Calls Tryz.prog 122 #[.pointer (some ⟨p, 0, none⟩), .int .i64 n] w (RefWent w p D (cutT (reads D A) A n) J (.int .i64 (cutE (reads D A) n))) := by
  obtain ⟨av, hp, ha, hj, hj2⟩ := id h.it
  have hp : Duo w p (.string (strO D)) av := hp
  have hpl := hp.lt
  have hS : (reads D A).length ≤ 100000 := Nat.le_trans (reads_length D A) h.small
  have HSTAY : Hid (∀ W, Below w.heap.size w W → ∀ r, RefWent w p D A J r (.returned r) W) := Lib.hid fun W hW r => ⟨rfl, J, h.below hW, fun g hg => .inl hg, Kept.below hW⟩
  obtain ⟨L, hL⟩ : ∃ L, reads D A = L := ⟨_, rfl⟩
  have Q28 : Hid (∀ W, Below w.heap.size w W → Calls Tryz.prog 127 #[.pointer (some ⟨p, 0, none⟩)] W fun e w' => e = .returned (.string (strO L)) ∧ Below W.heap.size W w') := Lib.hid fun W hW => by rw [← hL]; exact ref_bytes (h.below hW)
  rw [hL] at hS ⊢
  have hz : (strO L).size = L.length := strO_size L
  obtain ⟨S, hSL⟩ : ∃ S, strO L = S := ⟨_, rfl⟩
  rw [hSL] at Q28 hz
  clear hSL
  by_cases hc : n < 0 ∨ (L.length : Int) < n
  · rw [show cutT L A n = A by unfold cutT; rw [if_neg (by omega)], show cutE L n = 17 by unfold cutE; rw [if_pos hc]]
    clear h hp ha hj hj2 hL
    by_cases hn : n < 0
    · have d1 : decide (n < 0) = true := decide_eq_true hn
      go_enter Tryz.func122, Tryz.ntmps122
      go_wp2
      go_ret
      exact HSTAY.out _ (Below.refl _ w) _
    · have d1 : decide (n < 0) = false := decide_eq_false hn
      have d2 : decide ((L.length : Int) < n) = true := decide_eq_true (by omega)
      go_enter Tryz.func122, Tryz.ntmps122
      go_wp2_with (go_at_call 127; (with_reducible refine (Q28.out _ (Below.refl _ w)).mono ?_); rintro e w1 ⟨rfl, hb⟩; have HB := Lib.hid hb; clear hb)
      go_ret
      exact HSTAY.out _ HB.out _
  · obtain ⟨m, rfl⟩ : ∃ m : Nat, n = (m : Int) := ⟨n.toNat, by omega⟩
    have d1 : decide ((m : Int) < 0) = false := decide_eq_false (by omega)
    have d2 : decide (L.length < m) = false := decide_eq_false (by omega)
    rw [show cutE L m = 0 by unfold cutE; rw [if_neg hc]]
    by_cases hm : m < L.length
    · rw [show cutT L A m = A ++ [.cut m] by unfold cutT; rw [if_pos ⟨by omega, by omega⟩]; rfl]
      have d3 : decide (m < L.length) = true := decide_eq_true hm
      obtain ⟨ad, c, rfl, hc1, hc2, hrow⟩ := acts_cells ha
      have hfits : Fits D (A ++ [.cut m]) := (fits_append D A [.cut m]).2 ⟨h.fits, by rw [hL]; exact ⟨hm, trivial⟩⟩
      have hbulk : bulk D (A ++ [.cut m]) ≤ 100000 := by have := h.small; unfold bulk at this ⊢; simpa using this
      have HE := Lib.hid fun (w2 : World) (v2 : Value) (hb : Below w.heap.size w w2) (ho : w2.ownsRow w.heap.size 167 3 v2 (A.length + 1) (A.flatMap actC ++ actC (.cut m))) => ref_more hp hj hb ho hfits hbulk (.int .i64 0)
      have HP : Hid (∀ W, Below w.heap.size w W → W.cell? ⟨p, 0, none⟩ = some (.string (strO D)) ∧ W.cell? ⟨p, 1, none⟩ = some (.slice ad A.length c) ∧ W.frozen? ⟨p, 0, none⟩ = false ∧ W.frozen? ⟨p, 1, none⟩ = false) := Lib.hid fun W hW => ⟨(hp.below hW).at0, (hp.below hW).at1, (hp.below hW).free 0, (hp.below hW).free 1⟩
      have HA := Lib.hid ha
      have HROW : Hid (∀ g, ad = some g → ∀ W, Below w.heap.size w W → ∀ j u, (A.flatMap actC)[j]? = some u → W.cell? (g.add j) = some u) := Lib.hid fun g hg W hW j u hju => by
        subst hg
        rcases (owns_below ha hW).2 with ⟨hv, _⟩ | ⟨g', cap, cur, hv, _, hgc, h1, h2, h3, ht⟩
        · cases hv
        · cases hv
          rw [Addr.add_lit, Nat.zero_add, cell_of_row W g' _ _ _ _ hgc, ← Array.getElem?_toList]
          have hjl := (List.getElem?_eq_some_iff.1 hju).1
          rw [← ht, List.getElem?_take] at hju
          split at hju
          · exact hju
          · cases hju
      clear h hp ha hj hj2 hL hrow hc
      go_enter Tryz.func122, Tryz.ntmps122
      go_upto_region 4 with (first
        | (go_at_call 127; (with_reducible refine (Q28.out _ (Below.refl _ w)).mono ?_); rintro e w1 ⟨rfl, hb⟩)
        | (go_at_call 127; (with_reducible refine (Q28.out _ hb).mono ?_); rintro e w2 ⟨rfl, hb2⟩; have hb2 := Below.next hb hb2))
      obtain ⟨k0, k1, f0, f1⟩ := HP.out _ hb2
      have hz2 := hb2.size
      have HB2 := Lib.hid (below_alloc' (o := .cells #[] 167) hb2)
      have hcut : ∀ u ∈ actC (.cut m), u.oneCell' = true := by intro u hu; simp [actC] at hu; rcases hu with rfl | rfl | rfl <;> rfl
      have hp2 : p < w2.heap.size := by omega
      obtain ⟨j0, j1, i0, i1⟩ := HP.out _ HB2.out
      clear hb hb2
      cases ad with
      | some g =>
        go_wp2_with (first
          | (at_builtin; refine wpList_append_ref rfl _ _ rfl rfl w.heap.size (.slice (some ⟨w2.heap.size, 0, none⟩) 0 0) 0 [] g A.length c (A.flatMap actC) rfl rfl (flat_length A) (HROW.out g rfl _ HB2.out) (actC_one A) (World.ownsRow_made w2 #[] 0 hz2 (Nat.zero_le _) (by simp)) HB2.out.size (by omega) ?_; intro v3 w3 o3 g3;
              rw [List.nil_append, Nat.zero_add] at o3; have hb3 := HB2.out.grown g3 HB2.out.size (fun k hk => by cases hk; exact hz2); have HB3 := Lib.hid hb3; have HO3 := Lib.hid o3; obtain ⟨k0, k1, f0, f1⟩ := HP.out _ hb3; obtain ⟨l0, l1, m0, m1⟩ := HP.out _ (below_alloc' (o := .cells (actC (.cut m)).toArray 167) hb3); unfold actC at l0 l1 m0 m1; clear o3 g3 hb3)
          | (at_builtin; refine wpList_append_ref rfl _ _ rfl rfl w.heap.size v3 A.length (A.flatMap actC) ⟨w3.heap.size, 0, none⟩ 1 1 (actC (.cut m)) rfl rfl rfl (cells_new w3 (actC (.cut m)) 167) hcut (owns_below HO3.out (below_alloc' (Below.refl _ w3))) (below_alloc' HB3.out).size (by omega) ?_; intro v4 w4 o4 g4; have hb4 := (below_alloc' HB3.out).grown g4 (below_alloc' HB3.out).size (fun k hk => owns_new HO3.out k hk); have HB4 := Lib.hid hb4; have HO4 := Lib.hid o4; obtain ⟨l0, l1, m0, m1⟩ := HP.out _ hb4; obtain ⟨ad4, c4, rfl⟩ := owns_slice72 o4; clear o4 g4 hb4))
        go_ret
        exact HE.out _ _ HB4.out HO4.out
      | none =>
        have hA0 : A = [] := by
          rcases HA.out.2 with ⟨_, h0⟩ | ⟨g, cap, cur, hv, _⟩
          · exact List.eq_nil_of_length_eq_zero h0
          · cases hv
        subst hA0
        have hC2 : ∀ j u, (actC (.cut m))[j]? = some u → ((w2.alloc (.cells #[] 167)).alloc (.cells #[.bool true, .int .i64 (m : Int), .string ⟨#[]⟩] 167)).cell? ((⟨w2.heap.size + 1, 0, none⟩ : Addr).add j) = some u := by
          have e : (w2.alloc (.cells #[] 167)).heap.size = w2.heap.size + 1 := by simp
          have h := cells_new (w2.alloc (.cells #[] 167)) (actC (.cut m)) 167
          rw [e] at h
          exact h
        have HO2 := Lib.hid (World.ownsRow_made (base := w.heap.size) (e := 167) (size := 3) w2 #[] 0 hz2 (Nat.zero_le _) (by simp))
        obtain ⟨l0, l1, m0, m1⟩ := HP.out _ (below_alloc' (o := .cells (actC (.cut m)).toArray 167) HB2.out)
        unfold actC at l0 l1 m0 m1
        go_wp2_with (at_builtin; refine wpList_append_ref rfl _ _ rfl rfl w.heap.size (.slice (some ⟨w2.heap.size, 0, none⟩) 0 0) 0 [] ⟨w2.heap.size + 1, 0, none⟩ 1 1 (actC (.cut m)) rfl rfl rfl hC2 hcut (owns_below HO2.out (below_alloc' (Below.refl _ _))) (below_alloc' HB2.out).size (by omega) ?_; intro v4 w4 o4 g4; have hb4 := (below_alloc' HB2.out).grown g4 (below_alloc' HB2.out).size (fun k hk => by cases hk; exact hz2); have HB4 := Lib.hid hb4; have HO4 := Lib.hid o4; obtain ⟨l0, l1, m0, m1⟩ := HP.out _ hb4; obtain ⟨ad4, c4, rfl⟩ := owns_slice72 o4; clear o4 g4 hb4)
        go_ret
        exact HE.out _ _ HB4.out HO4.out
    · rw [show cutT L A m = A by unfold cutT; rw [if_neg (by omega)]]
      have d3 : decide (m < L.length) = false := decide_eq_false hm
      clear h hp ha hj hj2 hL
      go_enter Tryz.func122, Tryz.ntmps122
      go_wp2_with (first
        | (go_at_call 127; (with_reducible refine (Q28.out _ (Below.refl _ w)).mono ?_); rintro e w1 ⟨rfl, hb⟩)
        | (go_at_call 127; (with_reducible refine (Q28.out _ hb).mono ?_); rintro e w2 ⟨rfl, hb2⟩; have hb2 := Below.next hb hb2; have HB := Lib.hid hb2))
      go_ret
      exact HSTAY.out _ HB.out _
end Go.Proofs.YtmmoilmfpiclgaaGreat
namespace Go.Proofs.YtmmoilmfpiclgaaGreat
open Go.RowKit Go.Shelf

/-- The acts' cells, one behind the other. -/
theorem acts_row {w : World} {ad : Option Addr} {n c : Nat} {xs : List Value} (ha : w.ownsRow 0 167 3 (.slice ad n c) n xs) : ∀ g, ad = some g → ∀ W, Below w.heap.size w W → ∀ j u, xs[j]? = some u → W.cell? (g.add j) = some u := fun g hg W hW j u hju => by
  subst hg
  rcases (owns_below ha hW).2 with ⟨hv, _⟩ | ⟨g', cap, cur, hv, _, hgc, h1, h2, h3, ht⟩
  · cases hv
  · cases hv
    rw [Addr.add_lit, Nat.zero_add, cell_of_row W g' _ _ _ _ hgc, ← Array.getElem?_toList]
    rw [← ht, List.getElem?_take] at hju
    split at hju
    · exact hju
    · cases hju

set_option maxHeartbeats 1000000 in
set_option maxRecDepth 100000 in
theorem ref_append {w : World} {p : Nat} {D : List UInt8} {A : List Do} {J : Nat → Prop} {l : List ByteArray} {v : Value} (h : RefAt w p D A J) (hv : Strs w v l) (hll : l.length ≤ 1000) (hbulk : bulk D A + (joined l).length ≤ 100000) (hlen : A.length ≤ 1000) :
    Calls Tryz.prog 131 #[.pointer (some ⟨p, 0, none⟩), v] w (RefWent w p D (appT A (joined l)) J (.tuple #[])) := by
  obtain ⟨av, hp, ha, hj, hj2⟩ := id h.it
  have hp : Duo w p (.string (strO D)) av := hp
  have hpl := hp.lt
  have HSTAY : Hid (∀ W, Below w.heap.size w W → ∀ r, RefWent w p D A J r (.returned r) W) := Lib.hid fun W hW r => ⟨rfl, J, h.below hW, fun g hg => .inl hg, Kept.below hW⟩
  obtain ⟨ads, cs, rfl, hc⟩ := hv
  have HC : Hid (∀ W, Below w.heap.size w W → ∀ i, i < l.length → ∃ b o, ads = some ⟨b, o, none⟩ ∧ W.cell? ⟨b, o + i, none⟩ = some (.string (l.getD i ⟨#[]⟩))) := Lib.hid fun W hW i hi => by
    obtain ⟨b, o, ha, hE⟩ := hc i hi
    exact ⟨b, o, ha, by rw [hW.cell (p := ⟨b, o + i, none⟩) (block_lt_of_cell hE)]; exact hE⟩
  have HBK := Lib.hid hbulk
  have HH := Lib.hid h
  have HP : Hid (∀ W, Below w.heap.size w W → W.cell? ⟨p, 0, none⟩ = some (.string (strO D)) ∧ W.cell? ⟨p, 1, none⟩ = some av ∧ W.frozen? ⟨p, 0, none⟩ = false ∧ W.frozen? ⟨p, 1, none⟩ = false) := Lib.hid fun W hW => ⟨(hp.below hW).at0, (hp.below hW).at1, (hp.below hW).free 0, (hp.below hW).free 1⟩
  have HA := Lib.hid ha
  have HE : Hid (joined l ≠ [] → ∀ (w2 : World) (v2 : Value), Below w.heap.size w w2 → w2.ownsRow w.heap.size 167 3 v2 (A.length + 1) (A.flatMap actC ++ actC (.app (joined l))) → RefWent w p D (A ++ [.app (joined l)]) J (.tuple #[]) (.returned (.tuple #[])) (w2.setCell ⟨p, 1, none⟩ v2)) := Lib.hid fun hne w2 v2 hb ho =>
    ref_more hp hj hb ho ((fits_append D A [.app (joined l)]).2 ⟨h.fits, hne, trivial⟩) (by rw [bulk_app]; exact hbulk) (.tuple #[])
  clear h hp ha hj hj2 hc hbulk
  go_enter Tryz.func131, Tryz.ntmps131
  go_wp2
  go_loopw [4, 5] (fun s4 s5 wr => ∃ k : Nat, k ≤ l.length ∧ s5 = .int .i64 k ∧ s4 = .string (strO (joined (l.take k))) ∧ Below w.heap.size w wr) (fun _ s5 _ => l.length - (intOf s5).toNat)
  case atStart => exact ⟨0, Nat.zero_le _, rfl, rfl, Below.refl _ w⟩
  case round =>
    obtain ⟨k, hk, rfl, rfl, hb⟩ := hrel
    by_cases hlt : k < l.length
    · obtain ⟨b, o, rfl, hcx⟩ := HC.out _ hb k hlt
      have hsn := joined_take l k hlt
      have hle := joined_le l (k + 1)
      have HB := Lib.hid hb
      generalize l.getD k ⟨#[]⟩ = x at hcx hsn
      have hjx : strO (joined (l.take (k + 1))) = strO (joined (l.take k)) ++ x := by rw [hsn, ← strO_join, strO_of]
      have hsz : (strO (joined (l.take k))).size + x.size = (joined (l.take (k + 1))).length := by rw [← strO_size (joined (l.take (k + 1))), hjx, ByteArray.size_append]
      have HBO := HBK.out
      have hov : ¬ 9223372036854775807 < (strO (joined (l.take k))).size + x.size := by omega
      have HJX := Lib.hid hjx
      clear hsn hjx hle hsz hb
      go_wp2
      exact ⟨⟨k + 1, by omega, by go_num, by rw [HJX.out], HB.out⟩, by simp [intOf]; omega⟩
    · obtain rfl : k = l.length := by omega
      rw [List.take_length]
      by_cases hj : joined l = []
      · have HAP := Lib.hid (show appT A (joined l) = A by unfold appT; rw [if_pos hj])
        have hn : (strO (joined l)).toList.isEmpty = true := by rw [ByteArray.toList_eq, strO_list, hj]; rfl
        have HB := Lib.hid hb
        clear hb HE hj
        go_wp2
        have hfin := HSTAY.out _ HB.out (.tuple #[])
        rw [← HAP.out] at hfin
        exact bodyPost_end (v := .tuple #[]) (by simp [results, Tryz.results131, go_sem]) rfl hfin
      · have hap : appT A (joined l) = A ++ [.app (joined l)] := by unfold appT; rw [if_neg hj]
        have hn : (strO (joined l)).toList.isEmpty = false := by
          rw [ByteArray.toList_eq, strO_list]
          cases hjj : joined l with
          | nil => exact absurd hjj hj
          | cons _ _ => rfl
        have HE := Lib.hid (HE.out hj)
        obtain ⟨Y, hY⟩ : ∃ Y, joined l = Y := ⟨_, rfl⟩
        have HAP : Hid (appT A (joined l) = A ++ [.app Y]) := Lib.hid (by rw [hap, hY])
        rw [hY] at hn HE
        rw [hY]
        clear hap
        obtain ⟨ad, c, rfl, hc1, hc2, _⟩ := acts_cells HA.out
        have HROW := Lib.hid (acts_row HA.out)
        obtain ⟨k0, k1, f0, f1⟩ := HP.out _ hb
        have hz2 := hb.size
        have HB2 := Lib.hid (below_alloc' (o := .cells #[] 167) hb)
        have hone : ∀ u ∈ actC (.app Y), u.oneCell' = true := by intro u hu; simp [actC] at hu; rcases hu with rfl | rfl | rfl <;> rfl
        have hp2 : p < wr.heap.size := by omega
        obtain ⟨j0, j1, i0, i1⟩ := HP.out _ HB2.out
        clear hb hj hY
        cases ad with
        | some g =>
          go_wp2_with (first
            | (at_builtin; refine wpList_append_ref rfl _ _ rfl rfl w.heap.size (.slice (some ⟨wr.heap.size, 0, none⟩) 0 0) 0 [] g A.length c (A.flatMap actC) rfl rfl (flat_length A) (HROW.out g rfl _ HB2.out) (actC_one A) (World.ownsRow_made wr #[] 0 hz2 (Nat.zero_le _) (by simp)) HB2.out.size (by omega) ?_; intro v3 w3 o3 g3;
                rw [List.nil_append, Nat.zero_add] at o3; have hb3 := HB2.out.grown g3 HB2.out.size (fun k hk => by cases hk; exact hz2); have HB3 := Lib.hid hb3; have HO3 := Lib.hid o3; obtain ⟨k0, k1, f0, f1⟩ := HP.out _ hb3; obtain ⟨l0, l1, m0, m1⟩ := HP.out _ (below_alloc' (o := .cells (actC (.app Y)).toArray 167) hb3); unfold actC at l0 l1 m0 m1; clear o3 g3 hb3)
            | (at_builtin; refine wpList_append_ref rfl _ _ rfl rfl w.heap.size v3 A.length (A.flatMap actC) ⟨w3.heap.size, 0, none⟩ 1 1 (actC (.app Y)) rfl rfl rfl (cells_new w3 (actC (.app Y)) 167) hone (owns_below HO3.out (below_alloc' (Below.refl _ w3))) (below_alloc' HB3.out).size (by omega) ?_; intro v4 w4 o4 g4; have hb4 := (below_alloc' HB3.out).grown g4 (below_alloc' HB3.out).size (fun k hk => owns_new HO3.out k hk); have HB4 := Lib.hid hb4; have HO4 := Lib.hid o4; obtain ⟨l0, l1, m0, m1⟩ := HP.out _ hb4; obtain ⟨ad4, c4, rfl⟩ := owns_slice72 o4; clear o4 g4 hb4))
          have hfin := HE.out _ _ HB4.out HO4.out
          rw [← HAP.out] at hfin
          exact bodyPost_end (v := .tuple #[]) (by simp [results, Tryz.results131, go_sem]) rfl hfin
        | none =>
          have hA0 : A = [] := by
            rcases HA.out.2 with ⟨_, h0⟩ | ⟨g, cap, cur, hv, _⟩
            · exact List.eq_nil_of_length_eq_zero h0
            · cases hv
          subst hA0
          have hC2 : ∀ j u, (actC (.app Y))[j]? = some u → ((wr.alloc (.cells #[] 167)).alloc (.cells #[.bool false, .int .i64 0, .string (strO Y)] 167)).cell? ((⟨wr.heap.size + 1, 0, none⟩ : Addr).add j) = some u := by
            have e : (wr.alloc (.cells #[] 167)).heap.size = wr.heap.size + 1 := by simp
            have h := cells_new (wr.alloc (.cells #[] 167)) (actC (.app Y)) 167
            rw [e] at h
            exact h
          have HO2 := Lib.hid (World.ownsRow_made (base := w.heap.size) (e := 167) (size := 3) wr #[] 0 hz2 (Nat.zero_le _) (by simp))
          obtain ⟨l0, l1, m0, m1⟩ := HP.out _ (below_alloc' (o := .cells (actC (.app Y)).toArray 167) HB2.out)
          unfold actC at l0 l1 m0 m1
          go_wp2_with (at_builtin; refine wpList_append_ref rfl _ _ rfl rfl w.heap.size (.slice (some ⟨wr.heap.size, 0, none⟩) 0 0) 0 [] ⟨wr.heap.size + 1, 0, none⟩ 1 1 (actC (.app Y)) rfl rfl rfl hC2 hone (owns_below HO2.out (below_alloc' (Below.refl _ _))) (below_alloc' HB2.out).size (by omega) ?_; intro v4 w4 o4 g4; have hb4 := (below_alloc' HB2.out).grown g4 (below_alloc' HB2.out).size (fun k hk => by cases hk; exact hz2); have HB4 := Lib.hid hb4; have HO4 := Lib.hid o4; obtain ⟨l0, l1, m0, m1⟩ := HP.out _ hb4; obtain ⟨ad4, c4, rfl⟩ := owns_slice72 o4; clear o4 g4 hb4)
          have hfin := HE.out _ _ HB4.out HO4.out
          rw [← HAP.out] at hfin
          exact bodyPost_end (v := .tuple #[]) (by simp [results, Tryz.results131, go_sem]) rfl hfin
end Go.Proofs.YtmmoilmfpiclgaaGreat
namespace Go.Proofs.YtmmoilmfpiclgaaGreat
open Go.RowKit Go.Shelf

set_option maxHeartbeats 1000000 in
set_option maxRecDepth 100000 in
theorem ref_stays {w : World} {p : Nat} {D : List UInt8} {A : List Do} {J : Nat → Prop} {d q : Int} (h : RefAt w p D A J) (h1 : -9223372036854775808 ≤ d) (h2 : d ≤ 9223372036854775807) (h3 : -9223372036854775808 ≤ q) (h4 : q ≤ 9223372036854775807) :
    Calls Tryz.prog 141 #[.pointer (some ⟨p, 0, none⟩), .agg #[.int .i64 d, .int .i64 q]] w fun e w' => e = .returned (.string (strO (stays D A d q))) ∧ Below w.heap.size w w' := by
  obtain ⟨av, hp, ha, hj, hj2⟩ := id h.it
  obtain ⟨ad, c, rfl, hc1, hc2, hrow⟩ := acts_cells ha
  have hpl : p < w.heap.size := h.mem p hj
  have HF := Lib.hid h
  have HR := Lib.hid hrow
  have HP : Hid (∀ W, Below w.heap.size w W → W.cell? ⟨p, 0, none⟩ = some (.string (strO D)) ∧ W.cell? ⟨p, 1, none⟩ = some (.slice ad A.length c)) := Lib.hid fun W hW => by
    have t := (hW.block p hpl).trans hp
    exact ⟨by rw [cell_of_row _ _ 0 _ _ _ t]; rfl, by rw [cell_of_row _ _ 1 _ _ _ t]; rfl⟩
  obtain ⟨k, hk⟩ : ∃ k, upTo d A.length = k := ⟨_, rfl⟩
  have hkl : k ≤ A.length := by rw [← hk]; exact upTo_le d A.length
  have HK := Lib.hid hk
  obtain ⟨j0, j1⟩ := HP.out w (Below.refl _ w)
  clear h hp ha hrow hj hj2
  go_enter Tryz.func141, Tryz.ntmps141
  go_upto_region 2 with fail
  go_quiet (fail)
  rw [show (if 0 < (if (A.length : Int) < d then (A.length : Int) else d) then (if (A.length : Int) < d then (A.length : Int) else d) else 0) = (k : Int) by
    have := hk
    unfold upTo at this
    split <;> split <;> omega]
  generalize (if (A.length : Int) < d then (A.length : Int) else d) = x0
  have hbW : Below w.heap.size w (World.drewN (w.alloc (.cells #[.int .i64 d, .int .i64 q] 157)) nq) := below_drewN' (below_alloc' (Below.refl _ w))
  have bW : (World.drewN (w.alloc (.cells #[.int .i64 d, .int .i64 q] 157)) nq).heap[w.heap.size]? = some (.cells #[.int .i64 d, .int .i64 q] 157 (0, 0)) := heap_alloc_new w _
  generalize World.drewN (w.alloc (.cells #[.int .i64 d, .int .i64 q] 157)) nq = w0 at hbW bW ⊢
  have HBX : Hid (∀ W, Below w0.heap.size w0 W → W.cell? ⟨w.heap.size, 1, none⟩ = some (.int .i64 q)) := Lib.hid fun W hW => by
    rw [cell_of_row _ _ 1 _ _ _ ((hW.block _ (Array.getElem?_eq_some_iff.1 bW).1).trans bW)]; rfl
  clear j0 j1 bW
  go_wp2
  go_loopw [5, 7] (fun s5 s7 wr => ∃ i : Nat, i ≤ k ∧ s7 = .int .i64 i ∧ s5 = .string (strO (reads D (A.take i))) ∧ Below w0.heap.size w0 wr) (fun _ s7 _ => k - (intOf s7).toNat)
  case atStart => exact ⟨0, Nat.zero_le _, rfl, rfl, Below.refl _ w0⟩
  case round =>
    obtain ⟨i, hi, rfl, rfl, hb0⟩ := hrel
    have hb := Below.next hbW hb0
    obtain ⟨j0, j1⟩ := HP.out _ hb
    by_cases hlk : i < k
    · have hlt : i < A.length := by omega
      obtain ⟨b, rfl, hbl, hcs⟩ := HR.out i hlt
      have hc0 := (hb.cell (p := ⟨b, i * 3, none⟩) hbl).trans (hcs 0 (by omega))
      have hc1' := (hb.cell (p := ⟨b, i * 3 + 1, none⟩) hbl).trans (hcs 1 (by omega))
      have hc2' := (hb.cell (p := ⟨b, i * 3 + 2, none⟩) hbl).trans (hcs 2 (by omega))
      have hft := fits_at HF.out.fits i hlt
      have hbk := Nat.le_trans (reads_length D (A.take (i + 1))) (bulk_take D A (i + 1))
      have hsm := HF.out.small
      have hsn : reads D (A.take (i + 1)) = A[i].on (reads D (A.take i)) := by rw [List.take_succ_eq_append_getElem hlt, reads_snoc]
      have q41 := fun W : World => ref_done (w := W) (a := A[i]) hft (by rw [← hsn]; omega)
      simp only [← hsn] at q41
      have Q41 := Lib.hid q41
      clear q41 hft hbk hsn hk
      cases ha : A[i] with
      | app bb =>
        rw [ha] at hc0 hc1' hc2' Q41
        unfold actC at hc0 hc1' hc2' Q41
        simp only [List.getElem?_cons_zero, List.getElem?_cons_succ] at hc0 hc1' hc2' Q41
        clear ha
        go_wp2_with (go_at_call 140; (with_reducible refine (Q41.out _).mono ?_); rintro e w1 ⟨rfl, b1⟩; have HB1 := Lib.hid (Below.next hb0 b1); clear b1)
        exact ⟨⟨i + 1, by omega, by go_num, rfl, HB1.out⟩, by simp [intOf]; omega⟩
      | cut n =>
        rw [ha] at hc0 hc1' hc2' Q41
        unfold actC at hc0 hc1' hc2' Q41
        simp only [List.getElem?_cons_zero, List.getElem?_cons_succ] at hc0 hc1' hc2' Q41
        clear ha
        go_wp2_with (go_at_call 140; (with_reducible refine (Q41.out _).mono ?_); rintro e w1 ⟨rfl, b1⟩; have HB1 := Lib.hid (Below.next hb0 b1); clear b1)
        exact ⟨⟨i + 1, by omega, by go_num, rfl, HB1.out⟩, by simp [intOf]; omega⟩
    · obtain rfl : i = k := by omega
      have HB := Lib.hid hb
      have hbx := HBX.out _ hb0
      have hst := stays_eq D A d q
      unfold doneT nextT at hst
      rw [hk] at hst
      by_cases hlt : i < A.length
      · obtain ⟨b, rfl, hbl, hcs⟩ := HR.out i hlt
        have hc0 := (hb.cell (p := ⟨b, i * 3, none⟩) hbl).trans (hcs 0 (by omega))
        have hc1' := (hb.cell (p := ⟨b, i * 3 + 1, none⟩) hbl).trans (hcs 1 (by omega))
        have hc2' := (hb.cell (p := ⟨b, i * 3 + 2, none⟩) hbl).trans (hcs 2 (by omega))
        have hsm := stays_small HF.out.small d q
        rw [List.drop_eq_getElem_cons hlt, List.head?_cons] at hst
        cases ha : A[i] with
        | cut n =>
          rw [ha] at hc0 hc1' hc2' hst
          unfold actC at hc0 hc1' hc2'
          simp only [List.getElem?_cons_zero, List.getElem?_cons_succ, List.append_nil] at hc0 hc1' hc2' hst
          have HST := Lib.hid hst
          clear hst ha hk hb hb0
          go_wp2
          go_ret
          rw [HST.out]
          exact ⟨rfl, HB.out⟩
        | app bb =>
          rw [ha] at hc0 hc1' hc2' hst
          unfold actC at hc0 hc1' hc2'
          simp only [List.getElem?_cons_zero, List.getElem?_cons_succ] at hc0 hc1' hc2' hst
          obtain ⟨m, hm⟩ : ∃ m, upTo q bb.length = m := ⟨_, rfl⟩
          rw [hm] at hst
          have hmb : m ≤ bb.length := by rw [← hm]; exact upTo_le q bb.length
          obtain ⟨B, hB⟩ : ∃ B, strO bb = B := ⟨_, rfl⟩
          have hBs : B.size = bb.length := by rw [← hB, strO_size]
          obtain ⟨T, hT⟩ : ∃ T, strO (bb.take m) = T := ⟨_, rfl⟩
          have hTs : T.size = (bb.take m).length := by rw [← hT, strO_size]
          have he : B.extract 0 m = T := by rw [← hB, strO_take, hT]
          have e2 : (if 0 < (if (B.size : Int) < q then (B.size : Int) else q) then (if (B.size : Int) < q then (B.size : Int) else q) else 0) = (m : Int) := by
            have := hm
            unfold upTo at this
            split <;> split <;> omega
          have f3 : (m : Int) ≤ (B.size : Int) := by omega
          have f4 : m ≤ B.size := by omega
          have hov : ¬ 9223372036854775807 < (strO (reads D (A.take i))).size + T.size := by
            rw [strO_size, hTs]
            rw [hst, List.length_append] at hsm
            omega
          have HST : Hid (strO (stays D A d q) = strO (reads D (A.take i)) ++ T) := Lib.hid (by rw [hst, ← strO_join, hT])
          rw [hB] at hc2'
          clear hst ha hk hb hb0 hm hmb hB hBs hT hTs hsm
          go_wp2
          all_goals
            go_ret
            rw [HST.out]
            exact ⟨rfl, HB.out⟩
      · have HST : Hid (stays D A d q = reads D (A.take i)) := Lib.hid (by rw [hst, List.drop_of_length_le (by omega)]; simp)
        clear hst hk hb hb0
        go_wp2
        go_ret
        rw [HST.out]
        exact ⟨rfl, HB.out⟩

set_option maxHeartbeats 1000000 in
set_option maxRecDepth 100000 in
theorem ref_stay {w : World} {p : Nat} {D : List UInt8} {A : List Do} {J : Nat → Prop} {d q : Int} (h : RefAt w p D A J) (h1 : -9223372036854775808 ≤ d) (h2 : d ≤ 9223372036854775807) (h3 : -9223372036854775808 ≤ q) (h4 : q ≤ 9223372036854775807) :
    Calls Tryz.prog 130 #[.pointer (some ⟨p, 0, none⟩), .agg #[.int .i64 d, .int .i64 q]] w (RefWent w p (stays D A d q) [] J (.tuple #[])) := by
  obtain ⟨av, hp, ha, hj, hj2⟩ := id h.it
  have hp : Duo w p (.string (strO D)) av := hp
  have hpl := hp.lt
  have Q42 : Hid (∀ W, Below w.heap.size w W → Calls Tryz.prog 141 #[.pointer (some ⟨p, 0, none⟩), .agg #[.int .i64 d, .int .i64 q]] W fun e w' => e = .returned (.string (strO (stays D A d q))) ∧ Below W.heap.size W w') := Lib.hid fun W hW => ref_stays (h.below hW) h1 h2 h3 h4
  have hS := stays_small h.small d q
  have HE := Lib.hid fun (w1 : World) (hb : Below w.heap.size w w1) => ref_settled h hp hj hb (stays D A d q) hS
  have HP : Hid (∀ W, Below w.heap.size w W → W.cell? ⟨p, 0, none⟩ = some (.string (strO D)) ∧ W.cell? ⟨p, 1, none⟩ = some av ∧ W.frozen? ⟨p, 0, none⟩ = false ∧ W.frozen? ⟨p, 1, none⟩ = false) := Lib.hid fun W hW => ⟨(hp.below hW).at0, (hp.below hW).at1, (hp.below hW).free 0, (hp.below hW).free 1⟩
  have HB0 : Hid (Below w.heap.size w (w.alloc (.cells #[.int .i64 d, .int .i64 q] 157))) := Lib.hid (below_alloc' (Below.refl _ w))
  clear h hp ha hj hj2 hS
  obtain ⟨S, hS⟩ : ∃ S, strO (stays D A d q) = S := ⟨_, rfl⟩
  rw [hS] at Q42 HE
  clear hS
  go_enter Tryz.func130, Tryz.ntmps130
  go_wp2_with (go_at_call 141; (with_reducible refine (Q42.out _ HB0.out).mono ?_); rintro e w1 ⟨rfl, hb1⟩; have hb := Below.next HB0.out hb1; obtain ⟨k0, k1, f0, f1⟩ := HP.out _ hb; have HB := Lib.hid hb; clear hb hb1)
  exact bodyPost_end (v := .tuple #[]) (by simp [results, Tryz.results130, go_sem]) rfl (HE.out _ HB.out)
end Go.Proofs.YtmmoilmfpiclgaaGreat

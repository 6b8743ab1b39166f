/-
  An arc, read. Steps of a region that draws its order: a call that comes back, a part more behind a row of one's own. A state, read. A state, read: one that is not Final; any one.
-/
import Derived.Test.YtjiilmiikejnhaaDoorP11
import Derived.Deep.DeepCutAuto
set_option linter.unusedVariables false
set_option linter.unusedSimpArgs false
namespace Go.Proofs.YtjiilmiikejnhaaDoor
open Go.RowKit Go.Shelf

theorem Rdr.kp {w w' : World} {pa pm ps a : Nat} {s : ByteArray} {M : Nat → Prop} (h : Rdr w pa pm ps s a) (hk : Kp M w w') (h1 : ¬ M pa) (h2 : ¬ M pm) (h3 : ¬ M ps) : Rdr w' pa pm ps s a :=
  ⟨(hk.block _ (Array.getElem?_eq_some_iff.1 h.pos).1 h1).trans h.pos, (hk.block _ (Array.getElem?_eq_some_iff.1 h.must).1 h2).trans h.must, (hk.block _ (Array.getElem?_eq_some_iff.1 h.text).1 h3).trans h.text⟩
theorem Rdr.lt {w : World} {pa pm ps a : Nat} {s : ByteArray} (h : Rdr w pa pm ps s a) : pa < w.heap.size ∧ pm < w.heap.size ∧ ps < w.heap.size :=
  ⟨(Array.getElem?_eq_some_iff.1 h.pos).1, (Array.getElem?_eq_some_iff.1 h.must).1, (Array.getElem?_eq_some_iff.1 h.text).1⟩

/-- The reader's closures. -/
def rdrC (pa pm ps : Nat) : Array Value := #[.func (.func 79) #[] #[.pointer (some ⟨pa, 0, none⟩)], .func (.func 80) #[] #[.pointer (some ⟨pa, 0, none⟩), .pointer (some ⟨pm, 0, none⟩), .pointer (some ⟨ps, 0, none⟩)],
  .func (.func 81) #[] #[.pointer (some ⟨pm, 0, none⟩), .pointer (some ⟨pa, 0, none⟩), .pointer (some ⟨ps, 0, none⟩)], .func (.func 82) #[] #[.pointer (some ⟨ps, 0, none⟩), .pointer (some ⟨pa, 0, none⟩), .pointer (some ⟨pm, 0, none⟩)],
  .func (.func 84) #[] #[.pointer (some ⟨pm, 0, none⟩), .pointer (some ⟨pa, 0, none⟩), .pointer (some ⟨ps, 0, none⟩)]]
def RB (w : World) (r pa pm ps : Nat) : Prop := w.heap[r]? = some (.cells (rdrC pa pm ps) 115 (0, 0))
theorem RB.at0 {w : World} {r pa pm ps : Nat} (h : RB w r pa pm ps) : w.cell? ⟨r, 0, none⟩ = some (.func (.func 79) #[] #[.pointer (some ⟨pa, 0, none⟩)]) := by rw [cell_of_row w r 0 _ _ _ h]; rfl
theorem RB.at1 {w : World} {r pa pm ps : Nat} (h : RB w r pa pm ps) : w.cell? ⟨r, 1, none⟩ = some (.func (.func 80) #[] #[.pointer (some ⟨pa, 0, none⟩), .pointer (some ⟨pm, 0, none⟩), .pointer (some ⟨ps, 0, none⟩)]) := by rw [cell_of_row w r 1 _ _ _ h]; rfl
theorem RB.at2 {w : World} {r pa pm ps : Nat} (h : RB w r pa pm ps) : w.cell? ⟨r, 2, none⟩ = some (.func (.func 81) #[] #[.pointer (some ⟨pm, 0, none⟩), .pointer (some ⟨pa, 0, none⟩), .pointer (some ⟨ps, 0, none⟩)]) := by rw [cell_of_row w r 2 _ _ _ h]; rfl
theorem RB.at3 {w : World} {r pa pm ps : Nat} (h : RB w r pa pm ps) : w.cell? ⟨r, 3, none⟩ = some (.func (.func 82) #[] #[.pointer (some ⟨ps, 0, none⟩), .pointer (some ⟨pa, 0, none⟩), .pointer (some ⟨pm, 0, none⟩)]) := by rw [cell_of_row w r 3 _ _ _ h]; rfl
theorem RB.at4 {w : World} {r pa pm ps : Nat} (h : RB w r pa pm ps) : w.cell? ⟨r, 4, none⟩ = some (.func (.func 84) #[] #[.pointer (some ⟨pm, 0, none⟩), .pointer (some ⟨pa, 0, none⟩), .pointer (some ⟨ps, 0, none⟩)]) := by rw [cell_of_row w r 4 _ _ _ h]; rfl
theorem RB.kp {w w' : World} {r pa pm ps : Nat} {M : Nat → Prop} (h : RB w r pa pm ps) (hk : Kp M w w') (hm : ¬ M r) : RB w' r pa pm ps := (hk.block _ (Array.getElem?_eq_some_iff.1 h).1 hm).trans h

/-- A box of an arc. -/
def AB (w : World) (q b o : Nat) (t : Int) : Prop := w.heap[q]? = some (.cells #[.int .u8 (b : Int), .int .u64 (o : Int), .int .i64 t] 66 (0, 0))
theorem AB.at0 {w : World} {q b o : Nat} {t : Int} (h : AB w q b o t) : w.cell? ⟨q, 0, none⟩ = some (.int .u8 (b : Int)) := by rw [cell_of_row w q 0 _ _ _ h]; rfl
theorem AB.at1 {w : World} {q b o : Nat} {t : Int} (h : AB w q b o t) : w.cell? ⟨q, 1, none⟩ = some (.int .u64 (o : Int)) := by rw [cell_of_row w q 1 _ _ _ h]; rfl
theorem AB.at2 {w : World} {q b o : Nat} {t : Int} (h : AB w q b o t) : w.cell? ⟨q, 2, none⟩ = some (.int .i64 t) := by rw [cell_of_row w q 2 _ _ _ h]; rfl
theorem AB.free {w : World} {q b o : Nat} {t : Int} (h : AB w q b o t) (j : Nat) : w.frozen? ⟨q, j, none⟩ = false := by unfold AB at h; simp [World.frozen?, h]
theorem AB.kp {w w' : World} {q b o : Nat} {t : Int} {M : Nat → Prop} (h : AB w q b o t) (hk : Kp M w w') (hm : ¬ M q) : AB w' q b o t := (hk.block _ (Array.getElem?_eq_some_iff.1 h).1 hm).trans h
theorem AB.set0 {w : World} {q b o : Nat} {t : Int} (h : AB w q b o t) (c : Nat) : AB (w.setCell ⟨q, 0, none⟩ (.int .u8 (c : Int))) q c o t ∧ Kp (fun g => g = q) w (w.setCell ⟨q, 0, none⟩ (.int .u8 (c : Int))) := ⟨cells_setCell h 0 _, Kp.grown (grown_setCell w q 0 _) (fun g e => (Option.some.inj e).symm)⟩
theorem AB.set1 {w : World} {q b o : Nat} {t : Int} (h : AB w q b o t) (c : Nat) : AB (w.setCell ⟨q, 1, none⟩ (.int .u64 (c : Int))) q b c t ∧ Kp (fun g => g = q) w (w.setCell ⟨q, 1, none⟩ (.int .u64 (c : Int))) := ⟨cells_setCell h 1 _, Kp.grown (grown_setCell w q 1 _) (fun g e => (Option.some.inj e).symm)⟩
theorem AB.set2 {w : World} {q b o : Nat} {t : Int} (h : AB w q b o t) (c : Int) : AB (w.setCell ⟨q, 2, none⟩ (.int .i64 c)) q b o c ∧ Kp (fun g => g = q) w (w.setCell ⟨q, 2, none⟩ (.int .i64 c)) := ⟨cells_setCell h 2 _, Kp.grown (grown_setCell w q 2 _) (fun g e => (Option.some.inj e).symm)⟩

def arcV (a : DArc) : Value := .agg #[.int .u8 (a.b : Int), .int .u64 (a.out : Int), .int .i64 a.to]

theorem numR_lt {s : List UInt8} {a least most n k : Nat} (h : numR s a least most = .ok (n, k)) : least ≤ n ∧ n ≤ most ∧ a < k ∧ k ≤ s.length ∧ n < 18446744073709551616 := by
  unfold numR at h
  simp only at h
  by_cases h1 : (Plain.get s (a : Int)).2.2 = 0
  · rw [if_neg (by simpa using h1)] at h
    by_cases h2 : (Plain.get s (a : Int)).1 < least ∨ most < (Plain.get s (a : Int)).1
    · rw [if_pos h2] at h; cases h
    · rw [if_neg h2] at h
      injection h with h
      injection h with h3 h4
      obtain ⟨k', e1, e2, e3⟩ := get_nat h1
      rw [e1] at h4
      have := Plain.get_lt s (a : Int)
      refine ⟨by omega, by omega, by omega, by omega, by omega⟩
  · rw [if_pos (by simpa using h1)] at h; cases h
theorem letR_lt {s : List UInt8} {a k : Nat} {b : UInt8} (h : letR s a = .ok (b, k)) : k = a + 1 ∧ k ≤ s.length := by
  unfold letR at h
  split at h
  · injection h with h
    injection h with h1 h2
    omega
  · cases h

theorem faulted_new {w w1 w' : World} {pa c a : Nat} {e : Ending} (_hq : pa < w.heap.size) (hk : Kp (fun g => g = pa ∨ g = w.heap.size + 1) w w1) (h : Faulted w1 pa c a e w') : Faulted w pa c a e w' :=
  Faulted.after (hk.mono fun g hg => hg.elim .inl fun e => .inr (by omega)) h

set_option maxHeartbeats 2000000 in
set_option maxRecDepth 100000 in
theorem arc_any {w : World} {pa pm ps a own : Nat} {s : ByteArray} (h : Rdr w pa pm ps s a) (hs : s.size ≤ 1000000000) (ha : a ≤ s.size) (ho : own ≤ 1000000000) :
    Calls Tryd.prog 85 #[.agg (rdrC pa pm ps), .int .u64 (own : Int)] w (Had w pa pm ps s arcV (arcR s.data.toList own a)) := by
  obtain ⟨w0, hw0⟩ : ∃ w0, w0 = (w.alloc (.cells (rdrC pa pm ps) 115)).alloc (.cells #[.int .u8 0, .int .u64 0, .int .i64 0] 66) := ⟨_, rfl⟩
  have hb0 : Below w.heap.size w w0 := by rw [hw0]; exact (below_alloc w _).trans ((below_alloc _ _).mono (by simp))
  have hrb : RB w0 w.heap.size pa pm ps := by rw [hw0]; exact ((below_alloc _ _).block _ (by simp)).trans (heap_alloc_new w _)
  have hab : AB w0 (w.heap.size + 1) 0 0 0 := by
    rw [hw0]
    have := heap_alloc_new (w.alloc (.cells (rdrC pa pm ps) 115)) (.cells #[.int .u8 0, .int .u64 0, .int .i64 0] 66)
    rw [show (w.alloc (.cells (rdrC pa pm ps) 115)).heap.size = w.heap.size + 1 by simp] at this
    exact this
  have hr0 := h.below hb0
  obtain ⟨l1, l2, l3⟩ := h.lt
  have QL := letter_any hr0 hs ha
  have HB0 := Lib.hid (And.intro hb0 (And.intro l1 (And.intro l2 l3)))
  unfold arcR
  cases hL : letR s.data.toList a with
  | error e1 =>
    obtain ⟨c1, p1⟩ := e1
    rw [hL] at QL
    dsimp only
    have Q := Lib.hid QL
    have k2 := hrb.at2
    clear QL hr0 h hrb hab hb0 l1 l2 l3
    go_enter Tryd.func85, Tryd.ntmps85
    go_upto_region 1 with fail
    rw [← hw0]
    clear hw0
    go_wp2_with (go_at_call 81; (with_reducible refine Q.out.mono ?_); rintro e' w1 h; have HF := Lib.hid (Faulted.after (Kp.below HB0.out.1) h); obtain ⟨bf, rfl, h1, h2, h3⟩ := h)
    exact ⟨rfl, HF.out⟩
  | ok r1 =>
    obtain ⟨b, a1⟩ := r1
    rw [hL] at QL
    dsimp only
    have hlt1 := letR_lt hL
    rw [ba_size] at hlt1
    have QL := Lib.hid QL
    have k2 := hrb.at2
    have HAB := Lib.hid hab
    have HRB := Lib.hid hrb
    have HQ : Hid (¬ w.heap.size + 1 = pa ∧ ¬ pa = w.heap.size + 1 ∧ ¬ pm = w.heap.size + 1 ∧ ¬ ps = w.heap.size + 1 ∧ ¬ w.heap.size = pa ∧ ¬ w.heap.size = w.heap.size + 1) := Lib.hid (by omega)
    clear hr0 h hrb hab hb0 l1 l2 l3 hL
    cases hN1 : numR s.data.toList a1 0 18446744073709551615 with
    | error e2 =>
      obtain ⟨c2, p2⟩ := e2
      dsimp only
      go_enter Tryd.func85, Tryd.ntmps85
      go_upto_region 1 with fail
      rw [← hw0]
      clear hw0
      go_wp2_with (first
                   | (go_at_call 81
                      (with_reducible refine QL.out.mono ?_)
                      go_loud (
                      rintro e' w1 ⟨rfl, hr1, hk1⟩
                      have ha1 := HAB.out.kp hk1 HQ.out.1
                      have f0 := ha1.free 0
                      have c0 := ha1.at0
                      obtain ⟨ha2, hk2⟩ := ha1.set0 b.toNat
                      have hr2 := hr1.kp hk2 HQ.out.2.1 HQ.out.2.2.1 HQ.out.2.2.2.1
                      have hrb2 := (HRB.out.kp hk1 HQ.out.2.2.2.2.1).kp hk2 HQ.out.2.2.2.2.2
                      have k3 := hrb2.at3
                      have qn1 : Calls Tryd.prog 82 #[.int .u64 0, .int .u64 18446744073709551615, .pointer (some ⟨ps, 0, none⟩), .pointer (some ⟨pa, 0, none⟩), .pointer (some ⟨pm, 0, none⟩)] _ (Had _ pa pm ps s (fun n : Nat => .int .u64 (n : Int)) (numR s.data.toList a1 0 18446744073709551615)) := number_any (least := 0) (most := 18446744073709551615) hr2 hs (by omega) (by omega) (by omega)
                      rw [hN1] at qn1
                      have QN1 := Lib.hid qn1
                      have H2 := Lib.hid (And.intro hr2 (And.intro ha2 (And.intro hrb2 (Kp.trans (M := fun g => g = pa ∨ g = w.heap.size + 1) ((Kp.below HB0.out.1).trans hk1 (fun g e => .inl (.inl e))) hk2 (fun g e => .inl (.inr e))))))
                      clear hr1 hk1 ha1 ha2 hk2 hr2 hrb2 qn1))
                   | (go_at_call 82; (with_reducible refine QN1.out.mono ?_); rintro e' w3 h; have HF := Lib.hid (faulted_new HB0.out.2.1 H2.out.2.2.2 h); obtain ⟨bf, rfl, h1, h2, h3⟩ := h))
      exact ⟨rfl, HF.out⟩
    | ok r2 =>
      obtain ⟨o, a2⟩ := r2
      dsimp only
      have hlt2 := numR_lt hN1
      rw [ba_size] at hlt2
      cases hN2 : numR s.data.toList a2 1 own with
      | error e3 =>
        obtain ⟨c3, p3⟩ := e3
        dsimp only
        go_enter Tryd.func85, Tryd.ntmps85
        go_upto_region 1 with fail
        rw [← hw0]
        clear hw0
        go_wp2_with (first
                   | (go_at_call 81
                      (with_reducible refine QL.out.mono ?_)
                      go_loud (
                      rintro e' w1 ⟨rfl, hr1, hk1⟩
                      have ha1 := HAB.out.kp hk1 HQ.out.1
                      have f0 := ha1.free 0
                      have c0 := ha1.at0
                      obtain ⟨ha2, hk2⟩ := ha1.set0 b.toNat
                      have hr2 := hr1.kp hk2 HQ.out.2.1 HQ.out.2.2.1 HQ.out.2.2.2.1
                      have hrb2 := (HRB.out.kp hk1 HQ.out.2.2.2.2.1).kp hk2 HQ.out.2.2.2.2.2
                      have k3 := hrb2.at3
                      have qn1 : Calls Tryd.prog 82 #[.int .u64 0, .int .u64 18446744073709551615, .pointer (some ⟨ps, 0, none⟩), .pointer (some ⟨pa, 0, none⟩), .pointer (some ⟨pm, 0, none⟩)] _ (Had _ pa pm ps s (fun n : Nat => .int .u64 (n : Int)) (numR s.data.toList a1 0 18446744073709551615)) := number_any (least := 0) (most := 18446744073709551615) hr2 hs (by omega) (by omega) (by omega)
                      rw [hN1] at qn1
                      have QN1 := Lib.hid qn1
                      have H2 := Lib.hid (And.intro hr2 (And.intro ha2 (And.intro hrb2 (Kp.trans (M := fun g => g = pa ∨ g = w.heap.size + 1) ((Kp.below HB0.out.1).trans hk1 (fun g e => .inl (.inl e))) hk2 (fun g e => .inl (.inr e))))))
                      clear hr1 hk1 ha1 ha2 hk2 hr2 hrb2 qn1))
                   | (go_at_call 82
                      (with_reducible refine QN1.out.mono ?_)
                      go_loud (
                      rintro e' w3 ⟨rfl, hr3, hk3⟩
                      have ha3 := H2.out.2.1.kp hk3 HQ.out.1
                      have f1 := ha3.free 1
                      have c1 := ha3.at1
                      obtain ⟨ha4, hk4⟩ := ha3.set1 o
                      have hr4 := hr3.kp hk4 HQ.out.2.1 HQ.out.2.2.1 HQ.out.2.2.2.1
                      have hrb4 := (H2.out.2.2.1.kp hk3 HQ.out.2.2.2.2.1).kp hk4 HQ.out.2.2.2.2.2
                      have k5 := hrb4.at3
                      have qn2 : Calls Tryd.prog 82 #[.int .u64 1, .int .u64 (own : Int), .pointer (some ⟨ps, 0, none⟩), .pointer (some ⟨pa, 0, none⟩), .pointer (some ⟨pm, 0, none⟩)] _ (Had _ pa pm ps s (fun n : Nat => .int .u64 (n : Int)) (numR s.data.toList a2 1 own)) := number_any (least := 1) (most := own) hr4 hs (by omega) (by omega) (by omega)
                      rw [hN2] at qn2
                      have QN2 := Lib.hid qn2
                      have H4 := Lib.hid (And.intro hr4 (And.intro ha4 (And.intro hrb4 ((H2.out.2.2.2.trans hk3 (fun g e => .inl (.inl e))).trans hk4 (fun g e => .inl (.inr e))))))
                      clear hr3 hk3 ha3 ha4 hk4 hr4 hrb4 qn2 c0 k3 f0))
                   | (go_at_call 82; (with_reducible refine QN2.out.mono ?_); rintro e' w5 h; have HF := Lib.hid (faulted_new HB0.out.2.1 H4.out.2.2.2 h); obtain ⟨bf, rfl, h1, h2, h3⟩ := h))
        exact ⟨rfl, HF.out⟩
      | ok r3 =>
        obtain ⟨t, a3⟩ := r3
        dsimp only
        have hlt3 := numR_lt hN2
        rw [ba_size] at hlt3
        have e5 : IntKind.u64.wrap ((own : Int) - (t : Int)) = ((own - t : Nat) : Int) := by rw [IntWalk.u64_in _ (by omega)]; omega
        have e6 : IntKind.i64.wrap ((own - t : Nat) : Int) = ((own - t : Nat) : Int) := IntWalk.i64_in _ (by omega)
        go_enter Tryd.func85, Tryd.ntmps85
        go_upto_region 1 with fail
        rw [← hw0]
        clear hw0
        go_wp2_with (first
                   | (go_at_call 81
                      (with_reducible refine QL.out.mono ?_)
                      go_loud (
                      rintro e' w1 ⟨rfl, hr1, hk1⟩
                      have ha1 := HAB.out.kp hk1 HQ.out.1
                      have f0 := ha1.free 0
                      have c0 := ha1.at0
                      obtain ⟨ha2, hk2⟩ := ha1.set0 b.toNat
                      have hr2 := hr1.kp hk2 HQ.out.2.1 HQ.out.2.2.1 HQ.out.2.2.2.1
                      have hrb2 := (HRB.out.kp hk1 HQ.out.2.2.2.2.1).kp hk2 HQ.out.2.2.2.2.2
                      have k3 := hrb2.at3
                      have qn1 : Calls Tryd.prog 82 #[.int .u64 0, .int .u64 18446744073709551615, .pointer (some ⟨ps, 0, none⟩), .pointer (some ⟨pa, 0, none⟩), .pointer (some ⟨pm, 0, none⟩)] _ (Had _ pa pm ps s (fun n : Nat => .int .u64 (n : Int)) (numR s.data.toList a1 0 18446744073709551615)) := number_any (least := 0) (most := 18446744073709551615) hr2 hs (by omega) (by omega) (by omega)
                      rw [hN1] at qn1
                      have QN1 := Lib.hid qn1
                      have H2 := Lib.hid (And.intro hr2 (And.intro ha2 (And.intro hrb2 (Kp.trans (M := fun g => g = pa ∨ g = w.heap.size + 1) ((Kp.below HB0.out.1).trans hk1 (fun g e => .inl (.inl e))) hk2 (fun g e => .inl (.inr e))))))
                      clear hr1 hk1 ha1 ha2 hk2 hr2 hrb2 qn1))
                   | (go_at_call 82
                      (with_reducible refine QN1.out.mono ?_)
                      go_loud (
                      rintro e' w3 ⟨rfl, hr3, hk3⟩
                      have ha3 := H2.out.2.1.kp hk3 HQ.out.1
                      have f1 := ha3.free 1
                      have c1 := ha3.at1
                      obtain ⟨ha4, hk4⟩ := ha3.set1 o
                      have hr4 := hr3.kp hk4 HQ.out.2.1 HQ.out.2.2.1 HQ.out.2.2.2.1
                      have hrb4 := (H2.out.2.2.1.kp hk3 HQ.out.2.2.2.2.1).kp hk4 HQ.out.2.2.2.2.2
                      have k5 := hrb4.at3
                      have qn2 : Calls Tryd.prog 82 #[.int .u64 1, .int .u64 (own : Int), .pointer (some ⟨ps, 0, none⟩), .pointer (some ⟨pa, 0, none⟩), .pointer (some ⟨pm, 0, none⟩)] _ (Had _ pa pm ps s (fun n : Nat => .int .u64 (n : Int)) (numR s.data.toList a2 1 own)) := number_any (least := 1) (most := own) hr4 hs (by omega) (by omega) (by omega)
                      rw [hN2] at qn2
                      have QN2 := Lib.hid qn2
                      have H4 := Lib.hid (And.intro hr4 (And.intro ha4 (And.intro hrb4 ((H2.out.2.2.2.trans hk3 (fun g e => .inl (.inl e))).trans hk4 (fun g e => .inl (.inr e))))))
                      clear hr3 hk3 ha3 ha4 hk4 hr4 hrb4 qn2 c0 k3 f0))
                   | (go_at_call 82
                      (with_reducible refine QN2.out.mono ?_)
                      go_loud (
                      rintro e' w5 ⟨rfl, hr5, hk5⟩
                      have ha5 := H4.out.2.1.kp hk5 HQ.out.1
                      have f2 := ha5.free 2
                      have c2 := ha5.at2
                      obtain ⟨ha6, hk6⟩ := ha5.set2 ((own - t : Nat) : Int)
                      have hr6 := hr5.kp hk6 HQ.out.2.1 HQ.out.2.2.1 HQ.out.2.2.2.1
                      have d0 := ha6.at0
                      have d1 := ha6.at1
                      have d2 := ha6.at2
                      have g0 := ha6.free 0
                      have g1 := ha6.free 1
                      have g2 := ha6.free 2
                      have H6 := Lib.hid (And.intro hr6 (And.intro ha6 ((H4.out.2.2.2.trans hk5 (fun g e => .inl (.inl e))).trans hk6 (fun g e => .inl (.inr e)))))
                      clear hr5 hk5 ha5 ha6 hk6 hr6)))
        have ht : ((own - t : Nat) : Int) = (own : Int) - (t : Int) := by omega
        obtain ⟨x0, y0⟩ := H6.out.2.1.set0 b.toNat
        obtain ⟨x1, y1⟩ := x0.set1 o
        obtain ⟨x2, y2⟩ := x1.set2 ((own - t : Nat) : Int)
        have hk := ((H6.out.2.2.trans y0 (fun g e => .inl (.inr e))).trans y1 (fun g e => .inl (.inr e))).trans y2 (fun g e => .inl (.inr e))
        have hr := ((H6.out.1.kp y0 HQ.out.2.1 HQ.out.2.2.1 HQ.out.2.2.2.1).kp y1 HQ.out.2.1 HQ.out.2.2.1 HQ.out.2.2.2.1).kp y2 HQ.out.2.1 HQ.out.2.2.1 HQ.out.2.2.2.1
        refine bodyPost_ret (v := .agg #[.int .u8 (b.toNat : Int), .int .u64 (o : Int), .int .i64 ((own - t : Nat) : Int)]) (by simp [results, Tryd.results85, go_sem, x2.at0, x2.at1, x2.at2, d0, d1, d2]) rfl ⟨by rw [ht]; rfl, hr, hk.mono fun g hg => hg.elim .inl fun e => .inr (by omega)⟩

end Go.Proofs.YtjiilmiikejnhaaDoor
namespace Go.Proofs.YtjiilmiikejnhaaDoor
open Go.RowKit Go.Shelf Said

theorem step_call_ok {P : Program} {ops : Array Oper} {o : Oper} {a : Act} {w : World} {K : Act → World → Prop} {Q : Exit → Act → World → Prop} {E : Prop} {f : FuncId} {args : Array Value} {R : Ending → World → Prop}
    (hg : o.guard = none) (hx : (execOp a.eval o).run P w = .ok (.enter f args) w) (hc : Calls P f args w R) (hK : ∀ e w', R e w' → ∃ v, e = .returned v ∧ K (a.put o.dst v) w') :
    if Region.wanted o (yielded ops a.tmps) = true then Oper.wp P o a w K Q else E := by
  rw [if_pos (by simp [Region.wanted, hg])]
  unfold Oper.wp
  rw [hx]
  exact hc.mono fun e w' h => by
    obtain ⟨v, rfl, hk⟩ := hK e w' h
    exact hk

/-- What an append leaves: the row with one part more, in its own block or in a new one. -/
def Appd (w2 : World) (base : Nat) (e : TypeId) (vs : Value) (k : Nat) (cs : List Value) (bp op_ : Nat) (v0 v : Value) (w3 : World) : Prop :=
  w3.ownsRow base e 3 v k cs ∧ Kp (fun b => vs.ownBlock = some b) w2 w3 ∧ (v.ownBlock = vs.ownBlock ∨ ∀ b, v.ownBlock = some b → w2.heap.size ≤ b) ∧ w3.cell? ⟨bp, op_, none⟩ = some v0 ∧ w3.frozen? ⟨bp, op_, none⟩ = false

theorem step_append_row {ops : Array Oper} {o : Oper} {a : Act} {w2 w : World} {K : Act → World → Prop} {Q : Exit → Act → World → Prop} {E : Prop} {t e : TypeId} {by_ : Nat}
    (hg : o.guard = none) (s x : Operand) (hop : o.op = Op.call { callee := Callee.builtin Builtin.append, args := #[s, x], argTypes := #[t, t] }) (ht : o.type = t)
    (hu : Tryd.prog.underlying t = some (.slice e)) {z1 : Value} (hi9 : (Tryd.prog.info? e).map (fun i => (i.zero, i.size, i.bytes)) = some (some z1, 3, by_)) (hz9 : z1.cells.size = 3) (hby9 : by_ ≤ 1000)
    (base bp op_ : Nat) (v0 : Value) (n : Nat) (xs cs : List Value) (bb : Nat) {vs : Value}
    (hs : a.eval s = vs) (hx : a.eval x = .slice (some ⟨bb, 0, none⟩) 1 1) (hn : w.heap[bb]? = some (.cells cs.toArray e (0, 0))) (hb : Below w2.heap.size w2 w)
    (hr : w2.ownsRow base e 3 vs n xs) (hL : n ≤ 2000000000) (hbs : base ≤ w2.heap.size) (hc3 : cs.length = 3) (hv1 : ∀ u ∈ cs, u.oneCell' = true)
    (hp1 : vs.ownBlock ≠ some bp) (hp2 : w2.cell? ⟨bp, op_, none⟩ = some v0) (hp3 : w2.frozen? ⟨bp, op_, none⟩ = false) (hp4 : bp < w2.heap.size)
    (hK : ∀ ad k c w3, Appd w2 base e vs (n + 1) (xs ++ cs) bp op_ v0 (.slice ad k c) w3 → w3.cell? ⟨bp, op_, none⟩ = some v0 → w3.frozen? ⟨bp, op_, none⟩ = false → K (a.put o.dst (.slice ad k c)) w3) :
    if Region.wanted o (yielded ops a.tmps) = true then Oper.wp Tryd.prog o a w K Q else E := by
  obtain ⟨i0, hi, hz0, hz1, hz2⟩ := info_parts hi9
  have hr' : w.ownsRow base e 3 vs n xs := owns_same hr fun b hbb => hb.block b (hr.lt b hbb).2
  have hbw : base ≤ w.heap.size := Nat.le_trans hbs hb.size
  obtain ⟨v', w3, h1, h2, h3, _, h5⟩ := run_append_own_at (P := Tryd.prog) w base t t e i0 _ 3 by_ hu hi hz0 hz1 hz2 hz9 (by decide) vs n xs hr' ⟨bb, 0, none⟩ 1 1 cs (by rw [hc3])
    (by
      intro j u hj
      rw [Addr.add_lit, Nat.zero_add, cell_of_row w bb j _ _ _ hn]
      simpa using hj) hv1 (by unfold maxLen; omega) (by
      have : (n + 1) * by_ ≤ 2000000001 * 1000 := Nat.mul_le_mul (by omega) hby9
      omega) hbw
  have hw : Region.wanted o (yielded ops a.tmps) = true := by simp [Region.wanted, hg]
  rw [if_pos hw]
  unfold Oper.wp execOp
  simp only [hop, ht, resolve, invoke, builtin, Sem.run_bind, Sem.run_pure, Result.andThen_ok, List.map_toArray, List.map_cons, List.map_nil, hs, hx, h1]
  obtain ⟨ad, k, c, rfl⟩ : ∃ ad k c, v' = .slice ad k c := by
    rcases h2.2 with ⟨rfl, _⟩ | ⟨g, cap, cur, rfl, _⟩
    · exact ⟨_, _, _, rfl⟩
    · exact ⟨_, _, _, rfl⟩
  have hbl : w3.heap[bp]? = w2.heap[bp]? := (h3.block bp (Nat.lt_of_lt_of_le hp4 hb.size) (fun e => hp1 e.symm)).trans (hb.block bp hp4)
  have q1 : w3.cell? ⟨bp, op_, none⟩ = some v0 := by rw [World.cell?_of_block (w := w2) (a := ⟨bp, op_, none⟩) hbl]; exact hp2
  have q2 : w3.frozen? ⟨bp, op_, none⟩ = false := by
    have : w3.frozen? ⟨bp, op_, none⟩ = w2.frozen? ⟨bp, op_, none⟩ := by simp only [World.frozen?, hbl]
    rw [this]; exact hp3
  refine hK ad k c w3 ⟨h2, (Kp.below hb).trans (Kp.grown h3 (fun g e => e)) (fun g h => .inl h), ?_, q1, q2⟩ q1 q2
  rcases h5 with e | e
  · exact .inl e
  · refine .inr fun b hb' => ?_
    have := e.symm.trans hb'
    injection this with this
    have := hb.size
    omega

end Go.Proofs.YtjiilmiikejnhaaDoor
namespace Go.Proofs.YtjiilmiikejnhaaDoor
open Go.RowKit Go.Shelf Said

theorem StB.set1 {w : World} {p : Nat} {v : Value} {f : Bool} {n : Nat} (h : StB w p v f n) (g : Bool) : StB (w.setCell ⟨p, 1, none⟩ (.bool g)) p v g n := cells_setCell h 1 _
theorem StB.set0 {w : World} {p : Nat} {v : Value} {f : Bool} {n : Nat} (h : StB w p v f n) (u : Value) : StB (w.setCell ⟨p, 0, none⟩ u) p u f n := cells_setCell h 0 _
theorem kp_set (w : World) (q j : Nat) (u : Value) : Kp (fun g => g = q) w (w.setCell ⟨q, j, none⟩ u) := Kp.grown (grown_setCell w q j u) (fun g e => (Option.some.inj e).symm)

theorem faulted_kp {w w1 w' : World} {pa c a : Nat} {e : Ending} (hk : Kp (fun g => g = pa ∨ w.heap.size ≤ g) w w1) (h : Faulted w1 pa c a e w') : Faulted w pa c a e w' :=
  Faulted.after (hk.mono fun g hg => hg.elim .inl .inr) h

theorem arcR_lt {s : List UInt8} {own a k : Nat} {x : DArc} (h : arcR s own a = .ok (x, k)) : a < k ∧ k ≤ s.length := by
  unfold arcR at h
  cases hL : letR s a with
  | error e => rw [hL] at h; cases h
  | ok r1 =>
    obtain ⟨b, a1⟩ := r1
    rw [hL] at h
    dsimp only at h
    cases hN : numR s a1 0 18446744073709551615 with
    | error e => rw [hN] at h; cases h
    | ok r2 =>
      obtain ⟨o, a2⟩ := r2
      rw [hN] at h
      dsimp only at h
      cases hM : numR s a2 1 own with
      | error e => rw [hM] at h; cases h
      | ok r3 =>
        obtain ⟨t, a3⟩ := r3
        rw [hM] at h
        injection h with h
        injection h with h1 h2
        have := letR_lt hL
        have := numR_lt hN
        have := numR_lt hM
        omega

/-- One arc more stands in the row, and the row in its box. -/
theorem row_next {w1 w5 : World} {base pa pm ps q r : Nat} {s : ByteArray} {acc : List DArc} {x : DArc} {v v5 v0 : Value} {fin : Bool} {o a3 : Nat} (hs : StB w1 q v fin o) (hr : Rdr w1 pa pm ps s a3) (hrb : RB w1 r pa pm ps) (hrow : ARow w1 base v acc)
    (hA : Appd w1 base 66 v (acc.length + 1) (arcsC acc ++ arcC x) q 0 v0 v5 w5) (hq : q ≠ pa ∧ q ≠ pm ∧ q ≠ ps ∧ q ≠ r ∧ base ≤ q) :
    StB (w5.setCell ⟨q, 0, none⟩ v5) q v5 fin o ∧ ARow (w5.setCell ⟨q, 0, none⟩ v5) base v5 (acc ++ [x]) ∧ Rdr (w5.setCell ⟨q, 0, none⟩ v5) pa pm ps s a3 ∧ RB (w5.setCell ⟨q, 0, none⟩ v5) r pa pm ps ∧ Kp (fun g => g = pa ∨ base ≤ g) w1 (w5.setCell ⟨q, 0, none⟩ v5) := by
  obtain ⟨a1, a2, a3', -, -⟩ := hA
  have nb : ∀ b o, w1.heap[b]? = some o → (∀ cs fz, o ≠ .cells cs 66 fz) → ¬ v.ownBlock = some b := fun b o ho hne e => by
    obtain ⟨_, cs, fz, hc⟩ := owns_cells hrow b e
    rw [ho] at hc
    exact hne cs fz (Option.some.inj hc)
  have hs' : w1.heap[q]? = some _ := hs
  have hrb' : w1.heap[r]? = some _ := hrb
  have hk := kp_set w5 q 0 v5
  have hs5 := hs.kp a2 (nb q _ hs' (fun cs fz e => by cases e))
  have nq : ∀ b, v5.ownBlock = some b → b ≠ q := fun b hb e => by
    subst e
    rcases a3' with e | e
    · rw [e] at hb
      exact nb b _ hs' (fun cs fz e => by cases e) hb
    · have := e b hb
      have := hs.lt
      omega
  refine ⟨hs5.set0 v5, ?_, (hr.kp a2 (nb _ _ hr.pos (fun cs fz e => by cases e)) (nb _ _ hr.must (fun cs fz e => by cases e)) (nb _ _ hr.text (fun cs fz e => by cases e))).kp hk (fun e => hq.1 e.symm) (fun e => hq.2.1 e.symm) (fun e => hq.2.2.1 e.symm), (hrb.kp a2 (nb r _ hrb' (fun cs fz e => by cases e))).kp hk (fun e => hq.2.2.2.1 e.symm), Kp.trans (M := fun g => g = pa ∨ base ≤ g) (a2.mono (fun g e => .inl (.inr (hrow.lt g e).1))) hk (fun g e => .inl (.inr (by rw [e]; exact hq.2.2.2.2)))⟩
  unfold ARow
  rw [List.length_append, List.length_singleton, arcsC_snoc]
  exact owns_same a1 fun b hb => hk.block b (a1.lt b hb).2 (nq b hb)

/-- What reading a state leaves. -/
def HadS (w : World) (pa pm ps : Nat) (s : ByteArray) (r : Rd DSt) (e : Ending) (w' : World) : Prop :=
  match r with
  | .ok (x, a) => (∃ v, e = .returned (.agg #[v, .bool x.fin, .int .u64 (x.out : Int)]) ∧ ARow w' w.heap.size v x.arcs) ∧ Rdr w' pa pm ps s a ∧ Kp (fun g => g = pa) w w'
  | .error (c, p) => Faulted w pa c p e w'

set_option maxHeartbeats 4000000 in
set_option maxRecDepth 100000 in
theorem state_e1 {w : World} {pa pm ps a own : Nat} {s : ByteArray} (h : Rdr w pa pm ps s a) (hs : s.size ≤ 1000000000) (ha : a ≤ s.size) (ho : own ≤ 1000000000) {c1 p1 : Nat} (hT : numR s.data.toList a 0 513 = .error (c1, p1)) :
    Calls Tryd.prog 60 #[.agg (rdrC pa pm ps), .int .u64 (own : Int)] w (HadS w pa pm ps s (.error (c1, p1))) := by
  obtain ⟨w0, hw0⟩ : ∃ w0, w0 = (w.alloc (.cells (rdrC pa pm ps) 115)).alloc (.cells #[.slice none 0 0, .bool false, .int .u64 0] 64) := ⟨_, rfl⟩
  have hb0 : Below w.heap.size w w0 := by rw [hw0]; exact (below_alloc w _).trans ((below_alloc _ _).mono (by simp))
  have hrb : RB w0 w.heap.size pa pm ps := by rw [hw0]; exact ((below_alloc _ _).block _ (by simp)).trans (heap_alloc_new w _)
  have hsb : StB w0 (w.heap.size + 1) (.slice none 0 0) false 0 := by
    rw [hw0]
    have := heap_alloc_new (w.alloc (.cells (rdrC pa pm ps) 115)) (.cells #[.slice none 0 0, .bool false, .int .u64 0] 64)
    rw [show (w.alloc (.cells (rdrC pa pm ps) 115)).heap.size = w.heap.size + 1 by simp] at this
    exact this
  have hr0 := h.below hb0
  obtain ⟨l1, l2, l3⟩ := h.lt
  have QT : Calls Tryd.prog 82 #[.int .u64 0, .int .u64 513, .pointer (some ⟨ps, 0, none⟩), .pointer (some ⟨pa, 0, none⟩), .pointer (some ⟨pm, 0, none⟩)] w0 (Had w0 pa pm ps s (fun n : Nat => .int .u64 (n : Int)) (numR s.data.toList a 0 513)) := number_any (least := 0) (most := 513) hr0 hs ha (by omega) (by omega)
  have HB0 := Lib.hid (And.intro hb0 (And.intro l1 (And.intro l2 l3)))
  have HSB := Lib.hid hsb
  have HRB := Lib.hid hrb
  have k3 := hrb.at3
  have HQ : Hid (¬ w.heap.size + 1 = pa ∧ ¬ pa = w.heap.size + 1 ∧ ¬ pm = w.heap.size + 1 ∧ ¬ ps = w.heap.size + 1 ∧ ¬ w.heap.size = pa ∧ ¬ w.heap.size = w.heap.size + 1) := Lib.hid (by omega)
  clear hr0 h hrb hsb hb0 l1 l2 l3
  rw [hT] at QT
  have Q := Lib.hid QT
  clear QT
  go_enter Tryd.func60, Tryd.ntmps60
  go_upto_region 1 with fail
  rw [← hw0]
  clear hw0
  go_wp2_with (go_at_call 82; (with_reducible refine Q.out.mono ?_); rintro e' w1 h; have HF := Lib.hid (Faulted.after (Kp.below HB0.out.1) h); obtain ⟨bf, rfl, h1, h2, h3⟩ := h)
  exact ⟨rfl, HF.out⟩

set_option maxHeartbeats 4000000 in
set_option maxRecDepth 100000 in
theorem state_e2 {w : World} {pa pm ps a own : Nat} {s : ByteArray} (h : Rdr w pa pm ps s a) (hs : s.size ≤ 1000000000) (ha : a ≤ s.size) (ho : own ≤ 1000000000) {t a1 c2 p2 : Nat} (hT : numR s.data.toList a 0 513 = .ok (t, a1)) (hfin : t % 2 = 1) (hO : numR s.data.toList a1 0 18446744073709551615 = .error (c2, p2)) :
    Calls Tryd.prog 60 #[.agg (rdrC pa pm ps), .int .u64 (own : Int)] w (HadS w pa pm ps s (.error (c2, p2))) := by
  obtain ⟨w0, hw0⟩ : ∃ w0, w0 = (w.alloc (.cells (rdrC pa pm ps) 115)).alloc (.cells #[.slice none 0 0, .bool false, .int .u64 0] 64) := ⟨_, rfl⟩
  have hb0 : Below w.heap.size w w0 := by rw [hw0]; exact (below_alloc w _).trans ((below_alloc _ _).mono (by simp))
  have hrb : RB w0 w.heap.size pa pm ps := by rw [hw0]; exact ((below_alloc _ _).block _ (by simp)).trans (heap_alloc_new w _)
  have hsb : StB w0 (w.heap.size + 1) (.slice none 0 0) false 0 := by
    rw [hw0]
    have := heap_alloc_new (w.alloc (.cells (rdrC pa pm ps) 115)) (.cells #[.slice none 0 0, .bool false, .int .u64 0] 64)
    rw [show (w.alloc (.cells (rdrC pa pm ps) 115)).heap.size = w.heap.size + 1 by simp] at this
    exact this
  have hr0 := h.below hb0
  obtain ⟨l1, l2, l3⟩ := h.lt
  have QT : Calls Tryd.prog 82 #[.int .u64 0, .int .u64 513, .pointer (some ⟨ps, 0, none⟩), .pointer (some ⟨pa, 0, none⟩), .pointer (some ⟨pm, 0, none⟩)] w0 (Had w0 pa pm ps s (fun n : Nat => .int .u64 (n : Int)) (numR s.data.toList a 0 513)) := number_any (least := 0) (most := 513) hr0 hs ha (by omega) (by omega)
  have HB0 := Lib.hid (And.intro hb0 (And.intro l1 (And.intro l2 l3)))
  have HSB := Lib.hid hsb
  have HRB := Lib.hid hrb
  have k3 := hrb.at3
  have HQ : Hid (¬ w.heap.size + 1 = pa ∧ ¬ pa = w.heap.size + 1 ∧ ¬ pm = w.heap.size + 1 ∧ ¬ ps = w.heap.size + 1 ∧ ¬ w.heap.size = pa ∧ ¬ w.heap.size = w.heap.size + 1) := Lib.hid (by omega)
  clear hr0 h hrb hsb hb0 l1 l2 l3
  rw [hT] at QT
  have hlt1 := numR_lt hT
  rw [ba_size] at hlt1
  have QT := Lib.hid QT
  go_enter Tryd.func60, Tryd.ntmps60
  go_upto_region 1 with fail
  rw [← hw0]
  clear hw0
  have hd : decide ((0 : Int) < (t : Int) % 2) = true := by simp only [decide_eq_true_eq]; omega
  go_wp2_with (first
               | (go_at_call 82
                  (with_reducible refine QT.out.mono ?_)
                  go_loud (
                  rintro e' w1 ⟨rfl, hr1, hk1⟩
                  have hs1 := HSB.out.kp hk1 HQ.out.1
                  have f0 := hs1.free 1
                  have c0 := hs1.at1
                  have hs2 := hs1.set1 true
                  have hk2 := kp_set w1 (w.heap.size + 1) 1 (.bool true)
                  have hr2 := hr1.kp hk2 HQ.out.2.1 HQ.out.2.2.1 HQ.out.2.2.2.1
                  have hrb2 := (HRB.out.kp hk1 HQ.out.2.2.2.2.1).kp hk2 HQ.out.2.2.2.2.2
                  have k5 := hrb2.at3
                  have qo : Calls Tryd.prog 82 #[.int .u64 0, .int .u64 18446744073709551615, .pointer (some ⟨ps, 0, none⟩), .pointer (some ⟨pa, 0, none⟩), .pointer (some ⟨pm, 0, none⟩)] _ (Had _ pa pm ps s (fun n : Nat => .int .u64 (n : Int)) (numR s.data.toList a1 0 18446744073709551615)) := number_any (least := 0) (most := 18446744073709551615) hr2 hs (by omega) (by omega) (by omega)
                  rw [hO] at qo
                  have QO := Lib.hid qo
                  have H2 := Lib.hid (And.intro hs2 (And.intro hrb2 ((Kp.trans (M := fun g => g = pa ∨ w.heap.size ≤ g) ((Kp.below HB0.out.1).trans hk1 (fun g e => .inl (.inl e))) hk2 (fun g e => .inl (.inr (by omega)))))))
                  clear hr1 hk1 hs1 hs2 hk2 hr2 hrb2 qo))
               | (go_at_call 82; (with_reducible refine QO.out.mono ?_); rintro e' w3 h; have HF := Lib.hid (faulted_kp H2.out.2.2 h); obtain ⟨bf, rfl, h1, h2, h3⟩ := h))
  exact ⟨rfl, HF.out⟩

set_option maxHeartbeats 4000000 in
set_option maxRecDepth 100000 in
theorem state_fin {w : World} {pa pm ps a own : Nat} {s : ByteArray} (h : Rdr w pa pm ps s a) (hs : s.size ≤ 1000000000) (ha : a ≤ s.size) (ho : own ≤ 1000000000) {t a1 o a2 : Nat} (hT : numR s.data.toList a 0 513 = .ok (t, a1)) (hfin : t % 2 = 1) (hO : numR s.data.toList a1 0 18446744073709551615 = .ok (o, a2)) :
    Calls Tryd.prog 60 #[.agg (rdrC pa pm ps), .int .u64 (own : Int)] w (HadS w pa pm ps s (stEnd (t % 2 == 1) o (arcsR s.data.toList own (t / 2) a2 []))) := by
  obtain ⟨w0, hw0⟩ : ∃ w0, w0 = (w.alloc (.cells (rdrC pa pm ps) 115)).alloc (.cells #[.slice none 0 0, .bool false, .int .u64 0] 64) := ⟨_, rfl⟩
  have hb0 : Below w.heap.size w w0 := by rw [hw0]; exact (below_alloc w _).trans ((below_alloc _ _).mono (by simp))
  have hrb : RB w0 w.heap.size pa pm ps := by rw [hw0]; exact ((below_alloc _ _).block _ (by simp)).trans (heap_alloc_new w _)
  have hsb : StB w0 (w.heap.size + 1) (.slice none 0 0) false 0 := by
    rw [hw0]
    have := heap_alloc_new (w.alloc (.cells (rdrC pa pm ps) 115)) (.cells #[.slice none 0 0, .bool false, .int .u64 0] 64)
    rw [show (w.alloc (.cells (rdrC pa pm ps) 115)).heap.size = w.heap.size + 1 by simp] at this
    exact this
  have hr0 := h.below hb0
  obtain ⟨l1, l2, l3⟩ := h.lt
  have QT : Calls Tryd.prog 82 #[.int .u64 0, .int .u64 513, .pointer (some ⟨ps, 0, none⟩), .pointer (some ⟨pa, 0, none⟩), .pointer (some ⟨pm, 0, none⟩)] w0 (Had w0 pa pm ps s (fun n : Nat => .int .u64 (n : Int)) (numR s.data.toList a 0 513)) := number_any (least := 0) (most := 513) hr0 hs ha (by omega) (by omega)
  have HB0 := Lib.hid (And.intro hb0 (And.intro l1 (And.intro l2 l3)))
  have HSB := Lib.hid hsb
  have HRB := Lib.hid hrb
  have k3 := hrb.at3
  have HQ : Hid (¬ w.heap.size + 1 = pa ∧ ¬ pa = w.heap.size + 1 ∧ ¬ pm = w.heap.size + 1 ∧ ¬ ps = w.heap.size + 1 ∧ ¬ w.heap.size = pa ∧ ¬ w.heap.size = w.heap.size + 1) := Lib.hid (by omega)
  clear hr0 h hrb hsb hb0 l1 l2 l3
  rw [hT] at QT
  have hlt1 := numR_lt hT
  rw [ba_size] at hlt1
  have QT := Lib.hid QT
  have hlt2 := numR_lt hO
  rw [ba_size] at hlt2
  go_enter Tryd.func60, Tryd.ntmps60
  go_upto_region 1 with fail
  rw [← hw0]
  clear hw0
  have hd : decide ((0 : Int) < (t : Int) % 2) = true := by simp only [decide_eq_true_eq]; omega
  go_wp2_with (first
               | (go_at_call 82
                  (with_reducible refine QT.out.mono ?_)
                  go_loud (
                  rintro e' w1 ⟨rfl, hr1, hk1⟩
                  have hs1 := HSB.out.kp hk1 HQ.out.1
                  have f0 := hs1.free 1
                  have c0 := hs1.at1
                  have hs2 := hs1.set1 true
                  have hk2 := kp_set w1 (w.heap.size + 1) 1 (.bool true)
                  have hr2 := hr1.kp hk2 HQ.out.2.1 HQ.out.2.2.1 HQ.out.2.2.2.1
                  have hrb2 := (HRB.out.kp hk1 HQ.out.2.2.2.2.1).kp hk2 HQ.out.2.2.2.2.2
                  have k5 := hrb2.at3
                  have qo : Calls Tryd.prog 82 #[.int .u64 0, .int .u64 18446744073709551615, .pointer (some ⟨ps, 0, none⟩), .pointer (some ⟨pa, 0, none⟩), .pointer (some ⟨pm, 0, none⟩)] _ (Had _ pa pm ps s (fun n : Nat => .int .u64 (n : Int)) (numR s.data.toList a1 0 18446744073709551615)) := number_any (least := 0) (most := 18446744073709551615) hr2 hs (by omega) (by omega) (by omega)
                  rw [hO] at qo
                  have QO := Lib.hid qo
                  have H2 := Lib.hid (And.intro hs2 (And.intro hrb2 ((Kp.trans (M := fun g => g = pa ∨ w.heap.size ≤ g) ((Kp.below HB0.out.1).trans hk1 (fun g e => .inl (.inl e))) hk2 (fun g e => .inl (.inr (by omega)))))))
                  clear hr1 hk1 hs1 hs2 hk2 hr2 hrb2 qo))
               | (go_at_call 82
                  (with_reducible refine QO.out.mono ?_)
                  go_loud (
                  rintro e' w3 ⟨rfl, hr3, hk3⟩
                  have hs3 := H2.out.1.kp hk3 HQ.out.1
                  have f3 := hs3.free 2
                  have c3 := hs3.at2
                  have hs4 := hs3.set2 o
                  have hk4 := kp_set w3 (w.heap.size + 1) 2 (.int .u64 (o : Int))
                  have hr4 := hr3.kp hk4 HQ.out.2.1 HQ.out.2.2.1 HQ.out.2.2.2.1
                  have hrb4 := (H2.out.2.1.kp hk3 HQ.out.2.2.2.2.1).kp hk4 HQ.out.2.2.2.2.2
                  have H4 := Lib.hid (And.intro hs4 (And.intro hr4 (And.intro hrb4 ((H2.out.2.2.trans hk3 (fun g e => .inl (.inl e))).trans hk4 (fun g e => .inl (.inr (by omega)))))))
                  clear hr3 hk3 hs3 hs4 hk4 hr4 hrb4 c0 f0 k5)))
  have e2 : ((t : Int) / 2) = ((t / 2 : Nat) : Int) := by simp
  rw [e2]
  clear e2
  have htm : t / 2 ≤ 256 := by omega
  go_loopw [21] (fun s21 wr => ∃ (k ak : Nat) (acc : List DArc) (v : Value), k ≤ t / 2 ∧ s21 = .int .u64 k ∧ Hid (StB wr (w.heap.size + 1) v true o ∧ ARow wr w.heap.size v acc ∧ Rdr wr pa pm ps s ak ∧ RB wr w.heap.size pa pm ps ∧ Kp (fun g => g = pa ∨ w.heap.size ≤ g) w wr ∧ acc.length = k ∧ ak ≤ s.size ∧ arcsR s.data.toList own (t / 2) a2 [] = arcsR s.data.toList own (t / 2 - k) ak acc)) (fun s21 _ => t / 2 - (intOf s21).toNat)
  case atStart => exact ⟨0, a2, [], .slice none 0 0, Nat.zero_le _, rfl, Lib.hid ⟨H4.out.1, ⟨rfl, .inl ⟨rfl, rfl⟩⟩, H4.out.2.1, H4.out.2.2.1, H4.out.2.2.2, rfl, by omega, rfl⟩⟩
  case round =>
    obtain ⟨k, ak, acc, v, hk, rfl, HR⟩ := hrel
    obtain ⟨adv, cv, rfl⟩ := HR.out.2.1.form
    by_cases hlt : k < t / 2
    · have e0 : decide ((k : Int) < ((t / 2 : Nat) : Int)) = true := by simp only [decide_eq_true_eq]; omega
      have hstep : t / 2 - k = (t / 2 - (k + 1)) + 1 := by omega
      have q0 := HR.out.1.at0
      have r0 := HR.out.2.2.2.1.at0
      have r1 := HR.out.2.2.2.1.at1
      have r2 := HR.out.2.2.2.1.at2
      have r3 := HR.out.2.2.2.1.at3
      have r4 := HR.out.2.2.2.1.at4
      cases hA : arcR s.data.toList own ak with
      | error e3 =>
        obtain ⟨c3, p3⟩ := e3
        have hres : arcsR s.data.toList own (t / 2) a2 [] = .error (c3, p3) := by
          rw [HR.out.2.2.2.2.2.2.2, hstep]
          unfold arcsR
          rw [hA]
        have QA : Hid (∀ W, Below wr.heap.size wr W → Calls Tryd.prog 85 #[.agg (rdrC pa pm ps), .int .u64 (own : Int)] W (Faulted W pa c3 p3)) := Lib.hid fun W hW => by
          have := arc_any (own := own) (HR.out.2.2.1.below hW) hs HR.out.2.2.2.2.2.2.1 ho
          rw [hA] at this
          exact this
        go_wp2
        refine Said.region_panics (by kernel_rfl) 4 [7] _ rfl rfl (by kernel_rfl) (by kernel_rfl) (by kernel_rfl) [.is (.pointer (some ⟨w.heap.size + 1, 0, none⟩)), .is (.slice adv acc.length cv), .is (.agg (rdrC pa pm ps)), .is (.int .u64 (own : Int))] (by simp) ?_ ?_
        · simp only [List.toList_toArray, List.take_succ_cons, List.take_zero]
          have KW : ∀ W, Below wr.heap.size wr W → W.cell? ⟨w.heap.size + 1, 0, none⟩ = some (.slice adv acc.length cv) ∧ RB W w.heap.size pa pm ps := fun W hW => ⟨(cell_same (hW.block _ HR.out.1.lt)).trans q0, (hW.block _ (Array.getElem?_eq_some_iff.1 HR.out.2.2.2.1).1).trans HR.out.2.2.2.1⟩
          iterate 4 (
            refine sq_pure (by rfl) (fun W hb _ => ?_) ?_
            · obtain ⟨y0, y1⟩ := KW W hb
              have y2 := y1.at0
              have y3 := y1.at1
              have y4 := y1.at2
              have y5 := y1.at3
              have y6 := y1.at4
              first | (go_simp; done) | (go_simp; rfl)
            simp only [Act.put, List.setIfInBounds_toArray, List.set_cons_zero, List.set_cons_succ])
          refine sq_end (fun W hb _ => ?_)
          intro b' hex hdf
          refine panics_of (f := 85) (args := #[.agg (rdrC pa pm ps), .int .u64 (own : Int)]) (by go_simp) hex (QA.out W hb) fun e' w2 h => ?_
          have HF := faulted_kp HR.out.2.2.2.2.1 (Faulted.after (Kp.below hb) h)
          obtain ⟨bf, rfl, h1, h2, h3⟩ := h
          exact ⟨_, rfl, hdf, by rw [hres]; exact HF⟩
        · intro i hi o9 ho9 a9 hl9 W9
          obtain rfl : i = 7 := by simpa using hi
          obtain rfl := Option.some.inj ho9
          have e9 := hl9 4 (by decide)
          have ev : a9.eval (.tmp 4) = .pointer (some ⟨w.heap.size + 1, 0, none⟩) := by simp [Act.eval, Array.getD_eq_getD_getElem?, e9]
          refine ⟨.pointer (some ⟨w.heap.size + 1, 0, none⟩), ?_⟩
          go_simp
      | ok r3 =>
        obtain ⟨x, a3⟩ := r3
        have QA : Hid (Calls Tryd.prog 85 #[.agg (rdrC pa pm ps), .int .u64 (own : Int)] wr.drew fun e w' => e = .returned (.agg #[.int .u8 (x.b : Int), .int .u64 (x.out : Int), .int .i64 x.to]) ∧ Rdr w' pa pm ps s a3 ∧ Kp (fun g => g = pa) wr.drew w') := Lib.hid (by
          have := arc_any (own := own) (HR.out.2.2.1.below (Below.refl _ wr).drew) hs HR.out.2.2.2.2.2.2.1 ho
          rw [hA] at this
          exact this)
        have hlt3 := arcR_lt hA
        rw [ba_size] at hlt3
        have hres : arcsR s.data.toList own (t / 2) a2 [] = arcsR s.data.toList own (t / 2 - (k + 1)) a3 (acc ++ [x]) := by
          rw [HR.out.2.2.2.2.2.2.2, hstep]
          show (match arcR s.data.toList own ak with | .error e => _ | .ok (a, a1) => _) = _
          rw [hA]
        have HRES := Lib.hid (And.intro hres hlt3)
        clear hres hlt3 hA hstep
        have hk256 : acc.length ≤ 256 := by have := HR.out.2.2.2.2.2.1; omega
        go_wp2
        go_region_law (first
          | (refine step_call_ok (f := 85) (args := #[.agg (rdrC pa pm ps), .int .u64 (own : Int)]) rfl (by first | (go_simp; done) | (go_simp; rfl)) QA.out ?_
             intro e' w1 hh
             obtain ⟨rfl, hr1, hk1⟩ := hh
             refine ⟨_, rfl, ?_⟩
             have hk1' : Kp (fun g => g = pa) wr w1 := (Kp.below (Below.refl _ wr).drew).trans hk1 (fun g e => .inl e)
             have hs1 := HR.out.1.kp hk1' HQ.out.1
             have z0 := hs1.at0
             have z1 : ∀ ob, (w1.alloc ob).cell? ⟨w.heap.size + 1, 0, none⟩ = some (.slice adv acc.length cv) := fun ob => by rw [(below_alloc w1 ob).cell (p := ⟨w.heap.size + 1, 0, none⟩) hs1.lt]; exact z0
             have H1 := Lib.hid (And.intro hs1 (And.intro hr1 hk1'))
             clear hr1 hk1 hk1' hs1)
          | (refine step_append_row (w2 := w1) (vs := .slice adv acc.length cv) rfl (.tmp 24) (.tmp 28) rfl rfl Tryd.underlying62 iArc rfl (by decide) w.heap.size (w.heap.size + 1) 0 (.slice adv acc.length cv) acc.length (arcsC acc) (arcC x) w1.heap.size rfl rfl (heap_alloc_new w1 _) (below_alloc w1 _) (owns_same HR.out.2.1 fun b hb => H1.out.2.2.block b (HR.out.2.1.lt b hb).2 (fun e => by have := (HR.out.2.1.lt b hb).1; have := HB0.out.2.1; omega)) (by omega) (by have := H1.out.2.2.size; have := HR.out.2.2.2.2.1.size; omega) rfl (by intro u hu; simp [arcC] at hu; rcases hu with rfl | rfl | rfl <;> rfl) (fun e => by
               obtain ⟨_, cs9, fz9, h9⟩ := owns_cells HR.out.2.1 _ e
               have := HR.out.1
               unfold StB at this
               rw [this] at h9
               cases h9) H1.out.1.at0 (H1.out.1.free 0) H1.out.1.lt ?_
             intro a5 n5 c5 w5 hA5 r1 r2))
        all_goals go_wp2
        all_goals (
          obtain ⟨m1, m2, m3, m4, m5⟩ := row_next (q := w.heap.size + 1) (r := w.heap.size) (x := x) H1.out.1 H1.out.2.1 (HR.out.2.2.2.1.kp H1.out.2.2 HQ.out.2.2.2.2.1) (owns_same HR.out.2.1 fun b hb => H1.out.2.2.block b (HR.out.2.1.lt b hb).2 (fun e => by have := (HR.out.2.1.lt b hb).1; have := HB0.out.2.1; omega)) hA5 (by have := HB0.out.2; omega)
          refine ⟨⟨_, _, _, _, _, _, _, _, _, _, _, ?_, rfl⟩, ?_⟩
          · exact ⟨k + 1, a3, acc ++ [x], _, by omega, by go_num, Lib.hid ⟨m1, m2, m3, m4, (HR.out.2.2.2.2.1.trans H1.out.2.2 (fun g e => .inl (.inl e))).trans m5 (fun g e => .inl e), by rw [List.length_append, List.length_singleton, HR.out.2.2.2.2.2.1], HRES.out.2.2, HRES.out.1⟩⟩
          · simp [intOf]; omega)
    · have e0 : decide ((k : Int) < ((t / 2 : Nat) : Int)) = false := by simp only [decide_eq_false_iff_not]; omega
      have hke : k = t / 2 := by omega
      have q0 := HR.out.1.at0
      have q1 := HR.out.1.at1
      have q2 := HR.out.1.at2
      have f0 := HR.out.1.free 0
      have f1 := HR.out.1.free 1
      have f2 := HR.out.1.free 2
      have hres : arcsR s.data.toList own (t / 2) a2 [] = .ok (acc, ak) := by
        rw [HR.out.2.2.2.2.2.2.2, hke, Nat.sub_self]
        rfl
      have HRES := Lib.hid hres
      clear hres
      go_wp2
      have m1 := ((HR.out.1.set0 (.slice adv acc.length cv)).set1 true).set2 o
      have y0 := kp_set wr (w.heap.size + 1) 0 (.slice adv acc.length cv)
      have y1 := kp_set (wr.setCell ⟨w.heap.size + 1, 0, none⟩ (.slice adv acc.length cv)) (w.heap.size + 1) 1 (.bool true)
      have y2 := kp_set ((wr.setCell ⟨w.heap.size + 1, 0, none⟩ (.slice adv acc.length cv)).setCell ⟨w.heap.size + 1, 1, none⟩ (.bool true)) (w.heap.size + 1) 2 (.int .u64 (o : Int))
      have hk := (y0.trans y1 (fun g e => .inl e)).trans y2 (fun g e => .inl e)
      have hr := HR.out.2.2.1.kp hk HQ.out.2.1 HQ.out.2.2.1 HQ.out.2.2.2.1
      have hrow := HR.out.2.1.kp hk (fun g hg e => by
        subst e
        obtain ⟨_, cs9, fz9, h9⟩ := owns_cells HR.out.2.1 _ hg
        have := HR.out.1
        unfold StB at this
        rw [this] at h9
        cases h9)
      refine bodyPost_ret (v := .agg #[.slice adv acc.length cv, .bool true, .int .u64 (o : Int)]) (by simp [results, Tryd.results60, go_sem, m1.at0, m1.at1, m1.at2, q0, q1, q2]) rfl ?_
      rw [HRES.out]
      refine ⟨⟨.slice adv acc.length cv, ?_, hrow⟩, hr, (HR.out.2.2.2.2.1.trans hk (fun g e => .inl (.inr (by omega)))).mono (fun g e => e.elim .inl .inr)⟩
      rw [show (t % 2 == 1) = true by simp [hfin]]

end Go.Proofs.YtjiilmiikejnhaaDoor
namespace Go.Proofs.YtjiilmiikejnhaaDoor
open Go.RowKit Go.Shelf Said

set_option maxHeartbeats 4000000 in
set_option maxRecDepth 100000 in
theorem state_not {w : World} {pa pm ps a own : Nat} {s : ByteArray} (h : Rdr w pa pm ps s a) (hs : s.size ≤ 1000000000) (ha : a ≤ s.size) (ho : own ≤ 1000000000) {t a1 : Nat} (hT : numR s.data.toList a 0 513 = .ok (t, a1)) (hfin : ¬ t % 2 = 1) :
    Calls Tryd.prog 60 #[.agg (rdrC pa pm ps), .int .u64 (own : Int)] w (HadS w pa pm ps s (stEnd (t % 2 == 1) 0 (arcsR s.data.toList own (t / 2) a1 []))) := by
  obtain ⟨w0, hw0⟩ : ∃ w0, w0 = (w.alloc (.cells (rdrC pa pm ps) 115)).alloc (.cells #[.slice none 0 0, .bool false, .int .u64 0] 64) := ⟨_, rfl⟩
  have hb0 : Below w.heap.size w w0 := by rw [hw0]; exact (below_alloc w _).trans ((below_alloc _ _).mono (by simp))
  have hrb : RB w0 w.heap.size pa pm ps := by rw [hw0]; exact ((below_alloc _ _).block _ (by simp)).trans (heap_alloc_new w _)
  have hsb : StB w0 (w.heap.size + 1) (.slice none 0 0) false 0 := by
    rw [hw0]
    have := heap_alloc_new (w.alloc (.cells (rdrC pa pm ps) 115)) (.cells #[.slice none 0 0, .bool false, .int .u64 0] 64)
    rw [show (w.alloc (.cells (rdrC pa pm ps) 115)).heap.size = w.heap.size + 1 by simp] at this
    exact this
  have hr0 := h.below hb0
  obtain ⟨l1, l2, l3⟩ := h.lt
  have QT : Calls Tryd.prog 82 #[.int .u64 0, .int .u64 513, .pointer (some ⟨ps, 0, none⟩), .pointer (some ⟨pa, 0, none⟩), .pointer (some ⟨pm, 0, none⟩)] w0 (Had w0 pa pm ps s (fun n : Nat => .int .u64 (n : Int)) (numR s.data.toList a 0 513)) := number_any (least := 0) (most := 513) hr0 hs ha (by omega) (by omega)
  have HB0 := Lib.hid (And.intro hb0 (And.intro l1 (And.intro l2 l3)))
  have HSB := Lib.hid hsb
  have HRB := Lib.hid hrb
  have k3 := hrb.at3
  have HQ : Hid (¬ w.heap.size + 1 = pa ∧ ¬ pa = w.heap.size + 1 ∧ ¬ pm = w.heap.size + 1 ∧ ¬ ps = w.heap.size + 1 ∧ ¬ w.heap.size = pa ∧ ¬ w.heap.size = w.heap.size + 1) := Lib.hid (by omega)
  clear hr0 h hrb hsb hb0 l1 l2 l3
  rw [hT] at QT
  have hlt1 := numR_lt hT
  rw [ba_size] at hlt1
  have QT := Lib.hid QT
  go_enter Tryd.func60, Tryd.ntmps60
  go_upto_region 1 with fail
  rw [← hw0]
  clear hw0
  have hd : decide ((0 : Int) < (t : Int) % 2) = false := by simp only [decide_eq_false_iff_not]; omega
  have HFN := Lib.hid hfin
  clear hfin hT
  go_wp2_with (go_at_call 82
               (with_reducible refine QT.out.mono ?_)
               rintro e' w1 ⟨rfl, hr1, hk1⟩
               have hs1 := HSB.out.kp hk1 HQ.out.1
               have f0 := hs1.free 1
               have c0 := hs1.at1
               have hs2 := hs1.set1 false
               have hk2 := kp_set w1 (w.heap.size + 1) 1 (.bool false)
               have hr2 := hr1.kp hk2 HQ.out.2.1 HQ.out.2.2.1 HQ.out.2.2.2.1
               have hrb2 := (HRB.out.kp hk1 HQ.out.2.2.2.2.1).kp hk2 HQ.out.2.2.2.2.2
               have H4 := Lib.hid (And.intro hs2 (And.intro hr2 (And.intro hrb2 ((Kp.trans (M := fun g => g = pa ∨ w.heap.size ≤ g) ((Kp.below HB0.out.1).trans hk1 (fun g e => .inl (.inl e))) hk2 (fun g e => .inl (.inr (by omega))))))))
               clear hr1 hk1 hs1 hs2 hk2 hr2 hrb2)
  have e2 : ((t : Int) / 2) = ((t / 2 : Nat) : Int) := by simp
  rw [e2]
  clear e2
  have htm : t / 2 ≤ 256 := by omega
  go_loopw [21] (fun s21 wr => ∃ (k ak : Nat) (acc : List DArc) (v : Value), k ≤ t / 2 ∧ s21 = .int .u64 k ∧ Hid (StB wr (w.heap.size + 1) v false 0 ∧ ARow wr w.heap.size v acc ∧ Rdr wr pa pm ps s ak ∧ RB wr w.heap.size pa pm ps ∧ Kp (fun g => g = pa ∨ w.heap.size ≤ g) w wr ∧ acc.length = k ∧ ak ≤ s.size ∧ arcsR s.data.toList own (t / 2) a1 [] = arcsR s.data.toList own (t / 2 - k) ak acc)) (fun s21 _ => t / 2 - (intOf s21).toNat)
  case atStart => exact ⟨0, a1, [], .slice none 0 0, Nat.zero_le _, rfl, Lib.hid ⟨H4.out.1, ⟨rfl, .inl ⟨rfl, rfl⟩⟩, H4.out.2.1, H4.out.2.2.1, H4.out.2.2.2, rfl, by omega, rfl⟩⟩
  case round =>
    obtain ⟨k, ak, acc, v, hk, rfl, HR⟩ := hrel
    obtain ⟨adv, cv, rfl⟩ := HR.out.2.1.form
    by_cases hlt : k < t / 2
    · have e0 : decide ((k : Int) < ((t / 2 : Nat) : Int)) = true := by simp only [decide_eq_true_eq]; omega
      have hstep : t / 2 - k = (t / 2 - (k + 1)) + 1 := by omega
      have q0 := HR.out.1.at0
      have r0 := HR.out.2.2.2.1.at0
      have r1 := HR.out.2.2.2.1.at1
      have r2 := HR.out.2.2.2.1.at2
      have r3 := HR.out.2.2.2.1.at3
      have r4 := HR.out.2.2.2.1.at4
      cases hA : arcR s.data.toList own ak with
      | error e3 =>
        obtain ⟨c3, p3⟩ := e3
        have hres : arcsR s.data.toList own (t / 2) a1 [] = .error (c3, p3) := by
          rw [HR.out.2.2.2.2.2.2.2, hstep]
          unfold arcsR
          rw [hA]
        have QA : Hid (∀ W, Below wr.heap.size wr W → Calls Tryd.prog 85 #[.agg (rdrC pa pm ps), .int .u64 (own : Int)] W (Faulted W pa c3 p3)) := Lib.hid fun W hW => by
          have := arc_any (own := own) (HR.out.2.2.1.below hW) hs HR.out.2.2.2.2.2.2.1 ho
          rw [hA] at this
          exact this
        go_wp2
        refine Said.region_panics (by kernel_rfl) 4 [7] _ rfl rfl (by kernel_rfl) (by kernel_rfl) (by kernel_rfl) [.is (.pointer (some ⟨w.heap.size + 1, 0, none⟩)), .is (.slice adv acc.length cv), .is (.agg (rdrC pa pm ps)), .is (.int .u64 (own : Int))] (by simp) ?_ ?_
        · simp only [List.toList_toArray, List.take_succ_cons, List.take_zero]
          have KW : ∀ W, Below wr.heap.size wr W → W.cell? ⟨w.heap.size + 1, 0, none⟩ = some (.slice adv acc.length cv) ∧ RB W w.heap.size pa pm ps := fun W hW => ⟨(cell_same (hW.block _ HR.out.1.lt)).trans q0, (hW.block _ (Array.getElem?_eq_some_iff.1 HR.out.2.2.2.1).1).trans HR.out.2.2.2.1⟩
          iterate 4 (
            refine sq_pure (by rfl) (fun W hb _ => ?_) ?_
            · obtain ⟨y0, y1⟩ := KW W hb
              have y2 := y1.at0
              have y3 := y1.at1
              have y4 := y1.at2
              have y5 := y1.at3
              have y6 := y1.at4
              first | (go_simp; done) | (go_simp; rfl)
            simp only [Act.put, List.setIfInBounds_toArray, List.set_cons_zero, List.set_cons_succ])
          refine sq_end (fun W hb _ => ?_)
          intro b' hex hdf
          refine panics_of (f := 85) (args := #[.agg (rdrC pa pm ps), .int .u64 (own : Int)]) (by go_simp) hex (QA.out W hb) fun e' w2 h => ?_
          have HF := faulted_kp HR.out.2.2.2.2.1 (Faulted.after (Kp.below hb) h)
          obtain ⟨bf, rfl, h1, h2, h3⟩ := h
          exact ⟨_, rfl, hdf, by rw [hres]; exact HF⟩
        · intro i hi o9 ho9 a9 hl9 W9
          obtain rfl : i = 7 := by simpa using hi
          obtain rfl := Option.some.inj ho9
          have e9 := hl9 4 (by decide)
          have ev : a9.eval (.tmp 4) = .pointer (some ⟨w.heap.size + 1, 0, none⟩) := by simp [Act.eval, Array.getD_eq_getD_getElem?, e9]
          refine ⟨.pointer (some ⟨w.heap.size + 1, 0, none⟩), ?_⟩
          go_simp
      | ok r3 =>
        obtain ⟨x, a3⟩ := r3
        have QA : Hid (Calls Tryd.prog 85 #[.agg (rdrC pa pm ps), .int .u64 (own : Int)] wr.drew fun e w' => e = .returned (.agg #[.int .u8 (x.b : Int), .int .u64 (x.out : Int), .int .i64 x.to]) ∧ Rdr w' pa pm ps s a3 ∧ Kp (fun g => g = pa) wr.drew w') := Lib.hid (by
          have := arc_any (own := own) (HR.out.2.2.1.below (Below.refl _ wr).drew) hs HR.out.2.2.2.2.2.2.1 ho
          rw [hA] at this
          exact this)
        have hlt3 := arcR_lt hA
        rw [ba_size] at hlt3
        have hres : arcsR s.data.toList own (t / 2) a1 [] = arcsR s.data.toList own (t / 2 - (k + 1)) a3 (acc ++ [x]) := by
          rw [HR.out.2.2.2.2.2.2.2, hstep]
          show (match arcR s.data.toList own ak with | .error e => _ | .ok (a, a1) => _) = _
          rw [hA]
        have HRES := Lib.hid (And.intro hres hlt3)
        clear hres hlt3 hA hstep
        have hk256 : acc.length ≤ 256 := by have := HR.out.2.2.2.2.2.1; omega
        go_wp2
        go_region_law (first
          | (refine step_call_ok (f := 85) (args := #[.agg (rdrC pa pm ps), .int .u64 (own : Int)]) rfl (by first | (go_simp; done) | (go_simp; rfl)) QA.out ?_
             intro e' w1 hh
             obtain ⟨rfl, hr1, hk1⟩ := hh
             refine ⟨_, rfl, ?_⟩
             have hk1' : Kp (fun g => g = pa) wr w1 := (Kp.below (Below.refl _ wr).drew).trans hk1 (fun g e => .inl e)
             have hs1 := HR.out.1.kp hk1' HQ.out.1
             have z0 := hs1.at0
             have z1 : ∀ ob, (w1.alloc ob).cell? ⟨w.heap.size + 1, 0, none⟩ = some (.slice adv acc.length cv) := fun ob => by rw [(below_alloc w1 ob).cell (p := ⟨w.heap.size + 1, 0, none⟩) hs1.lt]; exact z0
             have H1 := Lib.hid (And.intro hs1 (And.intro hr1 hk1'))
             clear hr1 hk1 hk1' hs1)
          | (refine step_append_row (w2 := w1) (vs := .slice adv acc.length cv) rfl (.tmp 24) (.tmp 28) rfl rfl Tryd.underlying62 iArc rfl (by decide) w.heap.size (w.heap.size + 1) 0 (.slice adv acc.length cv) acc.length (arcsC acc) (arcC x) w1.heap.size rfl rfl (heap_alloc_new w1 _) (below_alloc w1 _) (owns_same HR.out.2.1 fun b hb => H1.out.2.2.block b (HR.out.2.1.lt b hb).2 (fun e => by have := (HR.out.2.1.lt b hb).1; have := HB0.out.2.1; omega)) (by omega) (by have := H1.out.2.2.size; have := HR.out.2.2.2.2.1.size; omega) rfl (by intro u hu; simp [arcC] at hu; rcases hu with rfl | rfl | rfl <;> rfl) (fun e => by
               obtain ⟨_, cs9, fz9, h9⟩ := owns_cells HR.out.2.1 _ e
               have := HR.out.1
               unfold StB at this
               rw [this] at h9
               cases h9) H1.out.1.at0 (H1.out.1.free 0) H1.out.1.lt ?_
             intro a5 n5 c5 w5 hA5 r1 r2))
        all_goals go_wp2
        all_goals (
          obtain ⟨m1, m2, m3, m4, m5⟩ := row_next (q := w.heap.size + 1) (r := w.heap.size) (x := x) H1.out.1 H1.out.2.1 (HR.out.2.2.2.1.kp H1.out.2.2 HQ.out.2.2.2.2.1) (owns_same HR.out.2.1 fun b hb => H1.out.2.2.block b (HR.out.2.1.lt b hb).2 (fun e => by have := (HR.out.2.1.lt b hb).1; have := HB0.out.2.1; omega)) hA5 (by have := HB0.out.2; omega)
          refine ⟨⟨_, _, _, _, _, _, _, _, _, _, _, ?_, rfl⟩, ?_⟩
          · exact ⟨k + 1, a3, acc ++ [x], _, by omega, by go_num, Lib.hid ⟨m1, m2, m3, m4, (HR.out.2.2.2.2.1.trans H1.out.2.2 (fun g e => .inl (.inl e))).trans m5 (fun g e => .inl e), by rw [List.length_append, List.length_singleton, HR.out.2.2.2.2.2.1], HRES.out.2.2, HRES.out.1⟩⟩
          · simp [intOf]; omega)
    · have e0 : decide ((k : Int) < ((t / 2 : Nat) : Int)) = false := by simp only [decide_eq_false_iff_not]; omega
      have hke : k = t / 2 := by omega
      have q0 := HR.out.1.at0
      have q1 := HR.out.1.at1
      have q2 := HR.out.1.at2
      have f0 := HR.out.1.free 0
      have f1 := HR.out.1.free 1
      have f2 := HR.out.1.free 2
      have hres : arcsR s.data.toList own (t / 2) a1 [] = .ok (acc, ak) := by
        rw [HR.out.2.2.2.2.2.2.2, hke, Nat.sub_self]
        rfl
      have HRES := Lib.hid hres
      clear hres
      go_wp2
      have m1 := ((HR.out.1.set0 (.slice adv acc.length cv)).set1 false).set2 0
      have y0 := kp_set wr (w.heap.size + 1) 0 (.slice adv acc.length cv)
      have y1 := kp_set (wr.setCell ⟨w.heap.size + 1, 0, none⟩ (.slice adv acc.length cv)) (w.heap.size + 1) 1 (.bool false)
      have y2 := kp_set ((wr.setCell ⟨w.heap.size + 1, 0, none⟩ (.slice adv acc.length cv)).setCell ⟨w.heap.size + 1, 1, none⟩ (.bool false)) (w.heap.size + 1) 2 (.int .u64 (0 : Int))
      have hk := (y0.trans y1 (fun g e => .inl e)).trans y2 (fun g e => .inl e)
      have hr := HR.out.2.2.1.kp hk HQ.out.2.1 HQ.out.2.2.1 HQ.out.2.2.2.1
      have hrow := HR.out.2.1.kp hk (fun g hg e => by
        subst e
        obtain ⟨_, cs9, fz9, h9⟩ := owns_cells HR.out.2.1 _ hg
        have := HR.out.1
        unfold StB at this
        rw [this] at h9
        cases h9)
      refine bodyPost_ret (v := .agg #[.slice adv acc.length cv, .bool false, .int .u64 (0 : Int)]) (by simp [results, Tryd.results60, go_sem, m1.at0, m1.at1, m1.at2, q0, q1, q2]) rfl ?_
      rw [HRES.out]
      refine ⟨⟨.slice adv acc.length cv, ?_, hrow⟩, hr, (HR.out.2.2.2.2.1.trans hk (fun g e => .inl (.inr (by omega)))).mono (fun g e => e.elim .inl .inr)⟩
      rw [show (t % 2 == 1) = false by simp [HFN.out]]
      rfl

theorem state_any {w : World} {pa pm ps a own : Nat} {s : ByteArray} (h : Rdr w pa pm ps s a) (hs : s.size ≤ 1000000000) (ha : a ≤ s.size) (ho : own ≤ 1000000000) : Calls Tryd.prog 60 #[.agg (rdrC pa pm ps), .int .u64 (own : Int)] w (HadS w pa pm ps s (stR s.data.toList own a)) := by
  unfold stR
  cases hT : numR s.data.toList a 0 513 with
  | error e1 => exact state_e1 h hs ha ho hT
  | ok r1 =>
    obtain ⟨t, a1⟩ := r1
    dsimp only
    by_cases hfin : t % 2 = 1
    · rw [if_pos hfin]
      cases hO : numR s.data.toList a1 0 18446744073709551615 with
      | error e2 => exact state_e2 h hs ha ho hT hfin hO
      | ok r2 => exact state_fin h hs ha ho hT hfin hO
    · rw [if_neg hfin]
      exact state_not h hs ha ho hT hfin
end Go.Proofs.YtjiilmiikejnhaaDoor

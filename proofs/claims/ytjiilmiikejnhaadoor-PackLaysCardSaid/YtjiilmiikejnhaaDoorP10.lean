/-
  The closures that read: a fault, a letter, a number.
-/
import Derived.Test.YtjiilmiikejnhaaDoorP06
import Derived.Test.YtjiilmiikejnhaaDoorP08
import Derived.Test.YtjiilmiikejnhaaDoorP09
set_option linter.unusedVariables false
set_option linter.unusedSimpArgs false
namespace Go.Proofs.YtjiilmiikejnhaaDoor
open Go.RowKit Go.Shelf

/-- The reader's blocks: where it is, what gives up, what is read. -/
structure Rdr (w : World) (pa pm ps : Nat) (s : ByteArray) (at_ : Nat) : Prop where
  pos : w.heap[pa]? = some (.cells #[.int .i64 (at_ : Int)] 3 (0, 0))
  must : w.heap[pm]? = some (.cells #[.func (.func 79) #[] #[.pointer (some ⟨pa, 0, none⟩)]] 113 (0, 0))
  text : w.heap[ps]? = some (.cells #[.string s] 9 (0, 0))

theorem Rdr.at0 {w : World} {pa pm ps : Nat} {s : ByteArray} {a : Nat} (h : Rdr w pa pm ps s a) : w.cell? ⟨pa, 0, none⟩ = some (.int .i64 (a : Int)) := by rw [cell_of_row w pa 0 _ _ _ h.pos]; rfl
theorem Rdr.at1 {w : World} {pa pm ps : Nat} {s : ByteArray} {a : Nat} (h : Rdr w pa pm ps s a) : w.cell? ⟨pm, 0, none⟩ = some (.func (.func 79) #[] #[.pointer (some ⟨pa, 0, none⟩)]) := by rw [cell_of_row w pm 0 _ _ _ h.must]; rfl
theorem Rdr.at2 {w : World} {pa pm ps : Nat} {s : ByteArray} {a : Nat} (h : Rdr w pa pm ps s a) : w.cell? ⟨ps, 0, none⟩ = some (.string s) := by rw [cell_of_row w ps 0 _ _ _ h.text]; rfl
theorem Rdr.free {w : World} {pa pm ps : Nat} {s : ByteArray} {a : Nat} (h : Rdr w pa pm ps s a) (o : Nat) : w.frozen? ⟨pa, o, none⟩ = false := by
  have := h.pos
  simp [World.frozen?, this]
theorem Rdr.below {w w' : World} {pa pm ps : Nat} {s : ByteArray} {a : Nat} (h : Rdr w pa pm ps s a) (hb : Below w.heap.size w w') : Rdr w' pa pm ps s a :=
  ⟨(hb.block _ (Array.getElem?_eq_some_iff.1 h.pos).1).trans h.pos, (hb.block _ (Array.getElem?_eq_some_iff.1 h.must).1).trans h.must, (hb.block _ (Array.getElem?_eq_some_iff.1 h.text).1).trans h.text⟩
theorem Rdr.ne {w : World} {pa pm ps : Nat} {s : ByteArray} {a : Nat} (h : Rdr w pa pm ps s a) : pm ≠ pa ∧ ps ≠ pa := by
  refine ⟨fun e => ?_, fun e => ?_⟩
  · have := h.must; rw [e, h.pos] at this; cases this
  · have := h.text; rw [e, h.pos] at this; cases this
/-- Gone on. -/
theorem Rdr.to {w : World} {pa pm ps : Nat} {s : ByteArray} {a : Nat} (h : Rdr w pa pm ps s a) (b : Nat) : Rdr (w.setCell ⟨pa, 0, none⟩ (.int .i64 (b : Int))) pa pm ps s b ∧ Kp (fun g => g = pa) w (w.setCell ⟨pa, 0, none⟩ (.int .i64 (b : Int))) := by
  have hg := grown_setCell w pa 0 (.int .i64 (b : Int))
  have hk : Kp (fun g => g = pa) w (w.setCell ⟨pa, 0, none⟩ (.int .i64 (b : Int))) := Kp.grown hg (fun g e => (Option.some.inj e).symm)
  exact ⟨⟨cells_setCell h.pos 0 _, (hk.block _ (Array.getElem?_eq_some_iff.1 h.must).1 h.ne.1).trans h.must, (hk.block _ (Array.getElem?_eq_some_iff.1 h.text).1 h.ne.2).trans h.text⟩, hk⟩

/-- Given up: a fault of this kind, at this place. -/
def Faulted (w : World) (pa : Nat) (c at_ : Nat) (e : Ending) (w' : World) : Prop :=
  ∃ bf, e = .panicked [{ v := .iface 88 (.pointer (some ⟨bf, 0, none⟩)), recovered := false }] ∧ w.heap.size ≤ bf ∧ w'.heap[bf]? = some (.cells #[.int .i64 (c : Int), .int .i64 (at_ : Int)] 60 (0, 0)) ∧ Kp (fun g => g = pa) w w'
theorem Faulted.after {w0 w w' : World} {pa c a : Nat} {e : Ending} (hk : Kp (fun g => g = pa) w0 w) (h : Faulted w pa c a e w') : Faulted w0 pa c a e w' := by
  obtain ⟨bf, h1, h2, h3, h4⟩ := h
  exact ⟨bf, h1, Nat.le_trans hk.size h2, h3, hk.trans h4 (fun g e => .inl e)⟩

theorem must_ok {w : World} {pa : Nat} (c : Int) :
    Calls Tryd.prog 79 #[.bool true, .int .i64 c, .pointer (some ⟨pa, 0, none⟩)] w fun e w' => e = .returned (.tuple #[]) ∧ w' = w := by
  go_enter Tryd.func79, Tryd.ntmps79
  go_wp2
  go_end0
  exact ⟨rfl, rfl⟩

theorem must_no {w : World} {pa pm ps a : Nat} {s : ByteArray} (h : Rdr w pa pm ps s a) (c : Nat) :
    Calls Tryd.prog 79 #[.bool false, .int .i64 (c : Int), .pointer (some ⟨pa, 0, none⟩)] w (Faulted w pa c a) := by
  have k0 := h.at0
  go_enter Tryd.func79, Tryd.ntmps79
  go_wp2
  exact ⟨rfl, w.heap.size, rfl, Nat.le_refl _, heap_alloc_new w _, Kp.below ((Below.refl _ w).alloc (Nat.le_refl _) _)⟩

/-- What reading leaves. -/
def Had {α : Type} (w : World) (pa pm ps : Nat) (s : ByteArray) (val : α → Value) (r : Rd α) (e : Ending) (w' : World) : Prop :=
  match r with
  | .ok (x, a) => e = .returned (val x) ∧ Rdr w' pa pm ps s a ∧ Kp (fun g => g = pa) w w'
  | .error (c, p) => Faulted w pa c p e w'

theorem ba_size (s : ByteArray) : s.data.toList.length = s.size := by simp

set_option maxHeartbeats 1000000 in
set_option maxRecDepth 100000 in
theorem letter_any {w : World} {pa pm ps a : Nat} {s : ByteArray} (h : Rdr w pa pm ps s a) (hs : s.size ≤ 1000000000) (ha : a ≤ s.size) :
    Calls Tryd.prog 81 #[.pointer (some ⟨pm, 0, none⟩), .pointer (some ⟨pa, 0, none⟩), .pointer (some ⟨ps, 0, none⟩)] w (Had w pa pm ps s (fun b : UInt8 => .int .u8 (b.toNat : Int)) (letR s.data.toList a)) := by
  have k0 := h.at0
  have k1 := h.at1
  have k2 := h.at2
  have f0 := h.free 0
  have HR := Lib.hid h
  by_cases hlt : a < s.size
  · have e0 : decide ((a : Int) < (s.size : Int)) = true := by simp; omega
    have hr : letR s.data.toList a = .ok (s.data.toList[a]'(by rw [ba_size]; exact hlt), a + 1) := by
      unfold letR
      rw [dif_pos (by rw [ba_size]; exact hlt)]
    rw [hr]
    have e1 : IntKind.i64.wrap ((a : Int) + 1) = ((a + 1 : Nat) : Int) := by rw [IntWalk.i64_in _ (by omega)]; omega
    have e2 : IntKind.i64.wrap (((a + 1 : Nat) : Int) - 1) = (a : Int) := by rw [IntWalk.i64_in _ (by omega)]; omega
    have i1 : (a : Int) < (s.size : Int) := by omega
    have ht := h.to (a + 1)
    rw [show ((a + 1 : Nat) : Int) = (a : Int) + 1 by omega] at ht
    have HT := Lib.hid ht
    clear ht
    clear h hr
    go_enter Tryd.func81, Tryd.ntmps81
    go_wp2_with (go_at_call 79; (with_reducible refine (must_ok _).mono ?_); rintro e' w1 ⟨rfl, rfl⟩; have k9 := HT.out.1.at0; rw [show ((a + 1 : Nat) : Int) = (a : Int) + 1 by omega] at k9; have k8 := HT.out.1.at2)
    go_ret
    exact ⟨rfl, HT.out.1, HT.out.2⟩
  · have e0 : decide ((a : Int) < (s.size : Int)) = false := by simp; omega
    have hr : letR s.data.toList a = .error (3, a) := by
      unfold letR
      rw [dif_neg (by rw [ba_size]; exact hlt)]
    rw [hr]
    have MN : Hid (Calls Tryd.prog 79 #[.bool false, .int .i64 3, .pointer (some ⟨pa, 0, none⟩)] w (Faulted w pa 3 a)) := Lib.hid (must_no h 3)
    clear h hr
    go_enter Tryd.func81, Tryd.ntmps81
    go_wp2_with (go_at_call 79; (with_reducible refine MN.out.mono ?_); rintro e' w1 ⟨bf, rfl, h1, h2, h3⟩)
    exact ⟨rfl, bf, rfl, h1, h2, h3⟩

theorem get_nat {l : List UInt8} {a : Nat} (h : (Plain.get l (a : Int)).2.2 = 0) : ∃ k : Nat, (Plain.get l (a : Int)).2.1 = (k : Int) ∧ a < k ∧ k ≤ l.length := by
  obtain ⟨k, u, h1, h2, h3, h4, -⟩ := Plain.get_ok h
  have hk : a = k := by omega
  subst hk
  exact ⟨_, h2, by omega, h4⟩

set_option maxHeartbeats 1000000 in
set_option maxRecDepth 100000 in
theorem number_any {w : World} {pa pm ps a least most : Nat} {s : ByteArray} (h : Rdr w pa pm ps s a) (hs : s.size ≤ 1000000000) (ha : a ≤ s.size) (hl : least < 18446744073709551616) (hm : most < 18446744073709551616) :
    Calls Tryd.prog 82 #[.int .u64 (least : Int), .int .u64 (most : Int), .pointer (some ⟨ps, 0, none⟩), .pointer (some ⟨pa, 0, none⟩), .pointer (some ⟨pm, 0, none⟩)] w (Had w pa pm ps s (fun n : Nat => .int .u64 (n : Int)) (numR s.data.toList a least most)) := by
  have k0 := h.at0
  have k1 := h.at1
  have k2 := h.at2
  have f0 := h.free 0
  have HR := Lib.hid h
  have q := get_any s (a : Int) w (by unfold maxLen; omega)
  unfold gotten at q
  obtain ⟨g, hg⟩ : ∃ g, g = Plain.get s.data.toList (a : Int) := ⟨_, rfl⟩
  rw [← hg] at q
  obtain ⟨n, nx, c⟩ := g
  dsimp only at q
  have Q := Lib.hid q
  clear q
  have hlt : n < 18446744073709551616 := by have := Plain.get_lt s.data.toList (a : Int); rw [← hg] at this; exact this
  by_cases hc : c = 0
  · subst hc
    obtain ⟨k, hk, hk1, hk2⟩ := get_nat (l := s.data.toList) (a := a) (by rw [← hg])
    rw [← hg] at hk
    dsimp only at hk
    subst hk
    have Q : Hid (Calls Tryd.prog 83 #[.string s, .int .i64 (a : Int)] w fun e w' => e = .returned (.tuple #[.int .u64 (n : Int), .int .i64 (k : Int), .int .i64 0]) ∧ w = w') := Q
    have HT := Lib.hid (h.to k)
    have e0 : ((0 : Int) == 0) = true := rfl
    have MN : Hid (Calls Tryd.prog 79 #[.bool false, .int .i64 17, .pointer (some ⟨pa, 0, none⟩)] w (Faulted w pa 17 a)) := Lib.hid (must_no h 17)
    by_cases h1 : least ≤ n
    · have e1 : decide ((least : Int) ≤ (n : Int)) = true := by simp; omega
      by_cases h2 : n ≤ most
      · have e2 : decide ((n : Int) ≤ (most : Int)) = true := by simp; omega
        have hr : numR s.data.toList a least most = .ok (n, k) := by
          unfold numR
          rw [← hg]
          simp only [ne_eq, not_true_eq_false, if_false]
          rw [if_neg (by omega)]
          rfl
        rw [hr]
        clear h hr hg
        go_enter Tryd.func82, Tryd.ntmps82
        go_wp2_with (first | (go_at_call 83; (with_reducible refine Q.out.mono ?_); rintro e' w1 ⟨rfl, rfl⟩) | (go_at_call 79; (with_reducible refine (must_ok _).mono ?_); rintro e' w1 ⟨rfl, rfl⟩))
        go_ret
        exact ⟨rfl, HT.out.1, HT.out.2⟩
      · have e2 : decide ((n : Int) ≤ (most : Int)) = false := by simp; omega
        have hr : numR s.data.toList a least most = .error (17, a) := by
          unfold numR
          rw [← hg]
          simp only [ne_eq, not_true_eq_false, if_false]
          rw [if_pos (by omega)]
        rw [hr]
        clear h hr hg
        go_enter Tryd.func82, Tryd.ntmps82
        go_wp2_with (first | (go_at_call 83; (with_reducible refine Q.out.mono ?_); rintro e' w1 ⟨rfl, rfl⟩) | (go_at_call 79; (with_reducible refine MN.out.mono ?_); rintro e' w1 ⟨bf, rfl, h1, h2, h3⟩) | (go_at_call 79; (with_reducible refine (must_ok _).mono ?_); rintro e' w1 ⟨rfl, rfl⟩))
        exact ⟨rfl, bf, rfl, h1, h2, h3⟩
    · have e1 : decide ((least : Int) ≤ (n : Int)) = false := by simp; omega
      have hr : numR s.data.toList a least most = .error (17, a) := by
        unfold numR
        rw [← hg]
        simp only [ne_eq, not_true_eq_false, if_false]
        rw [if_pos (by omega)]
      rw [hr]
      clear h hr hg
      go_enter Tryd.func82, Tryd.ntmps82
      go_wp2_with (first | (go_at_call 83; (with_reducible refine Q.out.mono ?_); rintro e' w1 ⟨rfl, rfl⟩) | (go_at_call 79; (with_reducible refine MN.out.mono ?_); rintro e' w1 ⟨bf, rfl, h1, h2, h3⟩) | (go_at_call 79; (with_reducible refine (must_ok _).mono ?_); rintro e' w1 ⟨rfl, rfl⟩))
      exact ⟨rfl, bf, rfl, h1, h2, h3⟩
  · have e0 : ((c : Int) == 0) = false := by simp; omega
    have hr : numR s.data.toList a least most = .error (c, a) := by
      unfold numR
      rw [← hg]
      exact if_pos hc
    rw [hr]
    have MN := Lib.hid (must_no h c)
    clear h hr hg
    go_enter Tryd.func82, Tryd.ntmps82
    go_wp2_with (first | (go_at_call 83; (with_reducible refine Q.out.mono ?_); rintro e' w1 ⟨rfl, rfl⟩) | (go_at_call 79; (with_reducible refine MN.out.mono ?_); rintro e' w1 ⟨bf, rfl, h1, h2, h3⟩))
    exact ⟨rfl, bf, rfl, h1, h2, h3⟩

end Go.Proofs.YtjiilmiikejnhaaDoor

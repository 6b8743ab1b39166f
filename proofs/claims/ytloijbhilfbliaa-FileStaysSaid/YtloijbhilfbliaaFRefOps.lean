/-
  The document's file: Sync, ReadAt.
-/
import Derived.Test.YtloijbhilfbliaaFBytes2
namespace Go.Proofs.Ytloijbhilfbliaa
open Go.RowKit Go.Shelf

/-- Block p holds the two cells of the document's file. -/
def Duo (w : World) (p : Nat) (a b : Value) : Prop := w.heap[p]? = some (.cells #[a, b] 28 (0, 0))
theorem Duo.at0 {w : World} {p : Nat} {a b : Value} (h : Duo w p a b) : w.cell? ⟨p, 0, none⟩ = some a := by rw [cell_of_row w p 0 _ _ _ h]; rfl
theorem Duo.at1 {w : World} {p : Nat} {a b : Value} (h : Duo w p a b) : w.cell? ⟨p, 1, none⟩ = some b := by rw [cell_of_row w p 1 _ _ _ h]; rfl
theorem Duo.free {w : World} {p : Nat} {a b : Value} (h : Duo w p a b) (o : Nat) : w.frozen? ⟨p, o, none⟩ = false := by
  unfold Duo at h
  simp [World.frozen?, h]
theorem Duo.lt {w : World} {p : Nat} {a b : Value} (h : Duo w p a b) : p < w.heap.size := (Array.getElem?_eq_some_iff.1 h).1
theorem Duo.set0 {w : World} {p : Nat} {a b : Value} (h : Duo w p a b) (v : Value) : Duo (w.setCell ⟨p, 0, none⟩ v) p v b := cells_setCell h 0 v
theorem Duo.set1 {w : World} {p : Nat} {a b : Value} (h : Duo w p a b) (v : Value) : Duo (w.setCell ⟨p, 1, none⟩ v) p a v := cells_setCell h 1 v
theorem Duo.below {w w' : World} {p : Nat} {a b : Value} (h : Duo w p a b) (hb : Below w.heap.size w w') : Duo w' p a b := (hb.block p h.lt).trans h

/-- What the document's file has become. -/
def RefWent (w : World) (p : Nat) (D : List UInt8) (A : List Do) (J : Nat → Prop) (r : Value) (e : Ending) (w' : World) : Prop :=
  e = .returned r ∧ ∃ J' : Nat → Prop, RefAt w' p D A J' ∧ (∀ g, J' g → J g ∨ w.heap.size ≤ g) ∧ Kept J w w'

/-- Bytes put in the place of all. -/
theorem ref_settled {w w1 : World} {p : Nat} {D : List UInt8} {A : List Do} {J : Nat → Prop} {av : Value} (h : RefAt w p D A J) (hd : Duo w p (.string (strO D)) av) (hj : J p) (hb : Below w.heap.size w w1) (S : List UInt8) (hS : S.length ≤ 100000) :
    RefWent w p S [] J (.tuple #[]) (.returned (.tuple #[])) ((w1.setCell ⟨p, 0, none⟩ (.string (strO S))).setCell ⟨p, 1, none⟩ (.slice none 0 0)) := by
  have d1 := ((hd.below hb).set0 (.string (strO S))).set1 (.slice none 0 0)
  have hg : w1.grownBy ((w1.setCell ⟨p, 0, none⟩ (.string (strO S))).setCell ⟨p, 1, none⟩ (.slice none 0 0)) (some p) := grownBy_trans (grown_setCell _ _ _ _) (grown_setCell _ _ _ _)
  have hk : Kept J w ((w1.setCell ⟨p, 0, none⟩ (.string (strO S))).setCell ⟨p, 1, none⟩ (.slice none 0 0)) := (Kept.below hb).trans (Kept.grown (M := J) hg (fun g e => by cases e; exact hj)) (fun g hg => .inl hg)
  refine ⟨rfl, J, ⟨⟨.slice none 0 0, d1, World.ownsRow_nil _ 0 72 3, hj, fun g hg => by cases hg⟩, trivial, hS, fun g hg => Nat.lt_of_lt_of_le (h.mem g hg) hk.size⟩, fun g hg => .inl hg, hk⟩

set_option maxHeartbeats 1000000 in
set_option maxRecDepth 100000 in
theorem ref_sync {w : World} {p : Nat} {D : List UInt8} {A : List Do} {J : Nat → Prop} (h : RefAt w p D A J) :
    Calls Try.prog 30 #[.pointer (some ⟨p, 0, none⟩)] w (RefWent w p (reads D A) [] J (.tuple #[])) := by
  obtain ⟨av, hp, ha, hj, hj2⟩ := id h.it
  have hp : Duo w p (.string (strO D)) av := hp
  have Q28 := Lib.hid (ref_bytes h)
  have hS : (reads D A).length ≤ 100000 := Nat.le_trans (reads_length D A) h.small
  have HE := Lib.hid fun (w1 : World) (hb : Below w.heap.size w w1) => ref_settled h hp hj hb (reads D A) hS
  have HP : Hid (∀ W, Below w.heap.size w W → W.cell? ⟨p, 0, none⟩ = some (.string (strO D)) ∧ W.cell? ⟨p, 1, none⟩ = some av ∧ W.frozen? ⟨p, 0, none⟩ = false ∧ W.frozen? ⟨p, 1, none⟩ = false) := Lib.hid fun W hW => ⟨(hp.below hW).at0, (hp.below hW).at1, (hp.below hW).free 0, (hp.below hW).free 1⟩
  clear h hp ha hj hj2 hS
  obtain ⟨S, hS⟩ : ∃ S, strO (reads D A) = S := ⟨_, rfl⟩
  rw [hS] at Q28 HE
  clear hS
  go_enter Try.func30, Try.ntmps30
  go_wp2_with (go_at_call 28; (with_reducible refine Q28.out.mono ?_); rintro e w1 ⟨rfl, hb⟩; obtain ⟨k0, k1, f0, f1⟩ := HP.out _ hb; have HB := Lib.hid hb; clear hb)
  exact bodyPost_end (v := .tuple #[]) (by simp [results, Try.results30, go_sem]) rfl (HE.out _ HB.out)

theorem strO_drop (l : List UInt8) (k : Nat) : (strO l).extract k (strO l).size = strO (l.drop k) := ba_same (by
  simp only [strO, ByteArray.data_extract, Array.toList_extract, ByteArray.size, List.size_toArray, List.extract_eq_take_drop]
  rw [List.take_of_length_le (by simp)])

set_option maxHeartbeats 1000000 in
set_option maxRecDepth 100000 in
theorem ref_readAt {w : World} {p : Nat} {D : List UInt8} {A : List Do} {J : Nat → Prop} {a n : Int} (h : RefAt w p D A J) :
    Calls Try.prog 31 #[.pointer (some ⟨p, 0, none⟩), .int .i64 a, .int .i64 n] w fun e w' => e = .returned (.tuple #[.string ⟨(readT (reads D A) a n).toArray⟩, .int .i64 (readE (reads D A) a n)]) ∧ Below w.heap.size w w' := by
  have Q28 := Lib.hid (ref_bytes h)
  have hS : (reads D A).length ≤ 100000 := Nat.le_trans (reads_length D A) h.small
  obtain ⟨L, hL⟩ : ∃ L, reads D A = L := ⟨_, rfl⟩
  rw [hL] at Q28 hS
  rw [hL]
  clear h hL
  obtain ⟨S, hSL⟩ : ∃ S, strO L = S := ⟨_, rfl⟩
  have hs : S.size = L.length := by rw [← hSL, strO_size]
  rw [hSL] at Q28
  by_cases hc : a < 0 ∨ n < 0 ∨ (L.length : Int) < a
  · rw [show readT L a n = [] by unfold readT; rw [if_pos hc], show readE L a n = 17 by unfold readE; rw [if_pos hc]]
    by_cases ha : a < 0
    · have d1 : decide (a < 0) = true := decide_eq_true ha
      go_enter Try.func31, Try.ntmps31
      go_wp2_with (go_at_call 28; (with_reducible refine Q28.out.mono ?_); rintro e w1 ⟨rfl, hb⟩; have HB := Lib.hid hb; clear hb)
      go_ret2
      exact ⟨rfl, HB.out⟩
    · have d1 : decide (a < 0) = false := decide_eq_false ha
      by_cases hn : n < 0
      · have d2 : decide (n < 0) = true := decide_eq_true hn
        go_enter Try.func31, Try.ntmps31
        go_wp2_with (go_at_call 28; (with_reducible refine Q28.out.mono ?_); rintro e w1 ⟨rfl, hb⟩; have HB := Lib.hid hb; clear hb)
        go_ret2
        exact ⟨rfl, HB.out⟩
      · have d2 : decide (n < 0) = false := decide_eq_false hn
        have d3 : decide ((L.length : Int) < a) = true := decide_eq_true (by omega)
        go_enter Try.func31, Try.ntmps31
        go_wp2_with (go_at_call 28; (with_reducible refine Q28.out.mono ?_); rintro e w1 ⟨rfl, hb⟩; have HB := Lib.hid hb; clear hb)
        go_ret2
        exact ⟨rfl, HB.out⟩
  · obtain ⟨m, rfl⟩ : ∃ m : Nat, a = (m : Int) := ⟨a.toNat, by omega⟩
    obtain ⟨k, rfl⟩ : ∃ k : Nat, n = (k : Int) := ⟨n.toNat, by omega⟩
    have hm : m ≤ L.length := by omega
    have hr : readT L m k = (L.drop m).take k := by unfold readT; rw [if_neg hc]; rfl
    rw [hr, show readE L m k = 0 by unfold readE; rw [if_neg hc]]
    have d1 : decide ((m : Int) < 0) = false := decide_eq_false (by omega)
    have d2 : decide ((k : Int) < 0) = false := decide_eq_false (by omega)
    have d3 : decide ((L.length : Int) < (m : Int)) = false := decide_eq_false (by omega)
    have he : S.extract m S.size = strO (L.drop m) := by rw [← hSL, strO_drop]
    have hz : (strO (L.drop m)).size = L.length - m := by rw [strO_size, List.length_drop]
    obtain ⟨j, hj⟩ : ∃ j, min k (L.length - m) = j := ⟨_, rfl⟩
    have hx : (strO (L.drop m)).extract 0 j = ⟨((L.drop m).take k).toArray⟩ := by
      rw [strO_take, ← hj]
      show (⟨_⟩ : ByteArray) = _
      congr 2
      rw [List.take_eq_take_iff, List.length_drop]
      omega
    have f1 : (m : Int) ≤ (L.length : Int) := by omega
    have f2 : min (k : Int) ((L.length - m : Nat) : Int) = (j : Int) := by omega
    have f3 : (j : Int) ≤ ((L.length - m : Nat) : Int) := by omega
    rw [hs] at he
    rw [← hx]
    clear hx hr hj hc hSL
    obtain ⟨T, hT⟩ : ∃ T, strO (L.drop m) = T := ⟨_, rfl⟩
    rw [hT] at he hz ⊢
    clear hT
    go_enter Try.func31, Try.ntmps31
    go_wp2_with (go_at_call 28; (with_reducible refine Q28.out.mono ?_); rintro e w1 ⟨rfl, hb⟩; have HB := Lib.hid hb; clear hb)
    all_goals
      go_ret2
      refine ⟨?_, HB.out⟩
      first
        | (rw [show j = L.length - m by omega]; rfl)
        | (rw [show j = k by omega]; rfl)
end Go.Proofs.Ytloijbhilfbliaa

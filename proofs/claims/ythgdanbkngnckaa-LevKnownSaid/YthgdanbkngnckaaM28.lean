/-
  LevKnown's walk.
-/
import Derived.Test.YthgdanbkngnckaaM25
set_option linter.unusedVariables false
set_option linter.unusedSimpArgs false
namespace Go.Proofs.Ythgdanbkngnckaa
open Go.RowKit Go.Shelf Said

def repB (b : UInt8) (n : Nat) : ByteArray := ⟨(List.replicate n b).toArray⟩
theorem repB_list (b : UInt8) (n : Nat) : (repB b n).data.toList = List.replicate n b := rfl
theorem repB_size (b : UInt8) (n : Nat) : (repB b n).size = n := by
  show (List.replicate n b).toArray.size = n
  rw [List.size_toArray, List.length_replicate]
theorem repB_is (b : UInt8) (n : Nat) (hn : n ≤ 1000) (w : World) : Calls Try.prog 26 #[.string ⟨#[b]⟩, .int .i64 (n : Int)] w fun e w' => e = .returned (.string (repB b n)) ∧ Below w.heap.size w w' := by
  refine (Try.strings_Repeat ⟨#[b]⟩ n w (by omega) (by show 1 * n ≤ _; omega)).mono ?_
  rintro e w' ⟨rfl, hb⟩
  refine ⟨?_, hb⟩
  have e : ∀ m, Lib.repeatL (ByteArray.mk #[b]).data.toList m = List.replicate m b := by
    intro m
    induction m with
    | zero => rfl
    | succ m ih => simp [Lib.repeatL, ih, List.replicate_succ]
  rw [e]
  rfl
theorem long_is : ∃ A : ByteArray, A.data.toList = List.replicate 255 97 ∧ A.size = 255 ∧ ∀ w, Calls Try.prog 26 #[.string ⟨#[97]⟩, .int .i64 255] w fun e w' => e = .returned (.string A) ∧ Below w.heap.size w w' :=
  ⟨repB 97 255, repB_list _ _, repB_size _ _, fun w => repB_is 97 255 (by omega) w⟩
theorem long_cut {A : ByteArray} (hA : A.data.toList = List.replicate 255 97) (n : Nat) (h : n ≤ 255) : (A.extract 0 n).data.toList = List.replicate n 97 := by
  rw [ba_extract, hA, List.drop_zero, Nat.sub_zero, List.take_replicate, Nat.min_eq_left h]
theorem lev_long (n : Nat) (h : n ≤ 255) : lev (List.replicate 255 97) (List.replicate n (97 : UInt8)) = 255 - n := by
  have h1 := lev_length (List.replicate 255 97) (List.replicate n (97 : UInt8))
  rw [List.length_replicate, List.length_replicate] at h1
  have h2 := lev_le (ed_app (List.replicate n (97 : UInt8)) _ _ _ (ed_to_nil (List.replicate (255 - n) 97)))
  rw [List.replicate_append_replicate, show n + (255 - n) = 255 by omega, List.append_nil, List.length_replicate] at h2
  omega
theorem new_long {A : ByteArray} (hz : A.size = 255) (W : World) : Calls Try.prog 10 #[.string (A ++ ⟨#[97]⟩), .int .i64 3] W fun e w' => e = .returned (.pointer none) ∧ W = w' := by
  have h := new_not (A ++ ⟨#[97]⟩) 3 W (by
    unfold mayB
    rw [ba_size_append, hz]
    decide) (by decide) (by rw [ba_size_append, hz]; decide)
  exact h
theorem bytes_none {w W : World} {p k : Nat} {q s : ByteArray} {b : Bool} {z : UInt8} (hA : AutoAt w p q k) (hb : Below w.heap.size w W) (hk : k ≤ 3) (hq : q.size ≤ 255) (hs : IsL q.data.toList k (nums s)) (h0 : z ∉ q.data.toList) (hL : tellsT q.data.toList k (nums s) z = []) (hc : decide (minT (stepL q.data.toList k (nums s) z) ≤ k) = b) :
    Calls Try.prog 24 #[.pointer (some ⟨p, 0, none⟩), .string s] W fun e w' => ∃ ad c, e = .returned (.tuple #[.slice ad 0 c, .bool b]) ∧ Below W.heap.size W w' :=
  (bytes_lit hA hb hk hq hs h0 hL hc (by decide)).mono fun e w' h => by
    obtain ⟨v, h1, h2, h3⟩ := h
    rcases h2.2 with ⟨rfl, _⟩ | ⟨g, cap, cur, rfl, _⟩
    · exact ⟨_, _, h1, h3⟩
    · exact ⟨_, _, h1, h3⟩

set_option maxHeartbeats 8000000 in
set_option maxRecDepth 100000 in
theorem levKnown_walk (w : World) : Calls Try.prog 8 #[] w fun e w' => e = .returned (.bool true) ∧ Below w.heap.size w w' := by
  have QW := Lib.hid (works_any w)
  obtain ⟨A, hl, hz, hrep⟩ := long_is
  have QRep := Lib.hid hrep
  have hcut := long_cut hl
  clear hrep
  have hcat : ¬ 9223372036854775807 < A.size + 1 := by omega
  have hzz : (252 : Int) ≤ (A.size : Int) := by omega
  have hzz2 : (251 : Int) ≤ (A.size : Int) := by omega
  have HZ := Lib.hid hz
  have HL := Lib.hid hl
  have HCut := Lib.hid hcut
  clear hz hl hcut
  have N1 : Hid (∀ W, Calls Try.prog 10 #[.string ⟨#[]⟩, .int .i64 2] W fun e w' => e = .returned (.pointer (some ⟨W.heap.size, 0, none⟩)) ∧ AutoAt w' W.heap.size ⟨#[]⟩ 2 ∧ Below W.heap.size W w' ∧ W.heap.size < w'.heap.size) := Lib.hid fun W => new_any ⟨#[]⟩ 2 W (by decide) (by decide)
  have N2 : Hid (∀ W, Calls Try.prog 10 #[.string A, .int .i64 3] W fun e w' => e = .returned (.pointer (some ⟨W.heap.size, 0, none⟩)) ∧ AutoAt w' W.heap.size A 3 ∧ Below W.heap.size W w' ∧ W.heap.size < w'.heap.size) := Lib.hid fun W => new_any A 3 W (by rw [HZ.out]; omega) (by decide)
  have N3 : Hid (∀ W, Calls Try.prog 10 #[.string (A ++ ⟨#[97]⟩), .int .i64 3] W fun e w' => e = .returned (.pointer none) ∧ W = w') := Lib.hid fun W => new_long HZ.out W
  have N4 : Hid (∀ W, Calls Try.prog 10 #[.string ⟨#[97]⟩, .int .i64 4] W fun e w' => e = .returned (.pointer none) ∧ W = w') := Lib.hid fun W => new_not ⟨#[97]⟩ 4 W (by decide) (by decide) (by decide)
  have N5 : Hid (∀ W, Calls Try.prog 10 #[.string ⟨#[97]⟩, .int .i64 (-1)] W fun e w' => e = .returned (.pointer none) ∧ W = w') := Lib.hid fun W => new_not ⟨#[97]⟩ (-1) W (by decide) (by decide) (by decide)
  go_enter Try.func8, Try.ntmps8
  go_upto_region 8 with (first
    | (go_at_call 20; (with_reducible refine QW.out.mono ?_); rintro e w1 ⟨rfl, hB⟩; have H1 := Lib.hid hB; clear hB)
    | (go_at_call 26; (with_reducible refine (QRep.out w1).mono ?_); rintro e w2 ⟨rfl, hB⟩; have H2 := Lib.hid (Below.next H1.out hB); clear hB)
    | (go_at_call 10; (with_reducible refine (N1.out w2).mono ?_); rintro e w3 ⟨rfl, hA, hB, hz⟩; have HA0 := Lib.hid hA; have H3 := Lib.hid (Below.next H2.out hB); clear hA hB hz)
    | (go_at_call 10; (with_reducible refine (N2.out w3).mono ?_); rintro e w4 ⟨rfl, hA, hB, hz⟩; have HA := Lib.hid (And.intro (HA0.out.below hB) hA); have H4 := Lib.hid (Below.next H3.out hB); clear hA hB hz)
    | (go_at_call 10; (with_reducible refine (N3.out w4).mono ?_); rintro e w' ⟨rfl, rfl⟩)
    | (go_at_call 10; (with_reducible refine (N4.out w4).mono ?_); rintro e w' ⟨rfl, rfl⟩)
    | (go_at_call 10; (with_reducible refine (N5.out w4).mono ?_); rintro e w' ⟨rfl, rfl⟩))
  obtain ⟨p1, hp1⟩ : ∃ p, p = w2.heap.size := ⟨_, rfl⟩
  obtain ⟨p2, hp2⟩ : ∃ p, p = w3.heap.size := ⟨_, rfl⟩
  rw [← hp1, ← hp2] at HA
  rw [← hp1, ← hp2]
  clear hcat hp1 hp2 HA0 H1 H2 H3 QW QRep N1 N2 N3 N4 N5
  have HX := Lib.hid (Below.refl w4.heap.size w4)
  have S1 : Hid (∀ W, Below w4.heap.size w4 W → Calls Try.prog 13 #[.pointer (some ⟨p1, 0, none⟩)] W fun e w' => e = .returned (.string ⟨#[0]⟩) ∧ Below W.heap.size W w') := Lib.hid fun W hb => start_lit HA.out.1 hb (by decide) (by decide) (by decide +kernel)
  have R1 : Hid (∀ W, Below w4.heap.size w4 W → Calls Try.prog 18 #[.pointer (some ⟨p1, 0, none⟩), .string ⟨#[0]⟩, .slice (some ⟨W.heap.size, 0, none⟩) 3 3] (W.alloc (.cells #[.string ⟨#[120]⟩, .string ⟨#[]⟩, .string ⟨#[121]⟩] 9)) fun e w' => e = .returned (.string ⟨#[2]⟩) ∧ Below W.heap.size W w') := Lib.hid fun W hb => read_lit HA.out.1 hb (by decide) (by decide) [⟨#[120]⟩, ⟨#[]⟩, ⟨#[121]⟩] (lit_is (by decide +kernel)) (by decide) (by decide) (by decide +kernel)
  have D1 : Hid (∀ W, Below w4.heap.size w4 W → Calls Try.prog 21 #[.pointer (some ⟨p1, 0, none⟩), .string ⟨#[2]⟩] W fun e w' => e = .returned (.tuple #[.int .i64 2, .bool true]) ∧ Below W.heap.size W w') := Lib.hid fun W hb => dist_lit (n := 2) HA.out.1 hb (by decide) (by decide) (by decide) (by kernel_rfl)
  have R2 : Hid (∀ W, Below w4.heap.size w4 W → Calls Try.prog 18 #[.pointer (some ⟨p1, 0, none⟩), .string ⟨#[0]⟩, .slice (some ⟨W.heap.size, 0, none⟩) 1 1] (W.alloc (.cells #[.string ⟨#[120, 121, 122]⟩] 9)) fun e w' => e = .returned (.string ⟨#[3]⟩) ∧ Below W.heap.size W w') := Lib.hid fun W hb => read_lit HA.out.1 hb (by decide) (by decide) [⟨#[120, 121, 122]⟩] (lit_is (by decide +kernel)) (by decide) (by decide) (by decide +kernel)
  have D2 : Hid (∀ W, Below w4.heap.size w4 W → Calls Try.prog 21 #[.pointer (some ⟨p1, 0, none⟩), .string ⟨#[3]⟩] W fun e w' => e = .returned (.tuple #[.int .i64 0, .bool false]) ∧ Below W.heap.size W w') := Lib.hid fun W hb => dist_lit (n := 0) HA.out.1 hb (by decide) (by decide) (by decide) (by kernel_rfl)
  have D6 : Hid (∀ W, Below w4.heap.size w4 W → Calls Try.prog 21 #[.pointer (some ⟨p1, 0, none⟩), .string ⟨#[0, 0]⟩] W fun e w' => e = .returned (.tuple #[.int .i64 0, .bool false]) ∧ Below W.heap.size W w') := Lib.hid fun W hb => dist_lit (n := 0) HA.out.1 hb (by decide) (by decide) (by decide) (by kernel_rfl)
  have D7 : Hid (∀ W, Below w4.heap.size w4 W → Calls Try.prog 21 #[.pointer (some ⟨p1, 0, none⟩), .string ⟨#[4]⟩] W fun e w' => e = .returned (.tuple #[.int .i64 0, .bool false]) ∧ Below W.heap.size W w') := Lib.hid fun W hb => dist_lit (n := 0) HA.out.1 hb (by decide) (by decide) (by decide) (by kernel_rfl)
  have hq2 : A.size ≤ 300 := by rw [HZ.out]; omega
  have HQ2 := Lib.hid hq2
  clear hq2
  have S2 : Hid (∀ W, Below w4.heap.size w4 W → Calls Try.prog 13 #[.pointer (some ⟨p2, 0, none⟩)] W fun e w' => e = .returned (.string (bin (startL A.data.toList 3))) ∧ Below W.heap.size W w') := Lib.hid fun W hb => start_st HA.out.2 hb (by decide) (by rw [HZ.out]; omega)
  have R3 : Hid (∀ W, Below w4.heap.size w4 W → Calls Try.prog 18 #[.pointer (some ⟨p2, 0, none⟩), .string (bin (startL A.data.toList 3)), .slice (some ⟨W.heap.size, 0, none⟩) 1 1] (W.alloc (.cells #[.string A] 9)) fun e w' => e = .returned (.string (bin (capL 3 (rowT A.data.toList A.data.toList)))) ∧ Below W.heap.size W w') := Lib.hid fun W hb => (read_one HA.out.2 hb (by decide) HQ2.out (startL_is _ _) (by rw [HZ.out]; omega)).mono fun e w' h => ⟨h.1.trans (by rw [readL_start]), h.2⟩
  have RS : Hid (∀ W v (u : ByteArray), Below w4.heap.size w4 W → Strs W v [u] → u.size ≤ 1000 → Calls Try.prog 18 #[.pointer (some ⟨p2, 0, none⟩), .string (bin (startL A.data.toList 3)), v] W fun e w' => e = .returned (.string (bin (capL 3 (rowT A.data.toList u.data.toList)))) ∧ Below W.heap.size W w') := Lib.hid fun W v u hb hv hu => by
    have hn := nums_of (startL_is A.data.toList 3) (by decide)
    have h := read_any (s := bin (startL A.data.toList 3)) (HA.out.2.below hb) (by decide) (by have := HQ2.out; omega) (by rw [hn]; exact startL_is _ _) hv (by simp) (by simp; omega)
    rw [hn, show allB [u] = u.data.toList by simp [allB], readL_start] at h
    exact h
  have DS : Hid (∀ W (l : List UInt8), Below w4.heap.size w4 W → Calls Try.prog 21 #[.pointer (some ⟨p2, 0, none⟩), .string (bin (capL 3 (rowT A.data.toList l)))] W fun e w' => e = .returned (withV 3 (lev A.data.toList l)) ∧ Below W.heap.size W w') := Lib.hid fun W l hb => (dist_st HA.out.2 hb (by decide) HQ2.out (row_is _ _ _)).mono fun e w' h => ⟨h.1.trans (by rw [whole_row, cap_with]), h.2⟩
  have D3 : Hid (∀ W, Below w4.heap.size w4 W → Calls Try.prog 21 #[.pointer (some ⟨p2, 0, none⟩), .string (bin (capL 3 (rowT A.data.toList A.data.toList)))] W fun e w' => e = .returned (.tuple #[.int .i64 0, .bool true]) ∧ Below W.heap.size W w') := Lib.hid fun W hb => (DS.out W _ hb).mono fun e w' h => ⟨h.1.trans (by rw [lev_self]; rfl), h.2⟩
  have D4 : Hid (∀ W, Below w4.heap.size w4 W → Calls Try.prog 21 #[.pointer (some ⟨p2, 0, none⟩), .string (bin (capL 3 (rowT A.data.toList (A.extract 0 252).data.toList)))] W fun e w' => e = .returned (.tuple #[.int .i64 3, .bool true]) ∧ Below W.heap.size W w') := Lib.hid fun W hb => (DS.out W _ hb).mono fun e w' h => ⟨h.1.trans (by rw [HCut.out 252 (by omega), HL.out, lev_long 252 (by omega)]; rfl), h.2⟩
  have D5 : Hid (∀ W, Below w4.heap.size w4 W → Calls Try.prog 21 #[.pointer (some ⟨p2, 0, none⟩), .string (bin (capL 3 (rowT A.data.toList (A.extract 0 251).data.toList)))] W fun e w' => e = .returned (.tuple #[.int .i64 0, .bool false]) ∧ Below W.heap.size W w') := Lib.hid fun W hb => (DS.out W _ hb).mono fun e w' h => ⟨h.1.trans (by rw [HCut.out 251 (by omega), HL.out, lev_long 251 (by omega)]; rfl), h.2⟩
  have Cz : Hid ((A.extract 0 252).size ≤ 1000 ∧ (A.extract 0 251).size ≤ 1000) := Lib.hid ⟨by rw [← ba_length, HCut.out 252 (by omega), List.length_replicate]; omega, by rw [← ba_length, HCut.out 251 (by omega), List.length_replicate]; omega⟩
  obtain ⟨SB, hSB⟩ : ∃ S, bin (startL A.data.toList 3) = S := ⟨_, rfl⟩
  rw [hSB] at S2 R3 RS
  clear hSB
  obtain ⟨X3, hX3⟩ : ∃ S, bin (capL 3 (rowT A.data.toList A.data.toList)) = S := ⟨_, rfl⟩
  rw [hX3] at R3 D3
  clear hX3 DS
  go_upto_region 11 with (first
    | (go_at_call 13; (with_reducible refine (S1.out _ HX.out).mono ?_); rintro e w' ⟨rfl, hB⟩; replace HX := Lib.hid (Below.next HX.out hB); clear hB)
    | (go_at_call 13; (with_reducible refine (S2.out _ HX.out).mono ?_); rintro e w' ⟨rfl, hB⟩; replace HX := Lib.hid (Below.next HX.out hB); clear hB)
    | (go_at_call 18; (with_reducible refine (R1.out _ HX.out).mono ?_); rintro e w' ⟨rfl, hB⟩; replace HX := Lib.hid (Below.next HX.out hB); clear hB)
    | (go_at_call 18; (with_reducible refine (R2.out _ HX.out).mono ?_); rintro e w' ⟨rfl, hB⟩; replace HX := Lib.hid (Below.next HX.out hB); clear hB)
    | (go_at_call 18; (with_reducible refine (R3.out _ HX.out).mono ?_); rintro e w' ⟨rfl, hB⟩; replace HX := Lib.hid (Below.next HX.out hB); clear hB)
    | (go_at_call 21; (with_reducible refine (D1.out _ HX.out).mono ?_); rintro e w' ⟨rfl, hB⟩; replace HX := Lib.hid (Below.next HX.out hB); clear hB)
    | (go_at_call 21; (with_reducible refine (D2.out _ HX.out).mono ?_); rintro e w' ⟨rfl, hB⟩; replace HX := Lib.hid (Below.next HX.out hB); clear hB)
    | (go_at_call 21; (with_reducible refine (D3.out _ HX.out).mono ?_); rintro e w' ⟨rfl, hB⟩; replace HX := Lib.hid (Below.next HX.out hB); clear hB))
  obtain ⟨wr11, hwr⟩ : ∃ w, Below w4.heap.size w4 w := ⟨_, HX.out⟩
  clear hwr
  obtain ⟨X4, hX4⟩ : ∃ S, bin (capL 3 (rowT A.data.toList (A.extract 0 252).data.toList)) = S := ⟨_, rfl⟩
  rw [hX4] at D4
  have R252 : Hid (∀ W v, Below w4.heap.size w4 W → Strs W v [A.extract 0 252] → Calls Try.prog 18 #[.pointer (some ⟨p2, 0, none⟩), .string SB, v] W fun e w' => e = .returned (.string X4) ∧ Below W.heap.size W w') := Lib.hid fun W v hb hv => by rw [← hX4]; exact RS.out W v _ hb hv Cz.out.1
  clear hX4
  refine Said.region (by kernel_rfl) (by kernel_rfl) (by kernel_rfl) [.is (.pointer (some ⟨p2, 0, none⟩)), .is (.pointer (some ⟨p2, 0, none⟩)), .is (.pointer (some ⟨p2, 0, none⟩)), .is (.string SB), .is (.string A), .is (.string (A.extract 0 252)), .has (fun v W => Strs W v [A.extract 0 252]), .is (.string X4), .is (.tuple #[.int .i64 3, .bool true]), .is (.tuple #[.int .i64 3, .bool true]), .is (.int .i64 3), .is (.bool true), .is (.int .i64 3), .is (.bool true)] ?_
  simp only [List.toList_toArray]
  iterate 3 (
    refine sq_pure (by rfl) (fun W hb _ => ?_) ?_
    · go_simp
      all_goals first | done | omega
    simp only [Act.put, List.setIfInBounds_toArray, List.set_cons_zero, List.set_cons_succ])
  refine sq_call (f := 13) (args := #[.pointer (some ⟨p2, 0, none⟩)]) (by rfl) (fun W => by go_simp) (fun W hb _ => S2.out W (Below.next HX.out hb)) ?_
  simp only [Act.put, List.setIfInBounds_toArray, List.set_cons_zero, List.set_cons_succ]
  iterate 2 (
    refine sq_pure (by rfl) (fun W hb _ => ?_) ?_
    · go_simp
      all_goals first | done | omega
    simp only [Act.put, List.setIfInBounds_toArray, List.set_cons_zero, List.set_cons_succ])
  refine sq_has (fun _ _ _ hb h => h.below hb) (fun W hb _ => step_value (v := .slice (some ⟨W.heap.size, 0, none⟩) 1 1) (W' := W.alloc (.cells #[.string (A.extract 0 252)] 9)) (by rfl) (by go_simp) (below_alloc W _) (strs_litL [A.extract 0 252] W)) (fun v => ?_)
  simp only [Act.put, List.setIfInBounds_toArray, List.set_cons_zero, List.set_cons_succ]
  refine sq_call (f := 18) (args := #[.pointer (some ⟨p2, 0, none⟩), .string SB, v]) (by rfl) (fun W => by go_simp) (fun W hb hf => R252.out W v (Below.next HX.out hb) (hf.1 (by kernel_rfl))) ?_
  simp only [Act.put, List.setIfInBounds_toArray, List.set_cons_zero, List.set_cons_succ]
  refine sq_call (f := 21) (args := #[.pointer (some ⟨p2, 0, none⟩), .string X4]) (by rfl) (fun W => by go_simp) (fun W hb _ => D4.out W (Below.next HX.out hb)) ?_
  simp only [Act.put, List.setIfInBounds_toArray, List.set_cons_zero, List.set_cons_succ]
  iterate 5 (
    refine sq_pure (by rfl) (fun W hb _ => ?_) ?_
    · go_simp
      all_goals first | done | omega
    simp only [Act.put, List.setIfInBounds_toArray, List.set_cons_zero, List.set_cons_succ])
  refine sq_end (fun w11 hb11 hK11 => ?_)
  replace HX := Lib.hid (Below.next HX.out hb11)
  clear hK11 hb11
  go_upto_region 12 with fail
  obtain ⟨wr12, hwr⟩ : ∃ w, Below w4.heap.size w4 w := ⟨_, HX.out⟩
  clear hwr
  obtain ⟨X5, hX5⟩ : ∃ S, bin (capL 3 (rowT A.data.toList (A.extract 0 251).data.toList)) = S := ⟨_, rfl⟩
  rw [hX5] at D5
  have R251 : Hid (∀ W v, Below w4.heap.size w4 W → Strs W v [A.extract 0 251] → Calls Try.prog 18 #[.pointer (some ⟨p2, 0, none⟩), .string SB, v] W fun e w' => e = .returned (.string X5) ∧ Below W.heap.size W w') := Lib.hid fun W v hb hv => by rw [← hX5]; exact RS.out W v _ hb hv Cz.out.2
  clear hX5
  refine Said.region (by kernel_rfl) (by kernel_rfl) (by kernel_rfl) [.is (.pointer (some ⟨p2, 0, none⟩)), .is (.pointer (some ⟨p2, 0, none⟩)), .is (.pointer (some ⟨p2, 0, none⟩)), .is (.string SB), .is (.string A), .is (.string (A.extract 0 251)), .has (fun v W => Strs W v [A.extract 0 251]), .is (.string X5), .is (.tuple #[.int .i64 0, .bool false]), .is (.tuple #[.int .i64 0, .bool false]), .is (.int .i64 0), .is (.bool false), .is (.int .i64 0), .is (.bool false)] ?_
  simp only [List.toList_toArray]
  iterate 3 (
    refine sq_pure (by rfl) (fun W hb _ => ?_) ?_
    · go_simp
      all_goals first | done | omega
    simp only [Act.put, List.setIfInBounds_toArray, List.set_cons_zero, List.set_cons_succ])
  refine sq_call (f := 13) (args := #[.pointer (some ⟨p2, 0, none⟩)]) (by rfl) (fun W => by go_simp) (fun W hb _ => S2.out W (Below.next HX.out hb)) ?_
  simp only [Act.put, List.setIfInBounds_toArray, List.set_cons_zero, List.set_cons_succ]
  iterate 2 (
    refine sq_pure (by rfl) (fun W hb _ => ?_) ?_
    · go_simp
      all_goals first | done | omega
    simp only [Act.put, List.setIfInBounds_toArray, List.set_cons_zero, List.set_cons_succ])
  refine sq_has (fun _ _ _ hb h => h.below hb) (fun W hb _ => step_value (v := .slice (some ⟨W.heap.size, 0, none⟩) 1 1) (W' := W.alloc (.cells #[.string (A.extract 0 251)] 9)) (by rfl) (by go_simp) (below_alloc W _) (strs_litL [A.extract 0 251] W)) (fun v => ?_)
  simp only [Act.put, List.setIfInBounds_toArray, List.set_cons_zero, List.set_cons_succ]
  refine sq_call (f := 18) (args := #[.pointer (some ⟨p2, 0, none⟩), .string SB, v]) (by rfl) (fun W => by go_simp) (fun W hb hf => R251.out W v (Below.next HX.out hb) (hf.1 (by kernel_rfl))) ?_
  simp only [Act.put, List.setIfInBounds_toArray, List.set_cons_zero, List.set_cons_succ]
  refine sq_call (f := 21) (args := #[.pointer (some ⟨p2, 0, none⟩), .string X5]) (by rfl) (fun W => by go_simp) (fun W hb _ => D5.out W (Below.next HX.out hb)) ?_
  simp only [Act.put, List.setIfInBounds_toArray, List.set_cons_zero, List.set_cons_succ]
  iterate 5 (
    refine sq_pure (by rfl) (fun W hb _ => ?_) ?_
    · go_simp
      all_goals first | done | omega
    simp only [Act.put, List.setIfInBounds_toArray, List.set_cons_zero, List.set_cons_succ])
  refine sq_end (fun w12 hb12 hK12 => ?_)
  replace HX := Lib.hid (Below.next HX.out hb12)
  clear hK12 hb12
  have NE : Hid (∀ W, Calls Try.prog 10 #[.string ⟨#[113]⟩, .int .i64 0] W fun e w' => e = .returned (.pointer (some ⟨W.heap.size, 0, none⟩)) ∧ AutoAt w' W.heap.size ⟨#[113]⟩ 0 ∧ Below W.heap.size W w' ∧ W.heap.size < w'.heap.size) := Lib.hid fun W => new_any ⟨#[113]⟩ 0 W (by decide) (by decide)
  go_upto_region 14 with (go_at_call 10; (with_reducible refine (NE.out w12).mono ?_); rintro e w13 ⟨rfl, hA, hB, hz⟩; have HE := Lib.hid hA; replace HX := Lib.hid (Below.next HX.out hB); clear hA hB hz)
  obtain ⟨p3, hp3⟩ : ∃ p, p = w12.heap.size := ⟨_, rfl⟩
  rw [← hp3] at HE
  rw [← hp3]
  clear hp3 NE
  have HY := Lib.hid (Below.refl w13.heap.size w13)
  have SE : Hid (∀ W, Below w13.heap.size w13 W → Calls Try.prog 13 #[.pointer (some ⟨p3, 0, none⟩)] W fun e w' => e = .returned (.string ⟨#[0, 1]⟩) ∧ Below W.heap.size W w') := Lib.hid fun W hb => start_lit HE.out hb (by decide) (by decide) (by decide +kernel)
  have RE : Hid (∀ W, Below w13.heap.size w13 W → Calls Try.prog 18 #[.pointer (some ⟨p3, 0, none⟩), .string ⟨#[0, 1]⟩, .slice (some ⟨W.heap.size, 0, none⟩) 1 1] (W.alloc (.cells #[.string ⟨#[114]⟩] 9)) fun e w' => e = .returned (.string ⟨#[1, 1]⟩) ∧ Below W.heap.size W w') := Lib.hid fun W hb => read_lit HE.out hb (by decide) (by decide) [⟨#[114]⟩] (lit_is (by decide +kernel)) (by decide) (by decide) (by decide +kernel)
  have DE : Hid (∀ W, Below w13.heap.size w13 W → Calls Try.prog 21 #[.pointer (some ⟨p3, 0, none⟩), .string ⟨#[1, 1]⟩] W fun e w' => e = .returned (.tuple #[.int .i64 0, .bool false]) ∧ Below W.heap.size W w') := Lib.hid fun W hb => dist_lit (n := 0) HE.out hb (by decide) (by decide) (by decide) (by kernel_rfl)
  go_upto_region 15 with (first
    | (go_at_call 13; (with_reducible refine (SE.out _ HY.out).mono ?_); rintro e w' ⟨rfl, hB⟩; replace HY := Lib.hid (Below.next HY.out hB); clear hB)
    | (go_at_call 18; (with_reducible refine (RE.out _ HY.out).mono ?_); rintro e w' ⟨rfl, hB⟩; replace HY := Lib.hid (Below.next HY.out hB); clear hB)
    | (go_at_call 21; (with_reducible refine (DE.out _ HY.out).mono ?_); rintro e w' ⟨rfl, hB⟩; replace HY := Lib.hid (Below.next HY.out hB); clear hB))
  replace HX := Lib.hid (Below.next HX.out HY.out)
  clear HY SE RE DE HE
  have QB : Hid (∀ W, Below w4.heap.size w4 W → Calls Try.prog 24 #[.pointer (some ⟨p1, 0, none⟩), .string ⟨#[0]⟩] W fun e w' => ∃ ad c, e = .returned (.tuple #[.slice ad 0 c, .bool true]) ∧ Below W.heap.size W w') := Lib.hid fun W hb => bytes_none (z := 0) HA.out.1 hb (by decide) (by decide) (lit_is (by decide +kernel)) (by decide) (by decide +kernel) (by decide +kernel)
  have T1 : Hid (∀ W, Below w4.heap.size w4 W → Calls Try.prog 16 #[.pointer (some ⟨p1, 0, none⟩), .string ⟨#[4]⟩, .int .u8 120] W fun e w' => e = .returned (.string ⟨#[]⟩) ∧ Below W.heap.size W w') := Lib.hid fun W hb => step_lit 120 HA.out.1 hb (by decide) (by decide) (by decide) (by decide +kernel)
  have T2 : Hid (∀ W, Below w4.heap.size w4 W → Calls Try.prog 16 #[.pointer (some ⟨p1, 0, none⟩), .string ⟨#[]⟩, .int .u8 120] W fun e w' => e = .returned (.string ⟨#[]⟩) ∧ Below W.heap.size W w') := Lib.hid fun W hb => step_lit 120 HA.out.1 hb (by decide) (by decide) (by decide) (by decide +kernel)
  have C1 : Hid (∀ W, Below w4.heap.size w4 W → Calls Try.prog 23 #[.pointer (some ⟨p1, 0, none⟩), .string ⟨#[4]⟩] W fun e w' => e = .returned (.bool false) ∧ Below W.heap.size W w') := Lib.hid fun W hb => can_lit HA.out.1 hb (by decide) (by decide) (by decide) (by decide +kernel)
  have C2 : Hid (∀ W, Below w4.heap.size w4 W → Calls Try.prog 23 #[.pointer (some ⟨p1, 0, none⟩), .string ⟨#[]⟩] W fun e w' => e = .returned (.bool false) ∧ Below W.heap.size W w') := Lib.hid fun W hb => can_lit HA.out.1 hb (by decide) (by decide) (by decide) (by decide +kernel)
  have O1 : Hid (∀ W, Below w4.heap.size w4 W → Calls Try.prog 21 #[.pointer none, .string ⟨#[]⟩] W fun e w' => e = .returned (.tuple #[.int .i64 0, .bool false]) ∧ Below W.heap.size W w') := Lib.hid fun W hb => nil_dist ⟨#[]⟩ W
  have O2 : Hid (∀ W, Below w4.heap.size w4 W → Calls Try.prog 24 #[.pointer none, .string ⟨#[]⟩] W fun e w' => e = .returned (.tuple #[.slice none 0 0, .bool false]) ∧ Below W.heap.size W w') := Lib.hid fun W hb => nil_bytes ⟨#[]⟩ W
  have O3 : Hid (∀ W, Below w4.heap.size w4 W → Calls Try.prog 13 #[.pointer none] W fun e w' => e = .returned (.string ⟨#[]⟩) ∧ Below W.heap.size W w') := Lib.hid fun W hb => nil_start W
  have O4 : Hid (∀ W, Below w4.heap.size w4 W → Calls Try.prog 16 #[.pointer none, .string ⟨#[]⟩, .int .u8 97] W fun e w' => e = .returned (.string ⟨#[]⟩) ∧ Below W.heap.size W w') := Lib.hid fun W hb => nil_step ⟨#[]⟩ 97 W
  have O5 : Hid (∀ W, Below w4.heap.size w4 W → Calls Try.prog 18 #[.pointer none, .string ⟨#[]⟩, .slice (some ⟨W.heap.size, 0, none⟩) 1 1] (W.alloc (.cells #[.string ⟨#[97]⟩] 9)) fun e w' => e = .returned (.string ⟨#[]⟩) ∧ Below W.heap.size W w') := Lib.hid fun W hb => (nil_read ⟨#[]⟩ _ _).mono fun e w' h => ⟨h.1, Below.next (below_alloc W _) h.2⟩
  have O6 : Hid (∀ W, Below w4.heap.size w4 W → Calls Try.prog 23 #[.pointer none, .string ⟨#[]⟩] W fun e w' => e = .returned (.bool false) ∧ Below W.heap.size W w') := Lib.hid fun W hb => nil_can ⟨#[]⟩ W
  go_wp2_with (first
    | (go_at_call 13; (with_reducible refine (S1.out _ HX.out).mono ?_); rintro e w' ⟨rfl, hB⟩; replace HX := Lib.hid (Below.next HX.out hB); clear hB)
    | (go_at_call 21; (with_reducible refine (D6.out _ HX.out).mono ?_); rintro e w' ⟨rfl, hB⟩; replace HX := Lib.hid (Below.next HX.out hB); clear hB)
    | (go_at_call 21; (with_reducible refine (D7.out _ HX.out).mono ?_); rintro e w' ⟨rfl, hB⟩; replace HX := Lib.hid (Below.next HX.out hB); clear hB)
    | (go_at_call 21; (with_reducible refine (O1.out _ HX.out).mono ?_); rintro e w' ⟨rfl, hB⟩; replace HX := Lib.hid (Below.next HX.out hB); clear hB)
    | (go_at_call 24; (with_reducible refine (O2.out _ HX.out).mono ?_); rintro e w' ⟨rfl, hB⟩; replace HX := Lib.hid (Below.next HX.out hB); clear hB)
    | (go_at_call 16; (with_reducible refine (T1.out _ HX.out).mono ?_); rintro e w' ⟨rfl, hB⟩; replace HX := Lib.hid (Below.next HX.out hB); clear hB)
    | (go_at_call 16; (with_reducible refine (T2.out _ HX.out).mono ?_); rintro e w' ⟨rfl, hB⟩; replace HX := Lib.hid (Below.next HX.out hB); clear hB)
    | (go_at_call 16; (with_reducible refine (O4.out _ HX.out).mono ?_); rintro e w' ⟨rfl, hB⟩; replace HX := Lib.hid (Below.next HX.out hB); clear hB)
    | (go_at_call 23; (with_reducible refine (C1.out _ HX.out).mono ?_); rintro e w' ⟨rfl, hB⟩; replace HX := Lib.hid (Below.next HX.out hB); clear hB)
    | (go_at_call 23; (with_reducible refine (C2.out _ HX.out).mono ?_); rintro e w' ⟨rfl, hB⟩; replace HX := Lib.hid (Below.next HX.out hB); clear hB)
    | (go_at_call 23; (with_reducible refine (O6.out _ HX.out).mono ?_); rintro e w' ⟨rfl, hB⟩; replace HX := Lib.hid (Below.next HX.out hB); clear hB)
    | (go_at_call 13; (with_reducible refine (O3.out _ HX.out).mono ?_); rintro e w' ⟨rfl, hB⟩; replace HX := Lib.hid (Below.next HX.out hB); clear hB)
    | (go_at_call 18; (with_reducible refine (O5.out _ HX.out).mono ?_); rintro e w' ⟨rfl, hB⟩; replace HX := Lib.hid (Below.next HX.out hB); clear hB)
    | (go_at_call 24; (with_reducible refine (QB.out _ HX.out).mono ?_); rintro e w' ⟨ad, cb, rfl, hB⟩; replace HX := Lib.hid (Below.next HX.out hB); clear hB))
  go_ret
  exact ⟨rfl, Below.next H4.out HX.out⟩
end Go.Proofs.Ythgdanbkngnckaa

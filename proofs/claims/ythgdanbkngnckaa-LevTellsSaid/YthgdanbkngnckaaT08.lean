/-
  lev's step: its closure, the number at a place. dist.Next's closure: the number at a place.
-/
import Derived.Test.YthgdanbkngnckaaT07
import Derived.Deep.DeepCutAuto
import Derived.BigQuiet
import Derived.Test.YthgdanbkngnckaaT05
import Derived.Test.YthgdanbkngnckaaT06
set_option linter.unusedVariables false
set_option linter.unusedSimpArgs false
namespace Go.Proofs.Ythgdanbkngnckaa
open Go.RowKit Go.Shelf Said

theorem wrap8 {x : Nat} (h : x ≤ 254) : IntKind.u8.wrap ((x : Int) + 1) = ((x + 1 : Nat) : Int) := by
  rw [IntWalk.u8_in _ (by omega)]; omega

set_option maxHeartbeats 2000000 in
set_option maxRecDepth 100000 in
theorem lnum_any {w : World} {bs ba bb bn p k i : Nat} {nv : Value} {r t : List Nat} {q s : ByteArray} {c : UInt8} (x1 : Boxed w bs 32 (.string s)) (x2 : Boxed w ba 26 (.pointer (some ⟨p, 0, none⟩))) (hA : AutoAt w p q k) (hk : k ≤ 3) (x3 : Boxed w bb 5 (.int .u8 (c.toNat : Int))) (x4 : Boxed w bn 38 nv) (h4 : Byts w nv t)
    (hi : i < q.size) (hs : nums s = r) (hr : r.length = q.size + 1) (ht : t.length = q.size + 1) (hq : q.size ≤ 1000000) (b1 : r.getD i 0 ≤ 4) (b2 : r.getD (i + 1) 0 ≤ 4) (b3 : t.getD i 0 ≤ 4) :
    Calls Try.prog 54 #[.int .i64 ((i : Int) + 1), .pointer (some ⟨bs, 0, none⟩), .pointer (some ⟨ba, 0, none⟩), .pointer (some ⟨bb, 0, none⟩), .pointer (some ⟨bn, 0, none⟩)] w fun e w' =>
      e = .returned (.int .u8 ((cap k (min (min (r.getD i 0 + ch (q.data.toList.getD i 0) c) (r.getD (i + 1) 0 + 1)) (t.getD i 0 + 1)) : Nat) : Int)) ∧ Below w.heap.size w w' := by
  obtain ⟨b', o', cp', rfl, hc4⟩ := h4.some (by omega)
  have hsz : s.size = q.size + 1 := by rw [← nums_length, hs, hr]
  have cc := hc4 i (by omega)
  have ea : (s[i]'(by omega)).toNat = r.getD i 0 := by rw [← nums_at s (by omega), hs]
  have eb : (s[i + 1]'(by omega)).toNat = r.getD (i + 1) 0 := by rw [← nums_at s (by omega), hs]
  rw [byte_getD q i hi]
  obtain ⟨A, hA'⟩ : ∃ A, r.getD i 0 = A := ⟨_, rfl⟩
  obtain ⟨B, hB⟩ : ∃ B, r.getD (i + 1) 0 = B := ⟨_, rfl⟩
  obtain ⟨C, hC⟩ : ∃ C, t.getD i 0 = C := ⟨_, rfl⟩
  rw [hA'] at ea b1 ⊢
  rw [hB] at eb b2 ⊢
  rw [hC] at cc b3 ⊢
  rw [ht] at *
  obtain ⟨x, hx⟩ : ∃ x, q[i] = x := ⟨_, rfl⟩
  rw [hx]
  have QC : Hid (∀ W (y : Nat), Below w.heap.size w W → Calls Try.prog 27 #[.pointer (some ⟨p, 0, none⟩), .int .u8 (y : Int)] W fun e w' => e = .returned (.int .u8 ((cap k y : Nat) : Int)) ∧ Below W.heap.size W w') := Lib.hid fun W y hb => (capped_any (hA.below hb) hk).mono fun e w' h => ⟨h.1, h.2 ▸ Below.refl _ _⟩
  have HX : Hid (∀ W, Below w.heap.size w W → (W.cell? ⟨bs, 0, none⟩ = some (.string s) ∧ W.cell? ⟨ba, 0, none⟩ = some (.pointer (some ⟨p, 0, none⟩)) ∧ W.cell? ⟨bb, 0, none⟩ = some (.int .u8 (c.toNat : Int)) ∧ W.cell? ⟨bn, 0, none⟩ = some (.slice (some ⟨b', o', none⟩) (q.size + 1) cp')) ∧ W.cell? ⟨p, 0, none⟩ = some (.string q) ∧ W.cell? ⟨b', o' + i, none⟩ = some (.int .u8 (C : Int))) := Lib.hid fun W hb => by
    refine ⟨⟨(boxed_below x1 hb).cell, (boxed_below x2 hb).cell, (boxed_below x3 hb).cell, (boxed_below x4 hb).cell⟩, (hA.below hb).1, ?_⟩
    rw [hb.cell (p := ⟨b', o' + i, none⟩) (block_lt_of_cell cc)]; exact cc
  have HS : Hid (hsz = hsz) := Lib.hid rfl
  have HE := Lib.hid (And.intro ea eb)
  have HXq := Lib.hid hx
  have w0 : IntKind.i64.wrap (i : Int) = (i : Int) := IntWalk.i64_in _ (by omega)
  obtain ⟨⟨y1, y2, y3, y4⟩, y5, y6⟩ := HX.out w (Below.refl _ _)
  have hqi : (i : Int) < (q.size : Int) := by omega
  have hsi : (i : Int) < (s.size : Int) := by omega
  have hsi1 : (i : Int) + 1 < (s.size : Int) := by omega
  have wA : IntKind.u8.wrap ((A : Int) + 1) = ((A + 1 : Nat) : Int) := wrap8 (by omega)
  have wB : IntKind.u8.wrap ((B : Int) + 1) = ((B + 1 : Nat) : Int) := wrap8 (by omega)
  have wC : IntKind.u8.wrap ((C : Int) + 1) = ((C + 1 : Nat) : Int) := wrap8 (by omega)
  have hce := ch_le x c
  have hch : ch x c = 0 ∧ ((x.toNat : Int) == (c.toNat : Int)) = true ∧ (x.toNat == c.toNat) = true ∨ ch x c = 1 ∧ ((x.toNat : Int) == (c.toNat : Int)) = false ∧ (x.toNat == c.toNat) = false := by
    unfold ch
    by_cases e : x = c
    · left; subst e; simp
    · right
      have hn : x.toNat ≠ c.toNat := fun e' => e (UInt8.toNat_inj.1 e')
      rw [if_neg e]
      refine ⟨rfl, by simp; omega, by simp; omega⟩
  clear h4 hc4 cc x1 x2 x3 x4 hA' hB hC hr ht hs HS hce hA
  obtain ⟨d, hd⟩ : ∃ d, ch x c = d := ⟨_, rfl⟩
  rw [hd] at hch ⊢
  clear hd
  have hd1 : d ≤ 1 := by omega
  obtain ⟨m, hm⟩ : ∃ m, m = min (min (A + d) (B + 1)) (C + 1) := ⟨_, rfl⟩
  rw [← hm]
  have HM := Lib.hid hm
  clear hm
  rcases hch with ⟨rfl, f1, f2⟩ | ⟨rfl, f1, f2⟩
  · have f3 : ((x.toNat : Int) != (c.toNat : Int)) = false := by simp only [bne, f1]; rfl
    have f4 : (x.toNat != c.toNat) = false := by simp only [bne, f2]; rfl
    go_enter Try.func54, Try.ntmps54
    go_upto_region 2 with fail
    go_quiet (fail)
    go_upto_region 4 with fail
    obtain ⟨w1, hw1⟩ : ∃ w1, w1 = w.drewN nq := ⟨_, rfl⟩
    have HB : Hid (Below w.heap.size w w1) := Lib.hid (by rw [hw1]; exact below_drewN (Below.refl _ w) nq)
    rw [← hw1]
    clear hw1 y1 y2 y3 y4 y5 y6
    refine Said.region (by kernel_rfl) (by kernel_rfl) (by kernel_rfl) [.is (.pointer (some ⟨p, 0, none⟩)), .is (.int .u8 ((A + 0 : Nat) : Int)), .is (.string s), .is (.int .i64 ((i : Int) + 1)), .is (.int .u8 (B : Int)), .is (.int .u8 ((B + 1 : Nat) : Int)),
      .is (.slice (some ⟨b', o', none⟩) (q.size + 1) cp'), .is (.int .i64 ((i : Int) + 1)), .is (.int .i64 (i : Int)), .is (.pointer (some ⟨b', o' + i, none⟩)), .is (.int .u8 (C : Int)), .is (.int .u8 ((C + 1 : Nat) : Int)), .is (.int .u8 (m : Int)), .is (.int .u8 ((cap k m : Nat) : Int)), .is (.int .u8 ((cap k m : Nat) : Int))] ?_
    simp only [List.toList_toArray]
    iterate 12 (
      refine sq_pure (by rfl) (fun W hb _ => ?_) ?_
      · obtain ⟨⟨y1, y2, y3, y4⟩, y5, y6⟩ := HX.out W (Below.next HB.out hb)
        go_simp
        all_goals first | done | omega
      simp only [Act.put, List.setIfInBounds_toArray, List.set_cons_zero, List.set_cons_succ])
    refine sq_pure (by rfl) (fun W hb _ => ?_) ?_
    · have hm := HM.out
      go_simp
      all_goals ((repeat' split) <;> omega)
    simp only [Act.put, List.setIfInBounds_toArray, List.set_cons_zero, List.set_cons_succ]
    refine sq_call (f := 27) (args := #[.pointer (some ⟨p, 0, none⟩), .int .u8 (m : Int)]) (by rfl) (fun W => by go_simp) (fun W hb _ => QC.out W m (Below.next HB.out hb)) ?_
    simp only [Act.put, List.setIfInBounds_toArray, List.set_cons_zero, List.set_cons_succ]
    refine sq_pure (by rfl) (fun W hb _ => by go_simp) ?_
    simp only [Act.put, List.setIfInBounds_toArray, List.set_cons_zero, List.set_cons_succ]
    refine sq_end (fun W9 hb9 hK9 => ?_)
    have H9 := Lib.hid (Below.next HB.out hb9)
    clear hK9 hb9
    go_wp2
    go_ret
    exact ⟨rfl, H9.out⟩
  · have f3 : ((x.toNat : Int) != (c.toNat : Int)) = true := by simp only [bne, f1]; rfl
    have f4 : (x.toNat != c.toNat) = true := by simp only [bne, f2]; rfl
    go_enter Try.func54, Try.ntmps54
    go_upto_region 2 with fail
    go_quiet (fail)
    go_upto_region 4 with fail
    obtain ⟨w1, hw1⟩ : ∃ w1, w1 = w.drewN nq := ⟨_, rfl⟩
    have HB : Hid (Below w.heap.size w w1) := Lib.hid (by rw [hw1]; exact below_drewN (Below.refl _ w) nq)
    rw [← hw1]
    clear hw1 y1 y2 y3 y4 y5 y6
    refine Said.region (by kernel_rfl) (by kernel_rfl) (by kernel_rfl) [.is (.pointer (some ⟨p, 0, none⟩)), .is (.int .u8 ((A + 1 : Nat) : Int)), .is (.string s), .is (.int .i64 ((i : Int) + 1)), .is (.int .u8 (B : Int)), .is (.int .u8 ((B + 1 : Nat) : Int)),
      .is (.slice (some ⟨b', o', none⟩) (q.size + 1) cp'), .is (.int .i64 ((i : Int) + 1)), .is (.int .i64 (i : Int)), .is (.pointer (some ⟨b', o' + i, none⟩)), .is (.int .u8 (C : Int)), .is (.int .u8 ((C + 1 : Nat) : Int)), .is (.int .u8 (m : Int)), .is (.int .u8 ((cap k m : Nat) : Int)), .is (.int .u8 ((cap k m : Nat) : Int))] ?_
    simp only [List.toList_toArray]
    iterate 12 (
      refine sq_pure (by rfl) (fun W hb _ => ?_) ?_
      · obtain ⟨⟨y1, y2, y3, y4⟩, y5, y6⟩ := HX.out W (Below.next HB.out hb)
        go_simp
        all_goals first | done | omega
      simp only [Act.put, List.setIfInBounds_toArray, List.set_cons_zero, List.set_cons_succ])
    refine sq_pure (by rfl) (fun W hb _ => ?_) ?_
    · have hm := HM.out
      go_simp
      all_goals ((repeat' split) <;> omega)
    simp only [Act.put, List.setIfInBounds_toArray, List.set_cons_zero, List.set_cons_succ]
    refine sq_call (f := 27) (args := #[.pointer (some ⟨p, 0, none⟩), .int .u8 (m : Int)]) (by rfl) (fun W => by go_simp) (fun W hb _ => QC.out W m (Below.next HB.out hb)) ?_
    simp only [Act.put, List.setIfInBounds_toArray, List.set_cons_zero, List.set_cons_succ]
    refine sq_pure (by rfl) (fun W hb _ => by go_simp) ?_
    simp only [Act.put, List.setIfInBounds_toArray, List.set_cons_zero, List.set_cons_succ]
    refine sq_end (fun W9 hb9 hK9 => ?_)
    have H9 := Lib.hid (Below.next HB.out hb9)
    clear hK9 hb9
    go_wp2
    go_ret
    exact ⟨rfl, H9.out⟩
end Go.Proofs.Ythgdanbkngnckaa
namespace Go.Proofs.Ythgdanbkngnckaa
open Go.RowKit Go.Shelf Said

theorem ints_mono (l : List Nat) : Mono (fun v W => Ints W v l) := fun _ _ _ hb h => h.below hb
theorem ints_three (W : World) (a b c : Nat) : Ints (W.alloc (.cells #[.int .i64 (a : Int), .int .i64 (b : Int), .int .i64 (c : Int)] 3)) (.slice (some ⟨W.heap.size, 0, none⟩) 3 3) [a, b, c] := by
  refine ⟨_, 3, rfl, fun i hi => ⟨W.heap.size, 0, rfl, ?_⟩⟩
  simp only [List.length_cons, List.length_nil] at hi
  rcases (show i = 0 ∨ i = 1 ∨ i = 2 by omega) with rfl | rfl | rfl <;> simp [go_sem]

set_option maxHeartbeats 1000000 in
set_option maxRecDepth 100000 in
theorem number_any {w : World} {br bq bc bn : Nat} {rv nv : Value} {r t : List Nat} {q : ByteArray} {c : UInt8} {k : Nat} (x1 : Boxed w br 57 rv) (h1 : Ints w rv r) (x2 : Boxed w bq 9 (.string q)) (x3 : Boxed w bc 5 (.int .u8 (c.toNat : Int))) (x4 : Boxed w bn 57 nv) (h4 : Ints w nv t)
    (hk : k < q.size) (hr : r.length = q.size + 1) (ht : t.length = q.size + 1) (hq : q.size ≤ 1000000) (b1 : r.getD k 0 ≤ 1000000000) (b2 : r.getD (k + 1) 0 ≤ 1000000000) (b3 : t.getD k 0 ≤ 1000000000) :
    Calls Try.prog 72 #[.int .i64 ((k : Int) + 1), .pointer (some ⟨br, 0, none⟩), .pointer (some ⟨bq, 0, none⟩), .pointer (some ⟨bc, 0, none⟩), .pointer (some ⟨bn, 0, none⟩)] w fun e w' =>
      e = .returned (.int .i64 ((min (min (r.getD k 0 + ch (q.data.toList.getD k 0) c) (r.getD (k + 1) 0 + 1)) (t.getD k 0 + 1) : Nat) : Int)) ∧ Below w.heap.size w w' := by
  obtain ⟨b, o, cp, rfl, hc1⟩ := h1.some (by omega)
  obtain ⟨b', o', cp', rfl, hc4⟩ := h4.some (by omega)
  have ca := hc1 k (by omega)
  have cb := hc1 (k + 1) (by omega)
  have cc := hc4 k (by omega)
  rw [byte_getD q k hk]
  obtain ⟨A, hA⟩ : ∃ A, r.getD k 0 = A := ⟨_, rfl⟩
  obtain ⟨B, hB⟩ : ∃ B, r.getD (k + 1) 0 = B := ⟨_, rfl⟩
  obtain ⟨C, hC⟩ : ∃ C, t.getD k 0 = C := ⟨_, rfl⟩
  rw [hA] at ca b1 ⊢
  rw [hB] at cb b2 ⊢
  rw [hC] at cc b3 ⊢
  rw [hr, ht] at *
  obtain ⟨x, hx⟩ : ∃ x, q[k] = x := ⟨_, rfl⟩
  have hd := ch_le x c
  have QC : Hid (∀ W, Calls Try.prog 73 #[.int .u8 (x.toNat : Int), .int .u8 (c.toNat : Int)] W fun e w' => e = .returned (.int .i64 ((ch x c : Nat) : Int)) ∧ Below W.heap.size W w') := Lib.hid fun W => (change_any x c W).mono fun e w' h => ⟨h.1, h.2 ▸ Below.refl _ _⟩
  have HX : Hid (∀ W, Below w.heap.size w W → (W.cell? ⟨br, 0, none⟩ = some (.slice (some ⟨b, o, none⟩) (q.size + 1) cp) ∧ W.cell? ⟨bq, 0, none⟩ = some (.string q) ∧ W.cell? ⟨bc, 0, none⟩ = some (.int .u8 (c.toNat : Int)) ∧ W.cell? ⟨bn, 0, none⟩ = some (.slice (some ⟨b', o', none⟩) (q.size + 1) cp')) ∧ W.cell? ⟨b, o + k, none⟩ = some (.int .i64 (A : Int)) ∧ W.cell? ⟨b, o + (k + 1), none⟩ = some (.int .i64 (B : Int)) ∧ W.cell? ⟨b', o' + k, none⟩ = some (.int .i64 (C : Int))) := Lib.hid fun W hb => by
    refine ⟨⟨(boxed_below x1 hb).cell, (boxed_below x2 hb).cell, (boxed_below x3 hb).cell, (boxed_below x4 hb).cell⟩, ?_, ?_, ?_⟩
    · rw [hb.cell (p := ⟨b, o + k, none⟩) (block_lt_of_cell ca)]; exact ca
    · rw [hb.cell (p := ⟨b, o + (k + 1), none⟩) (block_lt_of_cell cb)]; exact cb
    · rw [hb.cell (p := ⟨b', o' + k, none⟩) (block_lt_of_cell cc)]; exact cc
  rw [hx]
  obtain ⟨d, hdd⟩ : ∃ d, ch x c = d := ⟨_, rfl⟩
  rw [hdd] at QC hd ⊢
  have HXq := Lib.hid hx
  clear h1 h4 hc1 hc4 ca cb cc x1 x2 x3 x4 hA hB hC hr ht hx hdd
  have w0 : IntKind.i64.wrap (k : Int) = (k : Int) := IntWalk.i64_in _ (by omega)
  have w1 : IntKind.i64.wrap ((A : Int) + (d : Int)) = ((A + d : Nat) : Int) := by rw [IntWalk.i64_in _ (by omega)]; omega
  have w2 : IntKind.i64.wrap ((B : Int) + 1) = ((B + 1 : Nat) : Int) := by rw [IntWalk.i64_in _ (by omega)]; omega
  have w3 : IntKind.i64.wrap ((C : Int) + 1) = ((C + 1 : Nat) : Int) := by rw [IntWalk.i64_in _ (by omega)]; omega
  obtain ⟨m, hm⟩ : ∃ m, m = min (min (A + d) (B + 1)) (C + 1) := ⟨_, rfl⟩
  rw [← hm]
  have HM : Hid (m = minT [A + d, B + 1, C + 1]) := Lib.hid hm
  clear hm
  go_enter Try.func72, Try.ntmps72
  go_upto_region 1 with fail
  refine Said.region (by kernel_rfl) (by kernel_rfl) (by kernel_rfl) [.is (.slice (some ⟨b, o, none⟩) (q.size + 1) cp), .is (.int .i64 ((k : Int) + 1)), .is (.int .i64 (k : Int)), .is (.pointer (some ⟨b, o + k, none⟩)), .is (.int .i64 (A : Int)), .is (.string q), .is (.int .i64 ((k : Int) + 1)), .is (.int .i64 (k : Int)), .is (.int .u8 (x.toNat : Int)), .is (.int .u8 (c.toNat : Int)), .is (.int .i64 (d : Int)), .is (.int .i64 ((A + d : Nat) : Int)),
    .is (.slice (some ⟨b, o, none⟩) (q.size + 1) cp), .is (.int .i64 ((k : Int) + 1)), .is (.pointer (some ⟨b, o + (k + 1), none⟩)), .is (.int .i64 (B : Int)), .is (.int .i64 ((B + 1 : Nat) : Int)),
    .is (.slice (some ⟨b', o', none⟩) (q.size + 1) cp'), .is (.int .i64 ((k : Int) + 1)), .is (.int .i64 (k : Int)), .is (.pointer (some ⟨b', o' + k, none⟩)), .is (.int .i64 (C : Int)), .is (.int .i64 ((C + 1 : Nat) : Int)),
    .has (fun v W => Ints W v [A + d, B + 1, C + 1]), .is (.int .i64 (m : Int)), .is (.int .i64 (m : Int))] ?_
  simp only [List.toList_toArray]
  iterate 10 (
    refine sq_pure (by rfl) (fun W hb _ => ?_) ?_
    · obtain ⟨⟨y1, y2, y3, y4⟩, y5, y6, y7⟩ := HX.out W hb
      have hxx := HXq.out
      go_simp
      all_goals first | done | omega | (rw [← hxx]; rfl)
    simp only [Act.put, List.setIfInBounds_toArray, List.set_cons_zero, List.set_cons_succ])
  refine sq_call (f := 73) (args := #[.int .u8 (x.toNat : Int), .int .u8 (c.toNat : Int)]) (by rfl) (fun W => by go_simp) (fun W hb _ => QC.out W) ?_
  simp only [Act.put, List.setIfInBounds_toArray, List.set_cons_zero, List.set_cons_succ]
  iterate 12 (
    refine sq_pure (by rfl) (fun W hb _ => ?_) ?_
    · obtain ⟨⟨y1, y2, y3, y4⟩, y5, y6, y7⟩ := HX.out W hb
      go_simp
      all_goals first | done | omega
    simp only [Act.put, List.setIfInBounds_toArray, List.set_cons_zero, List.set_cons_succ])
  refine sq_has (ints_mono _) (fun W hb _ => step_value (v := .slice (some ⟨W.heap.size, 0, none⟩) 3 3) (W' := W.alloc (.cells #[.int .i64 ((A + d : Nat) : Int), .int .i64 ((B + 1 : Nat) : Int), .int .i64 ((C + 1 : Nat) : Int)] 3)) (by rfl) (by go_simp) (below_alloc W _) (ints_three W _ _ _)) (fun v => ?_)
  simp only [Act.put, List.setIfInBounds_toArray, List.set_cons_zero, List.set_cons_succ]
  refine sq_call (f := 40) (args := #[v]) (by rfl) (fun W => by go_simp) (fun W hb hf => (least_any (hf.1 (by kernel_rfl)) (by simp) (by simp)).mono fun e w' h => ⟨h.1.trans (by rw [← HM.out]), h.2 ▸ Below.refl _ _⟩) ?_
  simp only [Act.put, List.setIfInBounds_toArray, List.set_cons_zero, List.set_cons_succ]
  refine sq_pure (by rfl) (fun W hb _ => by go_simp) ?_
  simp only [Act.put, List.setIfInBounds_toArray, List.set_cons_zero, List.set_cons_succ]
  refine sq_end (fun W9 hb9 hK9 => ?_)
  have H9 := Lib.hid hb9
  clear hK9 hb9
  go_wp2
  go_ret
  exact ⟨rfl, H9.out⟩
end Go.Proofs.Ythgdanbkngnckaa

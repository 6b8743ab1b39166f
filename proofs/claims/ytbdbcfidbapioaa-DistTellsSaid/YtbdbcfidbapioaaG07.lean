/-
  dist.Next's closure: the number at a place.
-/
import Derived.Test.YtbdbcfidbapioaaG05
import Derived.Test.YtbdbcfidbapioaaG06
import Derived.Deep.DeepCutAuto
import Derived.BigQuiet
set_option linter.unusedVariables false
set_option linter.unusedSimpArgs false
namespace Go.Proofs.Ytbdbcfidbapioaa
open Go.RowKit Go.Shelf Said

theorem ints_mono (l : List Nat) : Mono (fun v W => Ints W v l) := fun _ _ _ hb h => h.below hb
theorem ints_three (W : World) (a b c : Nat) : Ints (W.alloc (.cells #[.int .i64 (a : Int), .int .i64 (b : Int), .int .i64 (c : Int)] 3)) (.slice (some ⟨W.heap.size, 0, none⟩) 3 3) [a, b, c] := by
  refine ⟨_, 3, rfl, fun i hi => ⟨W.heap.size, 0, rfl, ?_⟩⟩
  simp only [List.length_cons, List.length_nil] at hi
  rcases (show i = 0 ∨ i = 1 ∨ i = 2 by omega) with rfl | rfl | rfl <;> simp [go_sem]

set_option maxHeartbeats 1000000 in
set_option maxRecDepth 100000 in
theorem number_any {w : World} {br bq bc bn : Nat} {rv nv : Value} {r t : List Nat} {q : ByteArray} {c : UInt8} {k : Nat} (x1 : Boxed w br 27 rv) (h1 : Ints w rv r) (x2 : Boxed w bq 9 (.string q)) (x3 : Boxed w bc 5 (.int .u8 (c.toNat : Int))) (x4 : Boxed w bn 27 nv) (h4 : Ints w nv t)
    (hk : k < q.size) (hr : r.length = q.size + 1) (ht : t.length = q.size + 1) (hq : q.size ≤ 1000000) (b1 : r.getD k 0 ≤ 1000000000) (b2 : r.getD (k + 1) 0 ≤ 1000000000) (b3 : t.getD k 0 ≤ 1000000000) :
    Calls Try.prog 24 #[.int .i64 ((k : Int) + 1), .pointer (some ⟨br, 0, none⟩), .pointer (some ⟨bq, 0, none⟩), .pointer (some ⟨bc, 0, none⟩), .pointer (some ⟨bn, 0, none⟩)] w fun e w' =>
      e = .returned (.int .i64 ((min (min (r.getD k 0 + ch (q.data.toList.getD k 0) c) (r.getD (k + 1) 0 + 1)) (t.getD k 0 + 1) : Nat) : Int)) ∧ Below w.heap.size w w' := by
  obtain ⟨b, o, cp, rfl, hc1⟩ := h1.some (by omega)
  obtain ⟨b', o', cp', rfl, hc4⟩ := h4.some (by omega)
  have ca := hc1 k (by omega)
  have cb := hc1 (k + 1) (by omega)
  have cc := hc4 k (by omega)
  rw [byte_getD q k hk]
  obtain ⟨A, hA⟩ : ∃ A, r.getD k 0 = A := ⟨_, rfl⟩
  obtain ⟨B, hB⟩ : ∃ B, r.getD (k + 1) 0 = B := ⟨_, rfl⟩
  obtain ⟨C, hC⟩ : ∃ C, t.getD k 0 = C := ⟨_, rfl⟩
  rw [hA] at ca b1 ⊢
  rw [hB] at cb b2 ⊢
  rw [hC] at cc b3 ⊢
  rw [hr, ht] at *
  obtain ⟨x, hx⟩ : ∃ x, q[k] = x := ⟨_, rfl⟩
  have hd := ch_le x c
  have QC : Hid (∀ W, Calls Try.prog 25 #[.int .u8 (x.toNat : Int), .int .u8 (c.toNat : Int)] W fun e w' => e = .returned (.int .i64 ((ch x c : Nat) : Int)) ∧ Below W.heap.size W w') := Lib.hid fun W => (change_any x c W).mono fun e w' h => ⟨h.1, h.2 ▸ Below.refl _ _⟩
  have HX : Hid (∀ W, Below w.heap.size w W → (W.cell? ⟨br, 0, none⟩ = some (.slice (some ⟨b, o, none⟩) (q.size + 1) cp) ∧ W.cell? ⟨bq, 0, none⟩ = some (.string q) ∧ W.cell? ⟨bc, 0, none⟩ = some (.int .u8 (c.toNat : Int)) ∧ W.cell? ⟨bn, 0, none⟩ = some (.slice (some ⟨b', o', none⟩) (q.size + 1) cp')) ∧ W.cell? ⟨b, o + k, none⟩ = some (.int .i64 (A : Int)) ∧ W.cell? ⟨b, o + (k + 1), none⟩ = some (.int .i64 (B : Int)) ∧ W.cell? ⟨b', o' + k, none⟩ = some (.int .i64 (C : Int))) := Lib.hid fun W hb => by
    refine ⟨⟨(boxed_below x1 hb).cell, (boxed_below x2 hb).cell, (boxed_below x3 hb).cell, (boxed_below x4 hb).cell⟩, ?_, ?_, ?_⟩
    · rw [hb.cell (p := ⟨b, o + k, none⟩) (block_lt_of_cell ca)]; exact ca
    · rw [hb.cell (p := ⟨b, o + (k + 1), none⟩) (block_lt_of_cell cb)]; exact cb
    · rw [hb.cell (p := ⟨b', o' + k, none⟩) (block_lt_of_cell cc)]; exact cc
  rw [hx]
  obtain ⟨d, hdd⟩ : ∃ d, ch x c = d := ⟨_, rfl⟩
  rw [hdd] at QC hd ⊢
  have HXq := Lib.hid hx
  clear h1 h4 hc1 hc4 ca cb cc x1 x2 x3 x4 hA hB hC hr ht hx hdd
  have w0 : IntKind.i64.wrap (k : Int) = (k : Int) := IntWalk.i64_in _ (by omega)
  have w1 : IntKind.i64.wrap ((A : Int) + (d : Int)) = ((A + d : Nat) : Int) := by rw [IntWalk.i64_in _ (by omega)]; omega
  have w2 : IntKind.i64.wrap ((B : Int) + 1) = ((B + 1 : Nat) : Int) := by rw [IntWalk.i64_in _ (by omega)]; omega
  have w3 : IntKind.i64.wrap ((C : Int) + 1) = ((C + 1 : Nat) : Int) := by rw [IntWalk.i64_in _ (by omega)]; omega
  obtain ⟨m, hm⟩ : ∃ m, m = min (min (A + d) (B + 1)) (C + 1) := ⟨_, rfl⟩
  rw [← hm]
  have HM : Hid (m = minT [A + d, B + 1, C + 1]) := Lib.hid hm
  clear hm
  go_enter Try.func24, Try.ntmps24
  go_upto_region 1 with fail
  refine Said.region (by kernel_rfl) (by kernel_rfl) (by kernel_rfl) [.is (.slice (some ⟨b, o, none⟩) (q.size + 1) cp), .is (.int .i64 ((k : Int) + 1)), .is (.int .i64 (k : Int)), .is (.pointer (some ⟨b, o + k, none⟩)), .is (.int .i64 (A : Int)), .is (.string q), .is (.int .i64 ((k : Int) + 1)), .is (.int .i64 (k : Int)), .is (.int .u8 (x.toNat : Int)), .is (.int .u8 (c.toNat : Int)), .is (.int .i64 (d : Int)), .is (.int .i64 ((A + d : Nat) : Int)),
    .is (.slice (some ⟨b, o, none⟩) (q.size + 1) cp), .is (.int .i64 ((k : Int) + 1)), .is (.pointer (some ⟨b, o + (k + 1), none⟩)), .is (.int .i64 (B : Int)), .is (.int .i64 ((B + 1 : Nat) : Int)),
    .is (.slice (some ⟨b', o', none⟩) (q.size + 1) cp'), .is (.int .i64 ((k : Int) + 1)), .is (.int .i64 (k : Int)), .is (.pointer (some ⟨b', o' + k, none⟩)), .is (.int .i64 (C : Int)), .is (.int .i64 ((C + 1 : Nat) : Int)),
    .has (fun v W => Ints W v [A + d, B + 1, C + 1]), .is (.int .i64 (m : Int)), .is (.int .i64 (m : Int))] ?_
  simp only [List.toList_toArray]
  iterate 10 (
    refine sq_pure (by rfl) (fun W hb _ => ?_) ?_
    · obtain ⟨⟨y1, y2, y3, y4⟩, y5, y6, y7⟩ := HX.out W hb
      have hxx := HXq.out
      go_simp
      all_goals first | done | omega | (rw [← hxx]; rfl)
    simp only [Act.put, List.setIfInBounds_toArray, List.set_cons_zero, List.set_cons_succ])
  refine sq_call (f := 25) (args := #[.int .u8 (x.toNat : Int), .int .u8 (c.toNat : Int)]) (by rfl) (fun W => by go_simp) (fun W hb _ => QC.out W) ?_
  simp only [Act.put, List.setIfInBounds_toArray, List.set_cons_zero, List.set_cons_succ]
  iterate 12 (
    refine sq_pure (by rfl) (fun W hb _ => ?_) ?_
    · obtain ⟨⟨y1, y2, y3, y4⟩, y5, y6, y7⟩ := HX.out W hb
      go_simp
      all_goals first | done | omega
    simp only [Act.put, List.setIfInBounds_toArray, List.set_cons_zero, List.set_cons_succ])
  refine sq_has (ints_mono _) (fun W hb _ => step_value (v := .slice (some ⟨W.heap.size, 0, none⟩) 3 3) (W' := W.alloc (.cells #[.int .i64 ((A + d : Nat) : Int), .int .i64 ((B + 1 : Nat) : Int), .int .i64 ((C + 1 : Nat) : Int)] 3)) (by rfl) (by go_simp) (below_alloc W _) (ints_three W _ _ _)) (fun v => ?_)
  simp only [Act.put, List.setIfInBounds_toArray, List.set_cons_zero, List.set_cons_succ]
  refine sq_call (f := 23) (args := #[v]) (by rfl) (fun W => by go_simp) (fun W hb hf => (least_any (hf.1 (by kernel_rfl)) (by simp) (by simp)).mono fun e w' h => ⟨h.1.trans (by rw [← HM.out]), h.2 ▸ Below.refl _ _⟩) ?_
  simp only [Act.put, List.setIfInBounds_toArray, List.set_cons_zero, List.set_cons_succ]
  refine sq_pure (by rfl) (fun W hb _ => by go_simp) ?_
  simp only [Act.put, List.setIfInBounds_toArray, List.set_cons_zero, List.set_cons_succ]
  refine sq_end (fun W9 hb9 hK9 => ?_)
  have H9 := Lib.hid hb9
  clear hK9 hb9
  go_wp2
  go_ret
  exact ⟨rfl, H9.out⟩
end Go.Proofs.Ytbdbcfidbapioaa

/-
  The law's acts, done with both disks: those that do more.
-/
import Derived.Test.YtmmoilmfpiclgaaGreatT39
set_option linter.unusedVariables false
set_option linter.unusedSimpArgs false
namespace Go.Proofs.YtmmoilmfpiclgaaGreat
open Go.RowKit Go.Shelf
open Fld (FS Names FAct actsOn foundN foundB findT withT withoutT GoodN Rising mayB nam nameMax RefS textsOf)

theorem small3b {n : Int} (h1 : -32768 ≤ n) (h2 : n ≤ 32767) : -32768 ≤ (smallD n).tdiv 3 := by
  obtain ⟨h3, h4⟩ := smallD_small h1 h2
  by_cases h : 0 ≤ smallD n
  · rw [Int.tdiv_eq_ediv_of_nonneg h]; omega
  · have e := Int.neg_tdiv (-(smallD n)) 3
    rw [Int.neg_neg] at e
    have e2 : (-(smallD n)).tdiv 3 = (-(smallD n)) / 3 := Int.tdiv_eq_ediv_of_nonneg (by omega)
    rw [e2] at e
    omega
theorem join_two {W : World} {b : Nat} {x y z : ByteArray} (hz : x.data.toList ++ y.data.toList = z.data.toList) (hx : z.size ≤ 140737488355328) (hb : W.heap[b]? = some (.cells #[.string x, .string y] 9 (0, 0))) :
    Calls Tryz.prog 52 #[.slice (some ⟨b, 0, none⟩) 2 2, .string ⟨#[]⟩] W fun e w' => e = .returned (.string z) ∧ Below W.heap.size W w' := by
  have hj : Lib.join ([x, y].map (·.data.toList)) (⟨#[]⟩ : ByteArray).data.toList = z.data.toList := by rw [← hz]; simp [Lib.join]
  have q := Tryz.strings_Join b 0 2 [x, y] ⟨#[]⟩ W (fun j u hj => by
    match j, hj with
    | 0, hj =>
      simp at hj
      subst hj
      rw [cell_of_row W b _ _ _ _ hb]
      rfl
    | 1, hj =>
      simp at hj
      subst hj
      rw [cell_of_row W b _ _ _ _ hb]
      rfl
    | j + 2, hj => simp at hj) (Array.getElem?_eq_some_iff.1 hb).1 (by simp) (Nat.le_refl _) (by rw [hj]; simpa using hx)
  rw [hj] at q
  exact q
theorem strs_duo8 {W : World} {b : Nat} {x y : ByteArray} (hb : W.heap[b]? = some (.cells #[.string x, .string y] 9 (0, 0))) : Strs W (.slice (some ⟨b, 0, none⟩) 2 2) [x, y] := ⟨_, _, rfl, fun i hi => ⟨b, 0, rfl, by
  match i, hi with
  | 0, _ => rw [cell_of_row W b _ _ _ _ hb]; rfl
  | 1, _ => rw [cell_of_row W b _ _ _ _ hb]; rfl
  | i + 2, hi => exact absurd hi (by simp)⟩⟩

set_option maxHeartbeats 16000000 in
set_option maxRecDepth 100000 in
theorem does_arm {w0 w : World} {p r : Nat} {S : DS} {d : Deed} (h : Both w0 w p r S S []) (hf : S.Light 890 89000) (hd : d.ok) (hc : d.what % 17 = 14) :
    Calls Tryz.prog 15 #[.agg d.vals, .pointer (some ⟨p, 0, none⟩), .pointer (some ⟨r, 0, none⟩)] w (DoesP w0 w p r S) := by
  have hB1 : Both w0 (w.alloc (.cells d.vals 35)) p r S S [(w.heap.size, actO d)] := h.own (below_alloc' (Below.refl _ w)) (heap_alloc_new w _) (Nat.le_refl _)
  have QN := Lib.hid (named_any d hd.2.2.2.2.2.2)
  have QS := Lib.hid (small_any d hd.2.2.2.2.2.2 hd.2.2.2.2.1 hd.2.2.2.2.2.1)
  obtain ⟨what, a, b, raw, n, lv⟩ := d
  obtain ⟨h1, h2, h3, h4, h5, h6, ad, ln, c, hlv⟩ := hd
  dsimp only at h1 h2 h3 h4 h5 h6 hlv hc hB1
  subst hlv
  have hB1 := Lib.hid hB1
  obtain ⟨w1, hw1⟩ : ∃ w1, w1 = w.alloc (.cells (Deed.vals ⟨what, a, b, raw, n, .slice ad ln c⟩) 35) := ⟨_, rfl⟩
  have hA1 : w1.heap[w.heap.size]? = some (.cells (Deed.vals ⟨what, a, b, raw, n, .slice ad ln c⟩) 35 (0, 0)) := by rw [hw1]; exact heap_alloc_new w _
  have HBX : Hid (∀ W : World, W.heap[w.heap.size]? = some (.cells (Deed.vals ⟨what, a, b, raw, n, .slice ad ln c⟩) 35 (0, 0)) → W.cell? ⟨w.heap.size, 0, none⟩ = some (.int .u8 (what : Int)) ∧ W.cell? ⟨w.heap.size, 1, none⟩ = some (.int .u8 (a : Int)) ∧ W.cell? ⟨w.heap.size, 2, none⟩ = some (.int .u8 (b : Int)) ∧ W.cell? ⟨w.heap.size, 3, none⟩ = some (.string raw) ∧ W.cell? ⟨w.heap.size, 4, none⟩ = some (.int .i16 n) ∧ W.cell? ⟨w.heap.size, 5, none⟩ = some (.slice ad ln c)) := Lib.hid fun W hW => ⟨by rw [cell_of_row W _ 0 _ _ _ hW]; rfl, by rw [cell_of_row W _ 1 _ _ _ hW]; rfl, by rw [cell_of_row W _ 2 _ _ _ hW]; rfl, by rw [cell_of_row W _ 3 _ _ _ hW]; rfl, by rw [cell_of_row W _ 4 _ _ _ hW]; rfl, by rw [cell_of_row W _ 5 _ _ _ hW]; rfl⟩
  have HX : Hid (∀ W, Below w1.heap.size w1 W → W.cell? ⟨w.heap.size, 0, none⟩ = some (.int .u8 (what : Int)) ∧ W.cell? ⟨w.heap.size, 1, none⟩ = some (.int .u8 (a : Int)) ∧ W.cell? ⟨w.heap.size, 2, none⟩ = some (.int .u8 (b : Int)) ∧ W.cell? ⟨w.heap.size, 3, none⟩ = some (.string raw) ∧ W.cell? ⟨w.heap.size, 4, none⟩ = some (.int .i16 n) ∧ W.cell? ⟨w.heap.size, 5, none⟩ = some (.slice ad ln c)) := Lib.hid fun W hW => HBX.out W ((hW.block _ (Array.getElem?_eq_some_iff.1 hA1).1).trans hA1)
  obtain ⟨x, hx⟩ : ∃ x, nameD raw a = x := ⟨_, rfl⟩
  obtain ⟨y, hy⟩ : ∃ y, nameD raw b = y := ⟨_, rfl⟩
  have hxs : x.size ≤ nameMax := by rw [← hx]; exact nameD_size h4 a
  have hys : y.size ≤ nameMax := by rw [← hy]; exact nameD_size h4 b
  have Q1 : Hid (∀ W, Calls Tryz.prog 18 #[.agg #[.int .u8 (what : Int), .int .u8 (a : Int), .int .u8 (b : Int), .string raw, .int .i16 n, .slice ad ln c], .int .u8 (a : Int)] W fun e w' => e = .returned (.string x) ∧ Below W.heap.size W w') := Lib.hid fun W => by rw [← hx]; exact QN.out a h2 W
  have Q2 : Hid (∀ W, Calls Tryz.prog 18 #[.agg #[.int .u8 (what : Int), .int .u8 (a : Int), .int .u8 (b : Int), .string raw, .int .i16 n, .slice ad ln c], .int .u8 (b : Int)] W fun e w' => e = .returned (.string y) ∧ Below W.heap.size W w') := Lib.hid fun W => by rw [← hy]; exact QN.out b h3 W
  obtain ⟨k, hk⟩ : ∃ k, smallD n = k := ⟨_, rfl⟩
  have hks := smallD_small h5 h6
  have hk3 := small3 h5 h6
  rw [hk] at hks hk3
  have QK : Hid (∀ W, Calls Tryz.prog 21 #[.agg #[.int .u8 (what : Int), .int .u8 (a : Int), .int .u8 (b : Int), .string raw, .int .i16 n, .slice ad ln c]] W fun e w' => e = .returned (.int .i64 k) ∧ Below W.heap.size W w') := Lib.hid fun W => by rw [← hk]; exact QS.out W
  clear QN QS
  obtain ⟨m, hm⟩ : ∃ m, min raw.size 20 = m := ⟨_, rfl⟩
  have hmi : min (raw.size : Int) 20 = (m : Int) := by omega
  have hmi2 : (if (20 : Int) < (raw.size : Int) then (20 : Int) else (raw.size : Int)) = (m : Int) := by split <;> omega
  have hmi3 : (if (raw.size : Int) < (20 : Int) then (raw.size : Int) else (20 : Int)) = (m : Int) := by split <;> omega
  have hmr : (m : Int) ≤ (raw.size : Int) := by omega
  have hm0 : (0 : Int) ≤ (m : Int) := by omega
  have hsz : (raw.extract 0 m).size ≤ 20 := by rw [ByteArray.size_extract]; omega
  have HFT := Lib.hid (light_fit2 hf (by decide) (by decide))
  have HLF := Lib.hid hf
  have hq3 : IntKind.i64.wrap (k.tdiv 3) = k.tdiv 3 := IntWalk.i64_in _ (by have := small3b h5 h6; rw [hk] at this; omega)
  obtain ⟨S1, hS1⟩ : ∃ S1, S.arm (k.tdiv 3) = S1 := ⟨_, rfl⟩
  have QP : Hid (∀ W, Both w0 W p r S S [(w.heap.size, actO ⟨what, a, b, raw, n, .slice ad ln c⟩)] → Calls Tryz.prog 31 #[.pointer (some ⟨p, 0, none⟩), .int .i64 (k.tdiv 3)] W fun e w' => e = .returned (.tuple #[]) ∧ Both w0 w' p r S1 S [(w.heap.size, actO ⟨what, a, b, raw, n, .slice ad ln c⟩)]) := Lib.hid fun W hW => by
    rw [← hS1]
    exact hW.prog fun v hv hex hn => disk_arm hv hk3
  have QR : Hid (∀ W, Both w0 W p r S1 S [(w.heap.size, actO ⟨what, a, b, raw, n, .slice ad ln c⟩)] → Calls Tryz.prog 67 #[.pointer (some ⟨r, 0, none⟩), .int .i64 (k.tdiv 3)] W fun e w' => e = .returned (.tuple #[]) ∧ Both w0 w' p r S1 S1 [(w.heap.size, actO ⟨what, a, b, raw, n, .slice ad ln c⟩)]) := Lib.hid fun W hW =>
    Both.ref (T' := S1) hW fun M hM hex hn => hS1 ▸ refArm_any hM (k.tdiv 3) hk3

  clear hx hy hk hm hf h
  unfold Deed.vals
  dsimp only
  go_enter Tryz.func15, Tryz.ntmps15
  go_upto_region 1 with fail
  have hw1' : w.alloc (.cells #[.int .u8 (what : Int), .int .u8 (a : Int), .int .u8 (b : Int), .string raw, .int .i16 n, .slice ad ln c] 35) = w1 := hw1.symm
  rw [hw1']
  refine Said.region (by kernel_rfl) (by kernel_rfl) (by kernel_rfl) [.is (.agg #[.int .u8 (what : Int), .int .u8 (a : Int), .int .u8 (b : Int), .string raw, .int .i16 n, .slice ad ln c]), .is (.pointer (some ⟨w.heap.size, 1, none⟩)), .is (.int .u8 (a : Int)), .is (.string x), .is (.agg #[.int .u8 (what : Int), .int .u8 (a : Int), .int .u8 (b : Int), .string raw, .int .i16 n, .slice ad ln c]), .is (.pointer (some ⟨w.heap.size, 2, none⟩)), .is (.int .u8 (b : Int)), .is (.string y), .is (.pointer (some ⟨w.heap.size, 3, none⟩)), .is (.string raw), .is (.pointer (some ⟨w.heap.size, 3, none⟩)), .is (.string raw), .is (.int .i64 (raw.size : Int)), .is (.int .i64 (m : Int)), .is (.string (raw.extract 0 m)), .is (.string x), .is (.string y), .is (.string (raw.extract 0 m))] ?_
  simp only [List.toList_toArray]
  iterate 3 (
    refine sq_pure (by rfl) (fun W hb _ => ?_) ?_
    · obtain ⟨b0, b1, b2, b3, b4, b5⟩ := HX.out W hb
      go_simp
    simp only [Act.put, List.setIfInBounds_toArray, List.set_cons_zero, List.set_cons_succ])
  refine sq_call (f := 18) (args := #[.agg #[.int .u8 (what : Int), .int .u8 (a : Int), .int .u8 (b : Int), .string raw, .int .i16 n, .slice ad ln c], .int .u8 (a : Int)]) (by rfl) (fun W => by go_simp) (fun W hb _ => Q1.out W) ?_
  simp only [Act.put, List.setIfInBounds_toArray, List.set_cons_zero, List.set_cons_succ]
  iterate 3 (
    refine sq_pure (by rfl) (fun W hb _ => ?_) ?_
    · obtain ⟨b0, b1, b2, b3, b4, b5⟩ := HX.out W hb
      go_simp
    simp only [Act.put, List.setIfInBounds_toArray, List.set_cons_zero, List.set_cons_succ])
  refine sq_call (f := 18) (args := #[.agg #[.int .u8 (what : Int), .int .u8 (a : Int), .int .u8 (b : Int), .string raw, .int .i16 n, .slice ad ln c], .int .u8 (b : Int)]) (by rfl) (fun W => by go_simp) (fun W hb _ => Q2.out W) ?_
  simp only [Act.put, List.setIfInBounds_toArray, List.set_cons_zero, List.set_cons_succ]
  iterate 10 (
    refine sq_pure (by rfl) (fun W hb _ => ?_) ?_
    · obtain ⟨b0, b1, b2, b3, b4, b5⟩ := HX.out W hb
      go_simp
    simp only [Act.put, List.setIfInBounds_toArray, List.set_cons_zero, List.set_cons_succ])
  refine sq_end (fun W2 hb2 _ => ?_)
  have HB2 : Hid (Both w0 W2 p r S S [(w.heap.size, actO ⟨what, a, b, raw, n, .slice ad ln c⟩)]) := Lib.hid (Both.next (hw1 ▸ hB1.out) hb2)
  have hA2 := HBX.out W2 (HB2.out.at (List.mem_cons_self ..))
  obtain ⟨z0, z1, z2, z3, z4, z5⟩ := hA2
  clear hb2 HX
  have m17 : (what : Int).tmod 17 = 14 := by rw [Int.tmod_eq_emod_of_nonneg (by omega)]; omega
  have m17' : (what : Int) % 17 = 14 := by omega
  clear hc
  go_wp2_with (first
    | (go_at_call 21; (with_reducible refine (QK.out _).mono ?_); rintro e w3 ⟨rfl, hq⟩; have HB3 := Lib.hid (HB2.out.next hq); obtain ⟨y0, y1, y2, y3, y4, y5⟩ := HBX.out _ (HB3.out.at (List.mem_cons_self ..)); clear hq)
    | (go_at_call 31; (with_reducible refine (QP.out _ HB3.out).mono ?_); rintro e w4 ⟨rfl, hq⟩; have HB4 := Lib.hid hq; obtain ⟨x0, x1, x2, x3, x4, x5⟩ := HBX.out _ (HB4.out.at (List.mem_cons_self ..)); clear hq)
    | (go_at_call 21; (with_reducible refine (QK.out _).mono ?_); rintro e w5 ⟨rfl, hq⟩; have HB5 := Lib.hid (HB4.out.next hq); clear hq)
    | (go_at_call 67; (with_reducible refine (QR.out _ HB5.out).mono ?_); rintro e w6 ⟨rfl, hq⟩; have HB6 := Lib.hid hq; clear hq))
  go_ret
  exact ⟨rfl, S1, HB6.out.less (fun _ hx => by cases hx), fun a b hab => hS1 ▸ (hab.arm _).mono (Nat.le_add_right _ _) (Nat.le_add_right _ _)⟩

set_option maxHeartbeats 16000000 in
set_option maxRecDepth 100000 in
theorem does_truncate {w0 w : World} {p r : Nat} {S : DS} {d : Deed} (h : Both w0 w p r S S []) (hf : S.Light 890 89000) (hd : d.ok) (hc : d.what % 17 = 6) :
    Calls Tryz.prog 15 #[.agg d.vals, .pointer (some ⟨p, 0, none⟩), .pointer (some ⟨r, 0, none⟩)] w (DoesP w0 w p r S) := by
  have hB1 : Both w0 (w.alloc (.cells d.vals 35)) p r S S [(w.heap.size, actO d)] := h.own (below_alloc' (Below.refl _ w)) (heap_alloc_new w _) (Nat.le_refl _)
  have QN := Lib.hid (named_any d hd.2.2.2.2.2.2)
  have QS := Lib.hid (small_any d hd.2.2.2.2.2.2 hd.2.2.2.2.1 hd.2.2.2.2.2.1)
  obtain ⟨what, a, b, raw, n, lv⟩ := d
  obtain ⟨h1, h2, h3, h4, h5, h6, ad, ln, c, hlv⟩ := hd
  dsimp only at h1 h2 h3 h4 h5 h6 hlv hc hB1
  subst hlv
  have hB1 := Lib.hid hB1
  obtain ⟨w1, hw1⟩ : ∃ w1, w1 = w.alloc (.cells (Deed.vals ⟨what, a, b, raw, n, .slice ad ln c⟩) 35) := ⟨_, rfl⟩
  have hA1 : w1.heap[w.heap.size]? = some (.cells (Deed.vals ⟨what, a, b, raw, n, .slice ad ln c⟩) 35 (0, 0)) := by rw [hw1]; exact heap_alloc_new w _
  have HBX : Hid (∀ W : World, W.heap[w.heap.size]? = some (.cells (Deed.vals ⟨what, a, b, raw, n, .slice ad ln c⟩) 35 (0, 0)) → W.cell? ⟨w.heap.size, 0, none⟩ = some (.int .u8 (what : Int)) ∧ W.cell? ⟨w.heap.size, 1, none⟩ = some (.int .u8 (a : Int)) ∧ W.cell? ⟨w.heap.size, 2, none⟩ = some (.int .u8 (b : Int)) ∧ W.cell? ⟨w.heap.size, 3, none⟩ = some (.string raw) ∧ W.cell? ⟨w.heap.size, 4, none⟩ = some (.int .i16 n) ∧ W.cell? ⟨w.heap.size, 5, none⟩ = some (.slice ad ln c)) := Lib.hid fun W hW => ⟨by rw [cell_of_row W _ 0 _ _ _ hW]; rfl, by rw [cell_of_row W _ 1 _ _ _ hW]; rfl, by rw [cell_of_row W _ 2 _ _ _ hW]; rfl, by rw [cell_of_row W _ 3 _ _ _ hW]; rfl, by rw [cell_of_row W _ 4 _ _ _ hW]; rfl, by rw [cell_of_row W _ 5 _ _ _ hW]; rfl⟩
  have HX : Hid (∀ W, Below w1.heap.size w1 W → W.cell? ⟨w.heap.size, 0, none⟩ = some (.int .u8 (what : Int)) ∧ W.cell? ⟨w.heap.size, 1, none⟩ = some (.int .u8 (a : Int)) ∧ W.cell? ⟨w.heap.size, 2, none⟩ = some (.int .u8 (b : Int)) ∧ W.cell? ⟨w.heap.size, 3, none⟩ = some (.string raw) ∧ W.cell? ⟨w.heap.size, 4, none⟩ = some (.int .i16 n) ∧ W.cell? ⟨w.heap.size, 5, none⟩ = some (.slice ad ln c)) := Lib.hid fun W hW => HBX.out W ((hW.block _ (Array.getElem?_eq_some_iff.1 hA1).1).trans hA1)
  obtain ⟨x, hx⟩ : ∃ x, nameD raw a = x := ⟨_, rfl⟩
  obtain ⟨y, hy⟩ : ∃ y, nameD raw b = y := ⟨_, rfl⟩
  have hxs : x.size ≤ nameMax := by rw [← hx]; exact nameD_size h4 a
  have hys : y.size ≤ nameMax := by rw [← hy]; exact nameD_size h4 b
  have Q1 : Hid (∀ W, Calls Tryz.prog 18 #[.agg #[.int .u8 (what : Int), .int .u8 (a : Int), .int .u8 (b : Int), .string raw, .int .i16 n, .slice ad ln c], .int .u8 (a : Int)] W fun e w' => e = .returned (.string x) ∧ Below W.heap.size W w') := Lib.hid fun W => by rw [← hx]; exact QN.out a h2 W
  have Q2 : Hid (∀ W, Calls Tryz.prog 18 #[.agg #[.int .u8 (what : Int), .int .u8 (a : Int), .int .u8 (b : Int), .string raw, .int .i16 n, .slice ad ln c], .int .u8 (b : Int)] W fun e w' => e = .returned (.string y) ∧ Below W.heap.size W w') := Lib.hid fun W => by rw [← hy]; exact QN.out b h3 W
  obtain ⟨k, hk⟩ : ∃ k, smallD n = k := ⟨_, rfl⟩
  have hks := smallD_small h5 h6
  have hk3 := small3 h5 h6
  rw [hk] at hks hk3
  have QK : Hid (∀ W, Calls Tryz.prog 21 #[.agg #[.int .u8 (what : Int), .int .u8 (a : Int), .int .u8 (b : Int), .string raw, .int .i16 n, .slice ad ln c]] W fun e w' => e = .returned (.int .i64 k) ∧ Below W.heap.size W w') := Lib.hid fun W => by rw [← hk]; exact QS.out W
  clear QN QS
  obtain ⟨m, hm⟩ : ∃ m, min raw.size 20 = m := ⟨_, rfl⟩
  have hmi : min (raw.size : Int) 20 = (m : Int) := by omega
  have hmi2 : (if (20 : Int) < (raw.size : Int) then (20 : Int) else (raw.size : Int)) = (m : Int) := by split <;> omega
  have hmi3 : (if (raw.size : Int) < (20 : Int) then (raw.size : Int) else (20 : Int)) = (m : Int) := by split <;> omega
  have hmr : (m : Int) ≤ (raw.size : Int) := by omega
  have hm0 : (0 : Int) ≤ (m : Int) := by omega
  have hsz : (raw.extract 0 m).size ≤ 20 := by rw [ByteArray.size_extract]; omega
  have HFT := Lib.hid (light_fit2 hf (by decide) (by decide))
  have HLF := Lib.hid hf
  obtain ⟨S1, hS1⟩ : ∃ S1, (S.truncate x k).1 = S1 := ⟨_, rfl⟩
  obtain ⟨er, her⟩ : ∃ er : Nat, (S.truncate x k).2 = er := ⟨_, rfl⟩
  have QP : Hid (∀ W, Both w0 W p r S S [(w.heap.size, actO ⟨what, a, b, raw, n, .slice ad ln c⟩)] → Calls Tryz.prog 20 #[.pointer (some ⟨p, 0, none⟩), .string x, .int .i64 k] W fun e w' => e = .returned (.int .i64 (er : Int)) ∧ Both w0 w' p r S1 S [(w.heap.size, actO ⟨what, a, b, raw, n, .slice ad ln c⟩)]) := Lib.hid fun W hW => by
    rw [← her, ← hS1]
    exact hW.prog fun v hv hex hn => disk_truncate hv x hxs HFT.out.weight HFT.out.used HFT.out.steps (Nat.le_trans (DS.Light.heft HFT.out _) (by decide)) (Nat.le_trans (DS.Light.acts HFT.out _) (by decide)) (by omega) (by omega)
  have QR : Hid (∀ W, Both w0 W p r S1 S [(w.heap.size, actO ⟨what, a, b, raw, n, .slice ad ln c⟩)] → Calls Tryz.prog 60 #[.pointer (some ⟨r, 0, none⟩), .string x, .int .i64 k] W fun e w' => e = .returned (.int .i64 (er : Int)) ∧ Both w0 w' p r S1 S1 [(w.heap.size, actO ⟨what, a, b, raw, n, .slice ad ln c⟩)]) := Lib.hid fun W hW => by
    rw [← her]
    exact Both.ref (T' := S1) hW fun M hM hex hn => hS1 ▸ refTruncate_any hM x k HFT.out (fun m => Nat.le_trans (DS.Light.acts HFT.out m) (by decide))

  clear hx hy hk hm hf h
  unfold Deed.vals
  dsimp only
  go_enter Tryz.func15, Tryz.ntmps15
  go_upto_region 1 with fail
  have hw1' : w.alloc (.cells #[.int .u8 (what : Int), .int .u8 (a : Int), .int .u8 (b : Int), .string raw, .int .i16 n, .slice ad ln c] 35) = w1 := hw1.symm
  rw [hw1']
  refine Said.region (by kernel_rfl) (by kernel_rfl) (by kernel_rfl) [.is (.agg #[.int .u8 (what : Int), .int .u8 (a : Int), .int .u8 (b : Int), .string raw, .int .i16 n, .slice ad ln c]), .is (.pointer (some ⟨w.heap.size, 1, none⟩)), .is (.int .u8 (a : Int)), .is (.string x), .is (.agg #[.int .u8 (what : Int), .int .u8 (a : Int), .int .u8 (b : Int), .string raw, .int .i16 n, .slice ad ln c]), .is (.pointer (some ⟨w.heap.size, 2, none⟩)), .is (.int .u8 (b : Int)), .is (.string y), .is (.pointer (some ⟨w.heap.size, 3, none⟩)), .is (.string raw), .is (.pointer (some ⟨w.heap.size, 3, none⟩)), .is (.string raw), .is (.int .i64 (raw.size : Int)), .is (.int .i64 (m : Int)), .is (.string (raw.extract 0 m)), .is (.string x), .is (.string y), .is (.string (raw.extract 0 m))] ?_
  simp only [List.toList_toArray]
  iterate 3 (
    refine sq_pure (by rfl) (fun W hb _ => ?_) ?_
    · obtain ⟨b0, b1, b2, b3, b4, b5⟩ := HX.out W hb
      go_simp
    simp only [Act.put, List.setIfInBounds_toArray, List.set_cons_zero, List.set_cons_succ])
  refine sq_call (f := 18) (args := #[.agg #[.int .u8 (what : Int), .int .u8 (a : Int), .int .u8 (b : Int), .string raw, .int .i16 n, .slice ad ln c], .int .u8 (a : Int)]) (by rfl) (fun W => by go_simp) (fun W hb _ => Q1.out W) ?_
  simp only [Act.put, List.setIfInBounds_toArray, List.set_cons_zero, List.set_cons_succ]
  iterate 3 (
    refine sq_pure (by rfl) (fun W hb _ => ?_) ?_
    · obtain ⟨b0, b1, b2, b3, b4, b5⟩ := HX.out W hb
      go_simp
    simp only [Act.put, List.setIfInBounds_toArray, List.set_cons_zero, List.set_cons_succ])
  refine sq_call (f := 18) (args := #[.agg #[.int .u8 (what : Int), .int .u8 (a : Int), .int .u8 (b : Int), .string raw, .int .i16 n, .slice ad ln c], .int .u8 (b : Int)]) (by rfl) (fun W => by go_simp) (fun W hb _ => Q2.out W) ?_
  simp only [Act.put, List.setIfInBounds_toArray, List.set_cons_zero, List.set_cons_succ]
  iterate 10 (
    refine sq_pure (by rfl) (fun W hb _ => ?_) ?_
    · obtain ⟨b0, b1, b2, b3, b4, b5⟩ := HX.out W hb
      go_simp
    simp only [Act.put, List.setIfInBounds_toArray, List.set_cons_zero, List.set_cons_succ])
  refine sq_end (fun W2 hb2 _ => ?_)
  have HB2 : Hid (Both w0 W2 p r S S [(w.heap.size, actO ⟨what, a, b, raw, n, .slice ad ln c⟩)]) := Lib.hid (Both.next (hw1 ▸ hB1.out) hb2)
  have hA2 := HBX.out W2 (HB2.out.at (List.mem_cons_self ..))
  obtain ⟨z0, z1, z2, z3, z4, z5⟩ := hA2
  clear hb2 HX
  have m17 : (what : Int).tmod 17 = 6 := by rw [Int.tmod_eq_emod_of_nonneg (by omega)]; omega
  have m17' : (what : Int) % 17 = 6 := by omega
  clear hc
  have zd := HBX.out W2.drew (HB2.out.at (List.mem_cons_self ..))
  obtain ⟨d0, d1, d2, d3, d4, d5⟩ := zd
  have HB2d := Lib.hid (HB2.out.next (Below.refl _ W2).drew)
  go_upto_region 7 with fail
  go_region_with (first
    | (go_at_call 21; (with_reducible refine (QK.out W2.drew).mono ?_); rintro e w3 ⟨rfl, hq⟩; have HB3 := Lib.hid (HB2d.out.next hq); obtain ⟨y0, y1, y2, y3, y4, y5⟩ := HBX.out _ (HB3.out.at (List.mem_cons_self ..)); clear hq)
    | (go_at_call 20; (with_reducible refine (QP.out _ HB3.out).mono ?_); rintro e w4 ⟨rfl, hq⟩; have HB4 := Lib.hid hq; obtain ⟨x0, x1, x2, x3, x4, x5⟩ := HBX.out _ (HB4.out.at (List.mem_cons_self ..)); clear hq)
    | (go_at_call 21; (with_reducible refine (QK.out w4).mono ?_); rintro e w5 ⟨rfl, hq⟩; have HB5 := Lib.hid (HB4.out.next hq); obtain ⟨t0, t1, t2, t3, t4, t5⟩ := HBX.out _ (HB5.out.at (List.mem_cons_self ..)); clear hq)
    | (go_at_call 60; (with_reducible refine (QR.out _ HB5.out).mono ?_); rintro e w6 ⟨rfl, hq⟩; have HB6 := Lib.hid hq; clear hq))
  all_goals
    go_wp2_with fail
    go_ret
    exact ⟨rfl, S1, HB6.out.less (fun _ hx => by cases hx), fun a b hab => hS1 ▸ (light_truncate hab x k).mono (Nat.le_refl _) (Nat.le_add_right _ _)⟩
end Go.Proofs.YtmmoilmfpiclgaaGreat

/-
  The law's acts, done with both disks.
-/
import Derived.Test.YtmmoilmfpiclgaaGreatT34
import Derived.Test.YtmmoilmfpiclgaaGreatT37
import Derived.Test.YtmmoilmfpiclgaaGreatT35
import Derived.Test.YtmmoilmfpiclgaaGreatT38
import Derived.Deep.RegionHeld3
set_option linter.unusedVariables false
set_option linter.unusedSimpArgs false
namespace Go.Proofs.YtmmoilmfpiclgaaGreat
open Go.RowKit Go.Shelf
open Fld (FS Names FAct actsOn foundN foundB findT withT withoutT GoodN Rising mayB nam nameMax RefS textsOf)

theorem light_fit2 {S : DS} {a b : Nat} (h : S.Light a b) (ha : a ≤ 900) (hb : b ≤ 90000) : S.Fit2 := h.mono ha hb
theorem small3 {n : Int} (h1 : -32768 ≤ n) (h2 : n ≤ 32767) : (smallD n).tdiv 3 ≤ 1000000 := by
  obtain ⟨h3, h4⟩ := smallD_small h1 h2
  by_cases h : 0 ≤ smallD n
  · rw [Int.tdiv_eq_ediv_of_nonneg h]; omega
  · have h5 : (smallD n).tdiv 3 ≤ 0 := by
      have e := Int.neg_tdiv (-(smallD n)) 3
      rw [Int.neg_neg] at e
      rw [e]
      have := Int.tdiv_nonneg (a := -(smallD n)) (b := 3) (by omega) (by omega)
      omega
    omega

/-- What an act leaves. -/
def DoesP (w0 w : World) (p r : Nat) (S : DS) (e : Ending) (w' : World) : Prop := e = .returned (.bool true) ∧ ∃ S' : DS, Both w0 w' p r S' S' [] ∧ ∀ a b, S.Light a b → S'.Light (a + 3) (b + 20)
def actO (d : Deed) : Obj := .cells d.vals 35 (0, 0)

set_option maxHeartbeats 16000000 in
set_option maxRecDepth 100000 in
theorem does_create {w0 w : World} {p r : Nat} {S : DS} {d : Deed} (h : Both w0 w p r S S []) (hf : S.Light 890 89000) (hd : d.ok) (hc : d.what % 17 = 0 ∨ d.what % 17 = 1) :
    Calls Tryz.prog 15 #[.agg d.vals, .pointer (some ⟨p, 0, none⟩), .pointer (some ⟨r, 0, none⟩)] w (DoesP w0 w p r S) := by
  have hB1 : Both w0 (w.alloc (.cells d.vals 35)) p r S S [(w.heap.size, actO d)] := h.own (below_alloc' (Below.refl _ w)) (heap_alloc_new w _) (Nat.le_refl _)
  have QN := Lib.hid (named_any d hd.2.2.2.2.2.2)
  have QS := Lib.hid (small_any d hd.2.2.2.2.2.2 hd.2.2.2.2.1 hd.2.2.2.2.2.1)
  obtain ⟨what, a, b, raw, n, lv⟩ := d
  obtain ⟨h1, h2, h3, h4, h5, h6, ad, ln, c, hlv⟩ := hd
  dsimp only at h1 h2 h3 h4 h5 h6 hlv hc hB1
  subst hlv
  have hB1 := Lib.hid hB1
  obtain ⟨w1, hw1⟩ : ∃ w1, w1 = w.alloc (.cells (Deed.vals ⟨what, a, b, raw, n, .slice ad ln c⟩) 35) := ⟨_, rfl⟩
  have hA1 : w1.heap[w.heap.size]? = some (.cells (Deed.vals ⟨what, a, b, raw, n, .slice ad ln c⟩) 35 (0, 0)) := by rw [hw1]; exact heap_alloc_new w _
  have HBX : Hid (∀ W : World, W.heap[w.heap.size]? = some (.cells (Deed.vals ⟨what, a, b, raw, n, .slice ad ln c⟩) 35 (0, 0)) → W.cell? ⟨w.heap.size, 0, none⟩ = some (.int .u8 (what : Int)) ∧ W.cell? ⟨w.heap.size, 1, none⟩ = some (.int .u8 (a : Int)) ∧ W.cell? ⟨w.heap.size, 2, none⟩ = some (.int .u8 (b : Int)) ∧ W.cell? ⟨w.heap.size, 3, none⟩ = some (.string raw) ∧ W.cell? ⟨w.heap.size, 4, none⟩ = some (.int .i16 n) ∧ W.cell? ⟨w.heap.size, 5, none⟩ = some (.slice ad ln c)) := Lib.hid fun W hW => ⟨by rw [cell_of_row W _ 0 _ _ _ hW]; rfl, by rw [cell_of_row W _ 1 _ _ _ hW]; rfl, by rw [cell_of_row W _ 2 _ _ _ hW]; rfl, by rw [cell_of_row W _ 3 _ _ _ hW]; rfl, by rw [cell_of_row W _ 4 _ _ _ hW]; rfl, by rw [cell_of_row W _ 5 _ _ _ hW]; rfl⟩
  have HX : Hid (∀ W, Below w1.heap.size w1 W → W.cell? ⟨w.heap.size, 0, none⟩ = some (.int .u8 (what : Int)) ∧ W.cell? ⟨w.heap.size, 1, none⟩ = some (.int .u8 (a : Int)) ∧ W.cell? ⟨w.heap.size, 2, none⟩ = some (.int .u8 (b : Int)) ∧ W.cell? ⟨w.heap.size, 3, none⟩ = some (.string raw) ∧ W.cell? ⟨w.heap.size, 4, none⟩ = some (.int .i16 n) ∧ W.cell? ⟨w.heap.size, 5, none⟩ = some (.slice ad ln c)) := Lib.hid fun W hW => HBX.out W ((hW.block _ (Array.getElem?_eq_some_iff.1 hA1).1).trans hA1)
  obtain ⟨x, hx⟩ : ∃ x, nameD raw a = x := ⟨_, rfl⟩
  obtain ⟨y, hy⟩ : ∃ y, nameD raw b = y := ⟨_, rfl⟩
  have hxs : x.size ≤ nameMax := by rw [← hx]; exact nameD_size h4 a
  have hys : y.size ≤ nameMax := by rw [← hy]; exact nameD_size h4 b
  have Q1 : Hid (∀ W, Calls Tryz.prog 18 #[.agg #[.int .u8 (what : Int), .int .u8 (a : Int), .int .u8 (b : Int), .string raw, .int .i16 n, .slice ad ln c], .int .u8 (a : Int)] W fun e w' => e = .returned (.string x) ∧ Below W.heap.size W w') := Lib.hid fun W => by rw [← hx]; exact QN.out a h2 W
  have Q2 : Hid (∀ W, Calls Tryz.prog 18 #[.agg #[.int .u8 (what : Int), .int .u8 (a : Int), .int .u8 (b : Int), .string raw, .int .i16 n, .slice ad ln c], .int .u8 (b : Int)] W fun e w' => e = .returned (.string y) ∧ Below W.heap.size W w') := Lib.hid fun W => by rw [← hy]; exact QN.out b h3 W
  obtain ⟨k, hk⟩ : ∃ k, smallD n = k := ⟨_, rfl⟩
  have hks := smallD_small h5 h6
  have hk3 := small3 h5 h6
  rw [hk] at hks hk3
  have QK : Hid (∀ W, Calls Tryz.prog 21 #[.agg #[.int .u8 (what : Int), .int .u8 (a : Int), .int .u8 (b : Int), .string raw, .int .i16 n, .slice ad ln c]] W fun e w' => e = .returned (.int .i64 k) ∧ Below W.heap.size W w') := Lib.hid fun W => by rw [← hk]; exact QS.out W
  clear QN QS
  obtain ⟨m, hm⟩ : ∃ m, min raw.size 20 = m := ⟨_, rfl⟩
  have hmi : min (raw.size : Int) 20 = (m : Int) := by omega
  have hmi2 : (if (20 : Int) < (raw.size : Int) then (20 : Int) else (raw.size : Int)) = (m : Int) := by split <;> omega
  have hmi3 : (if (raw.size : Int) < (20 : Int) then (raw.size : Int) else (20 : Int)) = (m : Int) := by split <;> omega
  have hmr : (m : Int) ≤ (raw.size : Int) := by omega
  have hm0 : (0 : Int) ≤ (m : Int) := by omega
  have hsz : (raw.extract 0 m).size ≤ 20 := by rw [ByteArray.size_extract]; omega
  have HFT := Lib.hid (light_fit2 hf (by decide) (by decide))
  have HLF := Lib.hid hf
  obtain ⟨S1, hS1⟩ : ∃ S1, (S.create x).1 = S1 := ⟨_, rfl⟩
  obtain ⟨er, her⟩ : ∃ er : Nat, (S.create x).2 = er := ⟨_, rfl⟩
  have QP : Hid (∀ W, Both w0 W p r S S [(w.heap.size, actO ⟨what, a, b, raw, n, .slice ad ln c⟩)] → Calls Tryz.prog 12 #[.pointer (some ⟨p, 0, none⟩), .string x] W fun e w' => e = .returned (.int .i64 (er : Int)) ∧ Both w0 w' p r S1 S [(w.heap.size, actO ⟨what, a, b, raw, n, .slice ad ln c⟩)]) := Lib.hid fun W hW => by
    rw [← her, ← hS1]
    exact hW.prog fun v hv hex hn => create_any hv x hxs HFT.out.weight HFT.out.used HFT.out.steps
  have QR : Hid (∀ W, Both w0 W p r S1 S [(w.heap.size, actO ⟨what, a, b, raw, n, .slice ad ln c⟩)] → Calls Tryz.prog 59 #[.pointer (some ⟨r, 0, none⟩), .string x] W fun e w' => e = .returned (.int .i64 (er : Int)) ∧ Both w0 w' p r S1 S1 [(w.heap.size, actO ⟨what, a, b, raw, n, .slice ad ln c⟩)]) := Lib.hid fun W hW => by
    rw [← her]
    exact Both.ref (T' := S1) hW fun M hM hex hn => hS1 ▸ refCreate_any hM x hxs HFT.out

  clear hx hy hk hm hf h
  unfold Deed.vals
  dsimp only
  go_enter Tryz.func15, Tryz.ntmps15
  go_upto_region 1 with fail
  have hw1' : w.alloc (.cells #[.int .u8 (what : Int), .int .u8 (a : Int), .int .u8 (b : Int), .string raw, .int .i16 n, .slice ad ln c] 35) = w1 := hw1.symm
  rw [hw1']
  refine Said.region (by kernel_rfl) (by kernel_rfl) (by kernel_rfl) [.is (.agg #[.int .u8 (what : Int), .int .u8 (a : Int), .int .u8 (b : Int), .string raw, .int .i16 n, .slice ad ln c]), .is (.pointer (some ⟨w.heap.size, 1, none⟩)), .is (.int .u8 (a : Int)), .is (.string x), .is (.agg #[.int .u8 (what : Int), .int .u8 (a : Int), .int .u8 (b : Int), .string raw, .int .i16 n, .slice ad ln c]), .is (.pointer (some ⟨w.heap.size, 2, none⟩)), .is (.int .u8 (b : Int)), .is (.string y), .is (.pointer (some ⟨w.heap.size, 3, none⟩)), .is (.string raw), .is (.pointer (some ⟨w.heap.size, 3, none⟩)), .is (.string raw), .is (.int .i64 (raw.size : Int)), .is (.int .i64 (m : Int)), .is (.string (raw.extract 0 m)), .is (.string x), .is (.string y), .is (.string (raw.extract 0 m))] ?_
  simp only [List.toList_toArray]
  iterate 3 (
    refine sq_pure (by rfl) (fun W hb _ => ?_) ?_
    · obtain ⟨b0, b1, b2, b3, b4, b5⟩ := HX.out W hb
      go_simp
    simp only [Act.put, List.setIfInBounds_toArray, List.set_cons_zero, List.set_cons_succ])
  refine sq_call (f := 18) (args := #[.agg #[.int .u8 (what : Int), .int .u8 (a : Int), .int .u8 (b : Int), .string raw, .int .i16 n, .slice ad ln c], .int .u8 (a : Int)]) (by rfl) (fun W => by go_simp) (fun W hb _ => Q1.out W) ?_
  simp only [Act.put, List.setIfInBounds_toArray, List.set_cons_zero, List.set_cons_succ]
  iterate 3 (
    refine sq_pure (by rfl) (fun W hb _ => ?_) ?_
    · obtain ⟨b0, b1, b2, b3, b4, b5⟩ := HX.out W hb
      go_simp
    simp only [Act.put, List.setIfInBounds_toArray, List.set_cons_zero, List.set_cons_succ])
  refine sq_call (f := 18) (args := #[.agg #[.int .u8 (what : Int), .int .u8 (a : Int), .int .u8 (b : Int), .string raw, .int .i16 n, .slice ad ln c], .int .u8 (b : Int)]) (by rfl) (fun W => by go_simp) (fun W hb _ => Q2.out W) ?_
  simp only [Act.put, List.setIfInBounds_toArray, List.set_cons_zero, List.set_cons_succ]
  iterate 10 (
    refine sq_pure (by rfl) (fun W hb _ => ?_) ?_
    · obtain ⟨b0, b1, b2, b3, b4, b5⟩ := HX.out W hb
      go_simp
    simp only [Act.put, List.setIfInBounds_toArray, List.set_cons_zero, List.set_cons_succ])
  refine sq_end (fun W2 hb2 _ => ?_)
  have HB2 : Hid (Both w0 W2 p r S S [(w.heap.size, actO ⟨what, a, b, raw, n, .slice ad ln c⟩)]) := Lib.hid (Both.next (hw1 ▸ hB1.out) hb2)
  have hA2 := HBX.out W2 (HB2.out.at (List.mem_cons_self ..))
  obtain ⟨z0, z1, z2, z3, z4, z5⟩ := hA2
  clear hb2 HX
  rcases hc with hc | hc
  · have m17 : (what : Int).tmod 17 = 0 := by rw [Int.tmod_eq_emod_of_nonneg (by omega)]; omega
    have m17' : (what : Int) % 17 = 0 := by omega
    clear hc
    go_wp2_with (first
      | (go_at_call 12; go_must (with_reducible refine (QP.out _ HB2.out).mono ?_); rintro e w3 ⟨rfl, hq⟩; have HB3 := Lib.hid hq; clear hq)
      | (go_at_call 59; go_must (with_reducible refine (QR.out _ HB3.out).mono ?_); rintro e w4 ⟨rfl, hq⟩; have HB4 := Lib.hid hq; clear hq))
    go_ret
    exact ⟨rfl, S1, HB4.out.less (fun _ hx => by cases hx), fun a b hab => hS1 ▸ (light_create hab x).mono (Nat.le_refl _) (Nat.le_add_right _ _)⟩
  · have m17 : (what : Int).tmod 17 = 1 := by rw [Int.tmod_eq_emod_of_nonneg (by omega)]; omega
    have m17' : (what : Int) % 17 = 1 := by omega
    clear hc
    go_wp2_with (first
      | (go_at_call 12; go_must (with_reducible refine (QP.out _ HB2.out).mono ?_); rintro e w3 ⟨rfl, hq⟩; have HB3 := Lib.hid hq; clear hq)
      | (go_at_call 59; go_must (with_reducible refine (QR.out _ HB3.out).mono ?_); rintro e w4 ⟨rfl, hq⟩; have HB4 := Lib.hid hq; clear hq))
    go_ret
    exact ⟨rfl, S1, HB4.out.less (fun _ hx => by cases hx), fun a b hab => hS1 ▸ (light_create hab x).mono (Nat.le_refl _) (Nat.le_add_right _ _)⟩

set_option maxHeartbeats 16000000 in
set_option maxRecDepth 100000 in
theorem does_sync {w0 w : World} {p r : Nat} {S : DS} {d : Deed} (h : Both w0 w p r S S []) (hf : S.Light 890 89000) (hd : d.ok) (hc : d.what % 17 = 7 ∨ d.what % 17 = 8) :
    Calls Tryz.prog 15 #[.agg d.vals, .pointer (some ⟨p, 0, none⟩), .pointer (some ⟨r, 0, none⟩)] w (DoesP w0 w p r S) := by
  have hB1 : Both w0 (w.alloc (.cells d.vals 35)) p r S S [(w.heap.size, actO d)] := h.own (below_alloc' (Below.refl _ w)) (heap_alloc_new w _) (Nat.le_refl _)
  have QN := Lib.hid (named_any d hd.2.2.2.2.2.2)
  have QS := Lib.hid (small_any d hd.2.2.2.2.2.2 hd.2.2.2.2.1 hd.2.2.2.2.2.1)
  obtain ⟨what, a, b, raw, n, lv⟩ := d
  obtain ⟨h1, h2, h3, h4, h5, h6, ad, ln, c, hlv⟩ := hd
  dsimp only at h1 h2 h3 h4 h5 h6 hlv hc hB1
  subst hlv
  have hB1 := Lib.hid hB1
  obtain ⟨w1, hw1⟩ : ∃ w1, w1 = w.alloc (.cells (Deed.vals ⟨what, a, b, raw, n, .slice ad ln c⟩) 35) := ⟨_, rfl⟩
  have hA1 : w1.heap[w.heap.size]? = some (.cells (Deed.vals ⟨what, a, b, raw, n, .slice ad ln c⟩) 35 (0, 0)) := by rw [hw1]; exact heap_alloc_new w _
  have HBX : Hid (∀ W : World, W.heap[w.heap.size]? = some (.cells (Deed.vals ⟨what, a, b, raw, n, .slice ad ln c⟩) 35 (0, 0)) → W.cell? ⟨w.heap.size, 0, none⟩ = some (.int .u8 (what : Int)) ∧ W.cell? ⟨w.heap.size, 1, none⟩ = some (.int .u8 (a : Int)) ∧ W.cell? ⟨w.heap.size, 2, none⟩ = some (.int .u8 (b : Int)) ∧ W.cell? ⟨w.heap.size, 3, none⟩ = some (.string raw) ∧ W.cell? ⟨w.heap.size, 4, none⟩ = some (.int .i16 n) ∧ W.cell? ⟨w.heap.size, 5, none⟩ = some (.slice ad ln c)) := Lib.hid fun W hW => ⟨by rw [cell_of_row W _ 0 _ _ _ hW]; rfl, by rw [cell_of_row W _ 1 _ _ _ hW]; rfl, by rw [cell_of_row W _ 2 _ _ _ hW]; rfl, by rw [cell_of_row W _ 3 _ _ _ hW]; rfl, by rw [cell_of_row W _ 4 _ _ _ hW]; rfl, by rw [cell_of_row W _ 5 _ _ _ hW]; rfl⟩
  have HX : Hid (∀ W, Below w1.heap.size w1 W → W.cell? ⟨w.heap.size, 0, none⟩ = some (.int .u8 (what : Int)) ∧ W.cell? ⟨w.heap.size, 1, none⟩ = some (.int .u8 (a : Int)) ∧ W.cell? ⟨w.heap.size, 2, none⟩ = some (.int .u8 (b : Int)) ∧ W.cell? ⟨w.heap.size, 3, none⟩ = some (.string raw) ∧ W.cell? ⟨w.heap.size, 4, none⟩ = some (.int .i16 n) ∧ W.cell? ⟨w.heap.size, 5, none⟩ = some (.slice ad ln c)) := Lib.hid fun W hW => HBX.out W ((hW.block _ (Array.getElem?_eq_some_iff.1 hA1).1).trans hA1)
  obtain ⟨x, hx⟩ : ∃ x, nameD raw a = x := ⟨_, rfl⟩
  obtain ⟨y, hy⟩ : ∃ y, nameD raw b = y := ⟨_, rfl⟩
  have hxs : x.size ≤ nameMax := by rw [← hx]; exact nameD_size h4 a
  have hys : y.size ≤ nameMax := by rw [← hy]; exact nameD_size h4 b
  have Q1 : Hid (∀ W, Calls Tryz.prog 18 #[.agg #[.int .u8 (what : Int), .int .u8 (a : Int), .int .u8 (b : Int), .string raw, .int .i16 n, .slice ad ln c], .int .u8 (a : Int)] W fun e w' => e = .returned (.string x) ∧ Below W.heap.size W w') := Lib.hid fun W => by rw [← hx]; exact QN.out a h2 W
  have Q2 : Hid (∀ W, Calls Tryz.prog 18 #[.agg #[.int .u8 (what : Int), .int .u8 (a : Int), .int .u8 (b : Int), .string raw, .int .i16 n, .slice ad ln c], .int .u8 (b : Int)] W fun e w' => e = .returned (.string y) ∧ Below W.heap.size W w') := Lib.hid fun W => by rw [← hy]; exact QN.out b h3 W
  obtain ⟨k, hk⟩ : ∃ k, smallD n = k := ⟨_, rfl⟩
  have hks := smallD_small h5 h6
  have hk3 := small3 h5 h6
  rw [hk] at hks hk3
  have QK : Hid (∀ W, Calls Tryz.prog 21 #[.agg #[.int .u8 (what : Int), .int .u8 (a : Int), .int .u8 (b : Int), .string raw, .int .i16 n, .slice ad ln c]] W fun e w' => e = .returned (.int .i64 k) ∧ Below W.heap.size W w') := Lib.hid fun W => by rw [← hk]; exact QS.out W
  clear QN QS
  obtain ⟨m, hm⟩ : ∃ m, min raw.size 20 = m := ⟨_, rfl⟩
  have hmi : min (raw.size : Int) 20 = (m : Int) := by omega
  have hmi2 : (if (20 : Int) < (raw.size : Int) then (20 : Int) else (raw.size : Int)) = (m : Int) := by split <;> omega
  have hmi3 : (if (raw.size : Int) < (20 : Int) then (raw.size : Int) else (20 : Int)) = (m : Int) := by split <;> omega
  have hmr : (m : Int) ≤ (raw.size : Int) := by omega
  have hm0 : (0 : Int) ≤ (m : Int) := by omega
  have hsz : (raw.extract 0 m).size ≤ 20 := by rw [ByteArray.size_extract]; omega
  have HFT := Lib.hid (light_fit2 hf (by decide) (by decide))
  have HLF := Lib.hid hf
  obtain ⟨S1, hS1⟩ : ∃ S1, (S.sync x).1 = S1 := ⟨_, rfl⟩
  obtain ⟨er, her⟩ : ∃ er : Nat, (S.sync x).2 = er := ⟨_, rfl⟩
  have QP : Hid (∀ W, Both w0 W p r S S [(w.heap.size, actO ⟨what, a, b, raw, n, .slice ad ln c⟩)] → Calls Tryz.prog 22 #[.pointer (some ⟨p, 0, none⟩), .string x] W fun e w' => e = .returned (.int .i64 (er : Int)) ∧ Both w0 w' p r S1 S [(w.heap.size, actO ⟨what, a, b, raw, n, .slice ad ln c⟩)]) := Lib.hid fun W hW => by
    rw [← her, ← hS1]
    exact hW.prog fun v hv hex hn => disk_sync hv x hxs HFT.out.weight HFT.out.used HFT.out.steps (Nat.le_trans (DS.Light.heft HFT.out _) (by decide))
  have QR : Hid (∀ W, Both w0 W p r S1 S [(w.heap.size, actO ⟨what, a, b, raw, n, .slice ad ln c⟩)] → Calls Tryz.prog 61 #[.pointer (some ⟨r, 0, none⟩), .string x] W fun e w' => e = .returned (.int .i64 (er : Int)) ∧ Both w0 w' p r S1 S1 [(w.heap.size, actO ⟨what, a, b, raw, n, .slice ad ln c⟩)]) := Lib.hid fun W hW => by
    rw [← her]
    exact Both.ref (T' := S1) hW fun M hM hex hn => hS1 ▸ refSync_any hM x HFT.out

  clear hx hy hk hm hf h
  unfold Deed.vals
  dsimp only
  go_enter Tryz.func15, Tryz.ntmps15
  go_upto_region 1 with fail
  have hw1' : w.alloc (.cells #[.int .u8 (what : Int), .int .u8 (a : Int), .int .u8 (b : Int), .string raw, .int .i16 n, .slice ad ln c] 35) = w1 := hw1.symm
  rw [hw1']
  refine Said.region (by kernel_rfl) (by kernel_rfl) (by kernel_rfl) [.is (.agg #[.int .u8 (what : Int), .int .u8 (a : Int), .int .u8 (b : Int), .string raw, .int .i16 n, .slice ad ln c]), .is (.pointer (some ⟨w.heap.size, 1, none⟩)), .is (.int .u8 (a : Int)), .is (.string x), .is (.agg #[.int .u8 (what : Int), .int .u8 (a : Int), .int .u8 (b : Int), .string raw, .int .i16 n, .slice ad ln c]), .is (.pointer (some ⟨w.heap.size, 2, none⟩)), .is (.int .u8 (b : Int)), .is (.string y), .is (.pointer (some ⟨w.heap.size, 3, none⟩)), .is (.string raw), .is (.pointer (some ⟨w.heap.size, 3, none⟩)), .is (.string raw), .is (.int .i64 (raw.size : Int)), .is (.int .i64 (m : Int)), .is (.string (raw.extract 0 m)), .is (.string x), .is (.string y), .is (.string (raw.extract 0 m))] ?_
  simp only [List.toList_toArray]
  iterate 3 (
    refine sq_pure (by rfl) (fun W hb _ => ?_) ?_
    · obtain ⟨b0, b1, b2, b3, b4, b5⟩ := HX.out W hb
      go_simp
    simp only [Act.put, List.setIfInBounds_toArray, List.set_cons_zero, List.set_cons_succ])
  refine sq_call (f := 18) (args := #[.agg #[.int .u8 (what : Int), .int .u8 (a : Int), .int .u8 (b : Int), .string raw, .int .i16 n, .slice ad ln c], .int .u8 (a : Int)]) (by rfl) (fun W => by go_simp) (fun W hb _ => Q1.out W) ?_
  simp only [Act.put, List.setIfInBounds_toArray, List.set_cons_zero, List.set_cons_succ]
  iterate 3 (
    refine sq_pure (by rfl) (fun W hb _ => ?_) ?_
    · obtain ⟨b0, b1, b2, b3, b4, b5⟩ := HX.out W hb
      go_simp
    simp only [Act.put, List.setIfInBounds_toArray, List.set_cons_zero, List.set_cons_succ])
  refine sq_call (f := 18) (args := #[.agg #[.int .u8 (what : Int), .int .u8 (a : Int), .int .u8 (b : Int), .string raw, .int .i16 n, .slice ad ln c], .int .u8 (b : Int)]) (by rfl) (fun W => by go_simp) (fun W hb _ => Q2.out W) ?_
  simp only [Act.put, List.setIfInBounds_toArray, List.set_cons_zero, List.set_cons_succ]
  iterate 10 (
    refine sq_pure (by rfl) (fun W hb _ => ?_) ?_
    · obtain ⟨b0, b1, b2, b3, b4, b5⟩ := HX.out W hb
      go_simp
    simp only [Act.put, List.setIfInBounds_toArray, List.set_cons_zero, List.set_cons_succ])
  refine sq_end (fun W2 hb2 _ => ?_)
  have HB2 : Hid (Both w0 W2 p r S S [(w.heap.size, actO ⟨what, a, b, raw, n, .slice ad ln c⟩)]) := Lib.hid (Both.next (hw1 ▸ hB1.out) hb2)
  have hA2 := HBX.out W2 (HB2.out.at (List.mem_cons_self ..))
  obtain ⟨z0, z1, z2, z3, z4, z5⟩ := hA2
  clear hb2 HX
  rcases hc with hc | hc
  · have m17 : (what : Int).tmod 17 = 7 := by rw [Int.tmod_eq_emod_of_nonneg (by omega)]; omega
    have m17' : (what : Int) % 17 = 7 := by omega
    clear hc
    go_wp2_with (first
      | (go_at_call 22; go_must (with_reducible refine (QP.out _ HB2.out).mono ?_); rintro e w3 ⟨rfl, hq⟩; have HB3 := Lib.hid hq; clear hq)
      | (go_at_call 61; go_must (with_reducible refine (QR.out _ HB3.out).mono ?_); rintro e w4 ⟨rfl, hq⟩; have HB4 := Lib.hid hq; clear hq))
    go_ret
    exact ⟨rfl, S1, HB4.out.less (fun _ hx => by cases hx), fun a b hab => hS1 ▸ (light_sync hab x).mono (Nat.le_refl _) (Nat.le_add_right _ _)⟩
  · have m17 : (what : Int).tmod 17 = 8 := by rw [Int.tmod_eq_emod_of_nonneg (by omega)]; omega
    have m17' : (what : Int) % 17 = 8 := by omega
    clear hc
    go_wp2_with (first
      | (go_at_call 22; go_must (with_reducible refine (QP.out _ HB2.out).mono ?_); rintro e w3 ⟨rfl, hq⟩; have HB3 := Lib.hid hq; clear hq)
      | (go_at_call 61; go_must (with_reducible refine (QR.out _ HB3.out).mono ?_); rintro e w4 ⟨rfl, hq⟩; have HB4 := Lib.hid hq; clear hq))
    go_ret
    exact ⟨rfl, S1, HB4.out.less (fun _ hx => by cases hx), fun a b hab => hS1 ▸ (light_sync hab x).mono (Nat.le_refl _) (Nat.le_add_right _ _)⟩

set_option maxHeartbeats 16000000 in
set_option maxRecDepth 100000 in
theorem does_syncDir {w0 w : World} {p r : Nat} {S : DS} {d : Deed} (h : Both w0 w p r S S []) (hf : S.Light 890 89000) (hd : d.ok) (hc : d.what % 17 = 9 ∨ d.what % 17 = 10) :
    Calls Tryz.prog 15 #[.agg d.vals, .pointer (some ⟨p, 0, none⟩), .pointer (some ⟨r, 0, none⟩)] w (DoesP w0 w p r S) := by
  have hB1 : Both w0 (w.alloc (.cells d.vals 35)) p r S S [(w.heap.size, actO d)] := h.own (below_alloc' (Below.refl _ w)) (heap_alloc_new w _) (Nat.le_refl _)
  have QN := Lib.hid (named_any d hd.2.2.2.2.2.2)
  have QS := Lib.hid (small_any d hd.2.2.2.2.2.2 hd.2.2.2.2.1 hd.2.2.2.2.2.1)
  obtain ⟨what, a, b, raw, n, lv⟩ := d
  obtain ⟨h1, h2, h3, h4, h5, h6, ad, ln, c, hlv⟩ := hd
  dsimp only at h1 h2 h3 h4 h5 h6 hlv hc hB1
  subst hlv
  have hB1 := Lib.hid hB1
  obtain ⟨w1, hw1⟩ : ∃ w1, w1 = w.alloc (.cells (Deed.vals ⟨what, a, b, raw, n, .slice ad ln c⟩) 35) := ⟨_, rfl⟩
  have hA1 : w1.heap[w.heap.size]? = some (.cells (Deed.vals ⟨what, a, b, raw, n, .slice ad ln c⟩) 35 (0, 0)) := by rw [hw1]; exact heap_alloc_new w _
  have HBX : Hid (∀ W : World, W.heap[w.heap.size]? = some (.cells (Deed.vals ⟨what, a, b, raw, n, .slice ad ln c⟩) 35 (0, 0)) → W.cell? ⟨w.heap.size, 0, none⟩ = some (.int .u8 (what : Int)) ∧ W.cell? ⟨w.heap.size, 1, none⟩ = some (.int .u8 (a : Int)) ∧ W.cell? ⟨w.heap.size, 2, none⟩ = some (.int .u8 (b : Int)) ∧ W.cell? ⟨w.heap.size, 3, none⟩ = some (.string raw) ∧ W.cell? ⟨w.heap.size, 4, none⟩ = some (.int .i16 n) ∧ W.cell? ⟨w.heap.size, 5, none⟩ = some (.slice ad ln c)) := Lib.hid fun W hW => ⟨by rw [cell_of_row W _ 0 _ _ _ hW]; rfl, by rw [cell_of_row W _ 1 _ _ _ hW]; rfl, by rw [cell_of_row W _ 2 _ _ _ hW]; rfl, by rw [cell_of_row W _ 3 _ _ _ hW]; rfl, by rw [cell_of_row W _ 4 _ _ _ hW]; rfl, by rw [cell_of_row W _ 5 _ _ _ hW]; rfl⟩
  have HX : Hid (∀ W, Below w1.heap.size w1 W → W.cell? ⟨w.heap.size, 0, none⟩ = some (.int .u8 (what : Int)) ∧ W.cell? ⟨w.heap.size, 1, none⟩ = some (.int .u8 (a : Int)) ∧ W.cell? ⟨w.heap.size, 2, none⟩ = some (.int .u8 (b : Int)) ∧ W.cell? ⟨w.heap.size, 3, none⟩ = some (.string raw) ∧ W.cell? ⟨w.heap.size, 4, none⟩ = some (.int .i16 n) ∧ W.cell? ⟨w.heap.size, 5, none⟩ = some (.slice ad ln c)) := Lib.hid fun W hW => HBX.out W ((hW.block _ (Array.getElem?_eq_some_iff.1 hA1).1).trans hA1)
  obtain ⟨x, hx⟩ : ∃ x, nameD raw a = x := ⟨_, rfl⟩
  obtain ⟨y, hy⟩ : ∃ y, nameD raw b = y := ⟨_, rfl⟩
  have hxs : x.size ≤ nameMax := by rw [← hx]; exact nameD_size h4 a
  have hys : y.size ≤ nameMax := by rw [← hy]; exact nameD_size h4 b
  have Q1 : Hid (∀ W, Calls Tryz.prog 18 #[.agg #[.int .u8 (what : Int), .int .u8 (a : Int), .int .u8 (b : Int), .string raw, .int .i16 n, .slice ad ln c], .int .u8 (a : Int)] W fun e w' => e = .returned (.string x) ∧ Below W.heap.size W w') := Lib.hid fun W => by rw [← hx]; exact QN.out a h2 W
  have Q2 : Hid (∀ W, Calls Tryz.prog 18 #[.agg #[.int .u8 (what : Int), .int .u8 (a : Int), .int .u8 (b : Int), .string raw, .int .i16 n, .slice ad ln c], .int .u8 (b : Int)] W fun e w' => e = .returned (.string y) ∧ Below W.heap.size W w') := Lib.hid fun W => by rw [← hy]; exact QN.out b h3 W
  obtain ⟨k, hk⟩ : ∃ k, smallD n = k := ⟨_, rfl⟩
  have hks := smallD_small h5 h6
  have hk3 := small3 h5 h6
  rw [hk] at hks hk3
  have QK : Hid (∀ W, Calls Tryz.prog 21 #[.agg #[.int .u8 (what : Int), .int .u8 (a : Int), .int .u8 (b : Int), .string raw, .int .i16 n, .slice ad ln c]] W fun e w' => e = .returned (.int .i64 k) ∧ Below W.heap.size W w') := Lib.hid fun W => by rw [← hk]; exact QS.out W
  clear QN QS
  obtain ⟨m, hm⟩ : ∃ m, min raw.size 20 = m := ⟨_, rfl⟩
  have hmi : min (raw.size : Int) 20 = (m : Int) := by omega
  have hmi2 : (if (20 : Int) < (raw.size : Int) then (20 : Int) else (raw.size : Int)) = (m : Int) := by split <;> omega
  have hmi3 : (if (raw.size : Int) < (20 : Int) then (raw.size : Int) else (20 : Int)) = (m : Int) := by split <;> omega
  have hmr : (m : Int) ≤ (raw.size : Int) := by omega
  have hm0 : (0 : Int) ≤ (m : Int) := by omega
  have hsz : (raw.extract 0 m).size ≤ 20 := by rw [ByteArray.size_extract]; omega
  have HFT := Lib.hid (light_fit2 hf (by decide) (by decide))
  have HLF := Lib.hid hf
  obtain ⟨S1, hS1⟩ : ∃ S1, (S.syncDir).1 = S1 := ⟨_, rfl⟩
  obtain ⟨er, her⟩ : ∃ er : Nat, (S.syncDir).2 = er := ⟨_, rfl⟩
  have QP : Hid (∀ W, Both w0 W p r S S [(w.heap.size, actO ⟨what, a, b, raw, n, .slice ad ln c⟩)] → Calls Tryz.prog 24 #[.pointer (some ⟨p, 0, none⟩)] W fun e w' => e = .returned (.int .i64 (er : Int)) ∧ Both w0 w' p r S1 S [(w.heap.size, actO ⟨what, a, b, raw, n, .slice ad ln c⟩)]) := Lib.hid fun W hW => by
    rw [← her, ← hS1]
    exact hW.prog fun v hv hex hn => syncDir_any hv HFT.out.weight HFT.out.steps
  have QR : Hid (∀ W, Both w0 W p r S1 S [(w.heap.size, actO ⟨what, a, b, raw, n, .slice ad ln c⟩)] → Calls Tryz.prog 62 #[.pointer (some ⟨r, 0, none⟩)] W fun e w' => e = .returned (.int .i64 (er : Int)) ∧ Both w0 w' p r S1 S1 [(w.heap.size, actO ⟨what, a, b, raw, n, .slice ad ln c⟩)]) := Lib.hid fun W hW => by
    rw [← her]
    exact Both.ref (T' := S1) hW fun M hM hex hn => hS1 ▸ refSyncDir_any hM HFT.out

  clear hx hy hk hm hf h
  unfold Deed.vals
  dsimp only
  go_enter Tryz.func15, Tryz.ntmps15
  go_upto_region 1 with fail
  have hw1' : w.alloc (.cells #[.int .u8 (what : Int), .int .u8 (a : Int), .int .u8 (b : Int), .string raw, .int .i16 n, .slice ad ln c] 35) = w1 := hw1.symm
  rw [hw1']
  refine Said.region (by kernel_rfl) (by kernel_rfl) (by kernel_rfl) [.is (.agg #[.int .u8 (what : Int), .int .u8 (a : Int), .int .u8 (b : Int), .string raw, .int .i16 n, .slice ad ln c]), .is (.pointer (some ⟨w.heap.size, 1, none⟩)), .is (.int .u8 (a : Int)), .is (.string x), .is (.agg #[.int .u8 (what : Int), .int .u8 (a : Int), .int .u8 (b : Int), .string raw, .int .i16 n, .slice ad ln c]), .is (.pointer (some ⟨w.heap.size, 2, none⟩)), .is (.int .u8 (b : Int)), .is (.string y), .is (.pointer (some ⟨w.heap.size, 3, none⟩)), .is (.string raw), .is (.pointer (some ⟨w.heap.size, 3, none⟩)), .is (.string raw), .is (.int .i64 (raw.size : Int)), .is (.int .i64 (m : Int)), .is (.string (raw.extract 0 m)), .is (.string x), .is (.string y), .is (.string (raw.extract 0 m))] ?_
  simp only [List.toList_toArray]
  iterate 3 (
    refine sq_pure (by rfl) (fun W hb _ => ?_) ?_
    · obtain ⟨b0, b1, b2, b3, b4, b5⟩ := HX.out W hb
      go_simp
    simp only [Act.put, List.setIfInBounds_toArray, List.set_cons_zero, List.set_cons_succ])
  refine sq_call (f := 18) (args := #[.agg #[.int .u8 (what : Int), .int .u8 (a : Int), .int .u8 (b : Int), .string raw, .int .i16 n, .slice ad ln c], .int .u8 (a : Int)]) (by rfl) (fun W => by go_simp) (fun W hb _ => Q1.out W) ?_
  simp only [Act.put, List.setIfInBounds_toArray, List.set_cons_zero, List.set_cons_succ]
  iterate 3 (
    refine sq_pure (by rfl) (fun W hb _ => ?_) ?_
    · obtain ⟨b0, b1, b2, b3, b4, b5⟩ := HX.out W hb
      go_simp
    simp only [Act.put, List.setIfInBounds_toArray, List.set_cons_zero, List.set_cons_succ])
  refine sq_call (f := 18) (args := #[.agg #[.int .u8 (what : Int), .int .u8 (a : Int), .int .u8 (b : Int), .string raw, .int .i16 n, .slice ad ln c], .int .u8 (b : Int)]) (by rfl) (fun W => by go_simp) (fun W hb _ => Q2.out W) ?_
  simp only [Act.put, List.setIfInBounds_toArray, List.set_cons_zero, List.set_cons_succ]
  iterate 10 (
    refine sq_pure (by rfl) (fun W hb _ => ?_) ?_
    · obtain ⟨b0, b1, b2, b3, b4, b5⟩ := HX.out W hb
      go_simp
    simp only [Act.put, List.setIfInBounds_toArray, List.set_cons_zero, List.set_cons_succ])
  refine sq_end (fun W2 hb2 _ => ?_)
  have HB2 : Hid (Both w0 W2 p r S S [(w.heap.size, actO ⟨what, a, b, raw, n, .slice ad ln c⟩)]) := Lib.hid (Both.next (hw1 ▸ hB1.out) hb2)
  have hA2 := HBX.out W2 (HB2.out.at (List.mem_cons_self ..))
  obtain ⟨z0, z1, z2, z3, z4, z5⟩ := hA2
  clear hb2 HX
  rcases hc with hc | hc
  · have m17 : (what : Int).tmod 17 = 9 := by rw [Int.tmod_eq_emod_of_nonneg (by omega)]; omega
    have m17' : (what : Int) % 17 = 9 := by omega
    clear hc
    go_wp2_with (first
      | (go_at_call 24; go_must (with_reducible refine (QP.out _ HB2.out).mono ?_); rintro e w3 ⟨rfl, hq⟩; have HB3 := Lib.hid hq; clear hq)
      | (go_at_call 62; go_must (with_reducible refine (QR.out _ HB3.out).mono ?_); rintro e w4 ⟨rfl, hq⟩; have HB4 := Lib.hid hq; clear hq))
    go_ret
    exact ⟨rfl, S1, HB4.out.less (fun _ hx => by cases hx), fun a b hab => hS1 ▸ (light_syncDir hab).mono (Nat.le_refl _) (Nat.le_add_right _ _)⟩
  · have m17 : (what : Int).tmod 17 = 10 := by rw [Int.tmod_eq_emod_of_nonneg (by omega)]; omega
    have m17' : (what : Int) % 17 = 10 := by omega
    clear hc
    go_wp2_with (first
      | (go_at_call 24; go_must (with_reducible refine (QP.out _ HB2.out).mono ?_); rintro e w3 ⟨rfl, hq⟩; have HB3 := Lib.hid hq; clear hq)
      | (go_at_call 62; go_must (with_reducible refine (QR.out _ HB3.out).mono ?_); rintro e w4 ⟨rfl, hq⟩; have HB4 := Lib.hid hq; clear hq))
    go_ret
    exact ⟨rfl, S1, HB4.out.less (fun _ hx => by cases hx), fun a b hab => hS1 ▸ (light_syncDir hab).mono (Nat.le_refl _) (Nat.le_add_right _ _)⟩

set_option maxHeartbeats 16000000 in
set_option maxRecDepth 100000 in
theorem does_rename {w0 w : World} {p r : Nat} {S : DS} {d : Deed} (h : Both w0 w p r S S []) (hf : S.Light 890 89000) (hd : d.ok) (hc : d.what % 17 = 11) :
    Calls Tryz.prog 15 #[.agg d.vals, .pointer (some ⟨p, 0, none⟩), .pointer (some ⟨r, 0, none⟩)] w (DoesP w0 w p r S) := by
  have hB1 : Both w0 (w.alloc (.cells d.vals 35)) p r S S [(w.heap.size, actO d)] := h.own (below_alloc' (Below.refl _ w)) (heap_alloc_new w _) (Nat.le_refl _)
  have QN := Lib.hid (named_any d hd.2.2.2.2.2.2)
  have QS := Lib.hid (small_any d hd.2.2.2.2.2.2 hd.2.2.2.2.1 hd.2.2.2.2.2.1)
  obtain ⟨what, a, b, raw, n, lv⟩ := d
  obtain ⟨h1, h2, h3, h4, h5, h6, ad, ln, c, hlv⟩ := hd
  dsimp only at h1 h2 h3 h4 h5 h6 hlv hc hB1
  subst hlv
  have hB1 := Lib.hid hB1
  obtain ⟨w1, hw1⟩ : ∃ w1, w1 = w.alloc (.cells (Deed.vals ⟨what, a, b, raw, n, .slice ad ln c⟩) 35) := ⟨_, rfl⟩
  have hA1 : w1.heap[w.heap.size]? = some (.cells (Deed.vals ⟨what, a, b, raw, n, .slice ad ln c⟩) 35 (0, 0)) := by rw [hw1]; exact heap_alloc_new w _
  have HBX : Hid (∀ W : World, W.heap[w.heap.size]? = some (.cells (Deed.vals ⟨what, a, b, raw, n, .slice ad ln c⟩) 35 (0, 0)) → W.cell? ⟨w.heap.size, 0, none⟩ = some (.int .u8 (what : Int)) ∧ W.cell? ⟨w.heap.size, 1, none⟩ = some (.int .u8 (a : Int)) ∧ W.cell? ⟨w.heap.size, 2, none⟩ = some (.int .u8 (b : Int)) ∧ W.cell? ⟨w.heap.size, 3, none⟩ = some (.string raw) ∧ W.cell? ⟨w.heap.size, 4, none⟩ = some (.int .i16 n) ∧ W.cell? ⟨w.heap.size, 5, none⟩ = some (.slice ad ln c)) := Lib.hid fun W hW => ⟨by rw [cell_of_row W _ 0 _ _ _ hW]; rfl, by rw [cell_of_row W _ 1 _ _ _ hW]; rfl, by rw [cell_of_row W _ 2 _ _ _ hW]; rfl, by rw [cell_of_row W _ 3 _ _ _ hW]; rfl, by rw [cell_of_row W _ 4 _ _ _ hW]; rfl, by rw [cell_of_row W _ 5 _ _ _ hW]; rfl⟩
  have HX : Hid (∀ W, Below w1.heap.size w1 W → W.cell? ⟨w.heap.size, 0, none⟩ = some (.int .u8 (what : Int)) ∧ W.cell? ⟨w.heap.size, 1, none⟩ = some (.int .u8 (a : Int)) ∧ W.cell? ⟨w.heap.size, 2, none⟩ = some (.int .u8 (b : Int)) ∧ W.cell? ⟨w.heap.size, 3, none⟩ = some (.string raw) ∧ W.cell? ⟨w.heap.size, 4, none⟩ = some (.int .i16 n) ∧ W.cell? ⟨w.heap.size, 5, none⟩ = some (.slice ad ln c)) := Lib.hid fun W hW => HBX.out W ((hW.block _ (Array.getElem?_eq_some_iff.1 hA1).1).trans hA1)
  obtain ⟨x, hx⟩ : ∃ x, nameD raw a = x := ⟨_, rfl⟩
  obtain ⟨y, hy⟩ : ∃ y, nameD raw b = y := ⟨_, rfl⟩
  have hxs : x.size ≤ nameMax := by rw [← hx]; exact nameD_size h4 a
  have hys : y.size ≤ nameMax := by rw [← hy]; exact nameD_size h4 b
  have Q1 : Hid (∀ W, Calls Tryz.prog 18 #[.agg #[.int .u8 (what : Int), .int .u8 (a : Int), .int .u8 (b : Int), .string raw, .int .i16 n, .slice ad ln c], .int .u8 (a : Int)] W fun e w' => e = .returned (.string x) ∧ Below W.heap.size W w') := Lib.hid fun W => by rw [← hx]; exact QN.out a h2 W
  have Q2 : Hid (∀ W, Calls Tryz.prog 18 #[.agg #[.int .u8 (what : Int), .int .u8 (a : Int), .int .u8 (b : Int), .string raw, .int .i16 n, .slice ad ln c], .int .u8 (b : Int)] W fun e w' => e = .returned (.string y) ∧ Below W.heap.size W w') := Lib.hid fun W => by rw [← hy]; exact QN.out b h3 W
  obtain ⟨k, hk⟩ : ∃ k, smallD n = k := ⟨_, rfl⟩
  have hks := smallD_small h5 h6
  have hk3 := small3 h5 h6
  rw [hk] at hks hk3
  have QK : Hid (∀ W, Calls Tryz.prog 21 #[.agg #[.int .u8 (what : Int), .int .u8 (a : Int), .int .u8 (b : Int), .string raw, .int .i16 n, .slice ad ln c]] W fun e w' => e = .returned (.int .i64 k) ∧ Below W.heap.size W w') := Lib.hid fun W => by rw [← hk]; exact QS.out W
  clear QN QS
  obtain ⟨m, hm⟩ : ∃ m, min raw.size 20 = m := ⟨_, rfl⟩
  have hmi : min (raw.size : Int) 20 = (m : Int) := by omega
  have hmi2 : (if (20 : Int) < (raw.size : Int) then (20 : Int) else (raw.size : Int)) = (m : Int) := by split <;> omega
  have hmi3 : (if (raw.size : Int) < (20 : Int) then (raw.size : Int) else (20 : Int)) = (m : Int) := by split <;> omega
  have hmr : (m : Int) ≤ (raw.size : Int) := by omega
  have hm0 : (0 : Int) ≤ (m : Int) := by omega
  have hsz : (raw.extract 0 m).size ≤ 20 := by rw [ByteArray.size_extract]; omega
  have HFT := Lib.hid (light_fit2 hf (by decide) (by decide))
  have HLF := Lib.hid hf
  obtain ⟨S1, hS1⟩ : ∃ S1, (S.rename x y).1 = S1 := ⟨_, rfl⟩
  obtain ⟨er, her⟩ : ∃ er : Nat, (S.rename x y).2 = er := ⟨_, rfl⟩
  have QP : Hid (∀ W, Both w0 W p r S S [(w.heap.size, actO ⟨what, a, b, raw, n, .slice ad ln c⟩)] → Calls Tryz.prog 26 #[.pointer (some ⟨p, 0, none⟩), .string x, .string y] W fun e w' => e = .returned (.int .i64 (er : Int)) ∧ Both w0 w' p r S1 S [(w.heap.size, actO ⟨what, a, b, raw, n, .slice ad ln c⟩)]) := Lib.hid fun W hW => by
    rw [← her, ← hS1]
    exact hW.prog fun v hv hex hn => rename_any hv x y hxs hys HFT.out.weight HFT.out.used HFT.out.steps
  have QR : Hid (∀ W, Both w0 W p r S1 S [(w.heap.size, actO ⟨what, a, b, raw, n, .slice ad ln c⟩)] → Calls Tryz.prog 63 #[.pointer (some ⟨r, 0, none⟩), .string x, .string y] W fun e w' => e = .returned (.int .i64 (er : Int)) ∧ Both w0 w' p r S1 S1 [(w.heap.size, actO ⟨what, a, b, raw, n, .slice ad ln c⟩)]) := Lib.hid fun W hW => by
    rw [← her]
    exact Both.ref (T' := S1) hW fun M hM hex hn => hS1 ▸ refRename_any hM x y hys HFT.out

  clear hx hy hk hm hf h
  unfold Deed.vals
  dsimp only
  go_enter Tryz.func15, Tryz.ntmps15
  go_upto_region 1 with fail
  have hw1' : w.alloc (.cells #[.int .u8 (what : Int), .int .u8 (a : Int), .int .u8 (b : Int), .string raw, .int .i16 n, .slice ad ln c] 35) = w1 := hw1.symm
  rw [hw1']
  refine Said.region (by kernel_rfl) (by kernel_rfl) (by kernel_rfl) [.is (.agg #[.int .u8 (what : Int), .int .u8 (a : Int), .int .u8 (b : Int), .string raw, .int .i16 n, .slice ad ln c]), .is (.pointer (some ⟨w.heap.size, 1, none⟩)), .is (.int .u8 (a : Int)), .is (.string x), .is (.agg #[.int .u8 (what : Int), .int .u8 (a : Int), .int .u8 (b : Int), .string raw, .int .i16 n, .slice ad ln c]), .is (.pointer (some ⟨w.heap.size, 2, none⟩)), .is (.int .u8 (b : Int)), .is (.string y), .is (.pointer (some ⟨w.heap.size, 3, none⟩)), .is (.string raw), .is (.pointer (some ⟨w.heap.size, 3, none⟩)), .is (.string raw), .is (.int .i64 (raw.size : Int)), .is (.int .i64 (m : Int)), .is (.string (raw.extract 0 m)), .is (.string x), .is (.string y), .is (.string (raw.extract 0 m))] ?_
  simp only [List.toList_toArray]
  iterate 3 (
    refine sq_pure (by rfl) (fun W hb _ => ?_) ?_
    · obtain ⟨b0, b1, b2, b3, b4, b5⟩ := HX.out W hb
      go_simp
    simp only [Act.put, List.setIfInBounds_toArray, List.set_cons_zero, List.set_cons_succ])
  refine sq_call (f := 18) (args := #[.agg #[.int .u8 (what : Int), .int .u8 (a : Int), .int .u8 (b : Int), .string raw, .int .i16 n, .slice ad ln c], .int .u8 (a : Int)]) (by rfl) (fun W => by go_simp) (fun W hb _ => Q1.out W) ?_
  simp only [Act.put, List.setIfInBounds_toArray, List.set_cons_zero, List.set_cons_succ]
  iterate 3 (
    refine sq_pure (by rfl) (fun W hb _ => ?_) ?_
    · obtain ⟨b0, b1, b2, b3, b4, b5⟩ := HX.out W hb
      go_simp
    simp only [Act.put, List.setIfInBounds_toArray, List.set_cons_zero, List.set_cons_succ])
  refine sq_call (f := 18) (args := #[.agg #[.int .u8 (what : Int), .int .u8 (a : Int), .int .u8 (b : Int), .string raw, .int .i16 n, .slice ad ln c], .int .u8 (b : Int)]) (by rfl) (fun W => by go_simp) (fun W hb _ => Q2.out W) ?_
  simp only [Act.put, List.setIfInBounds_toArray, List.set_cons_zero, List.set_cons_succ]
  iterate 10 (
    refine sq_pure (by rfl) (fun W hb _ => ?_) ?_
    · obtain ⟨b0, b1, b2, b3, b4, b5⟩ := HX.out W hb
      go_simp
    simp only [Act.put, List.setIfInBounds_toArray, List.set_cons_zero, List.set_cons_succ])
  refine sq_end (fun W2 hb2 _ => ?_)
  have HB2 : Hid (Both w0 W2 p r S S [(w.heap.size, actO ⟨what, a, b, raw, n, .slice ad ln c⟩)]) := Lib.hid (Both.next (hw1 ▸ hB1.out) hb2)
  have hA2 := HBX.out W2 (HB2.out.at (List.mem_cons_self ..))
  obtain ⟨z0, z1, z2, z3, z4, z5⟩ := hA2
  clear hb2 HX
  have m17 : (what : Int).tmod 17 = 11 := by rw [Int.tmod_eq_emod_of_nonneg (by omega)]; omega
  have m17' : (what : Int) % 17 = 11 := by omega
  clear hc
  go_wp2_with (first
    | (go_at_call 26; go_must (with_reducible refine (QP.out _ HB2.out).mono ?_); rintro e w3 ⟨rfl, hq⟩; have HB3 := Lib.hid hq; clear hq)
    | (go_at_call 63; go_must (with_reducible refine (QR.out _ HB3.out).mono ?_); rintro e w4 ⟨rfl, hq⟩; have HB4 := Lib.hid hq; clear hq))
  go_ret
  exact ⟨rfl, S1, HB4.out.less (fun _ hx => by cases hx), fun a b hab => hS1 ▸ (light_rename hab x y).mono (Nat.le_refl _) (Nat.le_add_right _ _)⟩

set_option maxHeartbeats 16000000 in
set_option maxRecDepth 100000 in
theorem does_remove {w0 w : World} {p r : Nat} {S : DS} {d : Deed} (h : Both w0 w p r S S []) (hf : S.Light 890 89000) (hd : d.ok) (hc : d.what % 17 = 12) :
    Calls Tryz.prog 15 #[.agg d.vals, .pointer (some ⟨p, 0, none⟩), .pointer (some ⟨r, 0, none⟩)] w (DoesP w0 w p r S) := by
  have hB1 : Both w0 (w.alloc (.cells d.vals 35)) p r S S [(w.heap.size, actO d)] := h.own (below_alloc' (Below.refl _ w)) (heap_alloc_new w _) (Nat.le_refl _)
  have QN := Lib.hid (named_any d hd.2.2.2.2.2.2)
  have QS := Lib.hid (small_any d hd.2.2.2.2.2.2 hd.2.2.2.2.1 hd.2.2.2.2.2.1)
  obtain ⟨what, a, b, raw, n, lv⟩ := d
  obtain ⟨h1, h2, h3, h4, h5, h6, ad, ln, c, hlv⟩ := hd
  dsimp only at h1 h2 h3 h4 h5 h6 hlv hc hB1
  subst hlv
  have hB1 := Lib.hid hB1
  obtain ⟨w1, hw1⟩ : ∃ w1, w1 = w.alloc (.cells (Deed.vals ⟨what, a, b, raw, n, .slice ad ln c⟩) 35) := ⟨_, rfl⟩
  have hA1 : w1.heap[w.heap.size]? = some (.cells (Deed.vals ⟨what, a, b, raw, n, .slice ad ln c⟩) 35 (0, 0)) := by rw [hw1]; exact heap_alloc_new w _
  have HBX : Hid (∀ W : World, W.heap[w.heap.size]? = some (.cells (Deed.vals ⟨what, a, b, raw, n, .slice ad ln c⟩) 35 (0, 0)) → W.cell? ⟨w.heap.size, 0, none⟩ = some (.int .u8 (what : Int)) ∧ W.cell? ⟨w.heap.size, 1, none⟩ = some (.int .u8 (a : Int)) ∧ W.cell? ⟨w.heap.size, 2, none⟩ = some (.int .u8 (b : Int)) ∧ W.cell? ⟨w.heap.size, 3, none⟩ = some (.string raw) ∧ W.cell? ⟨w.heap.size, 4, none⟩ = some (.int .i16 n) ∧ W.cell? ⟨w.heap.size, 5, none⟩ = some (.slice ad ln c)) := Lib.hid fun W hW => ⟨by rw [cell_of_row W _ 0 _ _ _ hW]; rfl, by rw [cell_of_row W _ 1 _ _ _ hW]; rfl, by rw [cell_of_row W _ 2 _ _ _ hW]; rfl, by rw [cell_of_row W _ 3 _ _ _ hW]; rfl, by rw [cell_of_row W _ 4 _ _ _ hW]; rfl, by rw [cell_of_row W _ 5 _ _ _ hW]; rfl⟩
  have HX : Hid (∀ W, Below w1.heap.size w1 W → W.cell? ⟨w.heap.size, 0, none⟩ = some (.int .u8 (what : Int)) ∧ W.cell? ⟨w.heap.size, 1, none⟩ = some (.int .u8 (a : Int)) ∧ W.cell? ⟨w.heap.size, 2, none⟩ = some (.int .u8 (b : Int)) ∧ W.cell? ⟨w.heap.size, 3, none⟩ = some (.string raw) ∧ W.cell? ⟨w.heap.size, 4, none⟩ = some (.int .i16 n) ∧ W.cell? ⟨w.heap.size, 5, none⟩ = some (.slice ad ln c)) := Lib.hid fun W hW => HBX.out W ((hW.block _ (Array.getElem?_eq_some_iff.1 hA1).1).trans hA1)
  obtain ⟨x, hx⟩ : ∃ x, nameD raw a = x := ⟨_, rfl⟩
  obtain ⟨y, hy⟩ : ∃ y, nameD raw b = y := ⟨_, rfl⟩
  have hxs : x.size ≤ nameMax := by rw [← hx]; exact nameD_size h4 a
  have hys : y.size ≤ nameMax := by rw [← hy]; exact nameD_size h4 b
  have Q1 : Hid (∀ W, Calls Tryz.prog 18 #[.agg #[.int .u8 (what : Int), .int .u8 (a : Int), .int .u8 (b : Int), .string raw, .int .i16 n, .slice ad ln c], .int .u8 (a : Int)] W fun e w' => e = .returned (.string x) ∧ Below W.heap.size W w') := Lib.hid fun W => by rw [← hx]; exact QN.out a h2 W
  have Q2 : Hid (∀ W, Calls Tryz.prog 18 #[.agg #[.int .u8 (what : Int), .int .u8 (a : Int), .int .u8 (b : Int), .string raw, .int .i16 n, .slice ad ln c], .int .u8 (b : Int)] W fun e w' => e = .returned (.string y) ∧ Below W.heap.size W w') := Lib.hid fun W => by rw [← hy]; exact QN.out b h3 W
  obtain ⟨k, hk⟩ : ∃ k, smallD n = k := ⟨_, rfl⟩
  have hks := smallD_small h5 h6
  have hk3 := small3 h5 h6
  rw [hk] at hks hk3
  have QK : Hid (∀ W, Calls Tryz.prog 21 #[.agg #[.int .u8 (what : Int), .int .u8 (a : Int), .int .u8 (b : Int), .string raw, .int .i16 n, .slice ad ln c]] W fun e w' => e = .returned (.int .i64 k) ∧ Below W.heap.size W w') := Lib.hid fun W => by rw [← hk]; exact QS.out W
  clear QN QS
  obtain ⟨m, hm⟩ : ∃ m, min raw.size 20 = m := ⟨_, rfl⟩
  have hmi : min (raw.size : Int) 20 = (m : Int) := by omega
  have hmi2 : (if (20 : Int) < (raw.size : Int) then (20 : Int) else (raw.size : Int)) = (m : Int) := by split <;> omega
  have hmi3 : (if (raw.size : Int) < (20 : Int) then (raw.size : Int) else (20 : Int)) = (m : Int) := by split <;> omega
  have hmr : (m : Int) ≤ (raw.size : Int) := by omega
  have hm0 : (0 : Int) ≤ (m : Int) := by omega
  have hsz : (raw.extract 0 m).size ≤ 20 := by rw [ByteArray.size_extract]; omega
  have HFT := Lib.hid (light_fit2 hf (by decide) (by decide))
  have HLF := Lib.hid hf
  obtain ⟨S1, hS1⟩ : ∃ S1, (S.remove x).1 = S1 := ⟨_, rfl⟩
  obtain ⟨er, her⟩ : ∃ er : Nat, (S.remove x).2 = er := ⟨_, rfl⟩
  have QP : Hid (∀ W, Both w0 W p r S S [(w.heap.size, actO ⟨what, a, b, raw, n, .slice ad ln c⟩)] → Calls Tryz.prog 27 #[.pointer (some ⟨p, 0, none⟩), .string x] W fun e w' => e = .returned (.int .i64 (er : Int)) ∧ Both w0 w' p r S1 S [(w.heap.size, actO ⟨what, a, b, raw, n, .slice ad ln c⟩)]) := Lib.hid fun W hW => by
    rw [← her, ← hS1]
    exact hW.prog fun v hv hex hn => remove_any hv x hxs HFT.out.weight HFT.out.used HFT.out.steps
  have QR : Hid (∀ W, Both w0 W p r S1 S [(w.heap.size, actO ⟨what, a, b, raw, n, .slice ad ln c⟩)] → Calls Tryz.prog 64 #[.pointer (some ⟨r, 0, none⟩), .string x] W fun e w' => e = .returned (.int .i64 (er : Int)) ∧ Both w0 w' p r S1 S1 [(w.heap.size, actO ⟨what, a, b, raw, n, .slice ad ln c⟩)]) := Lib.hid fun W hW => by
    rw [← her]
    exact Both.ref (T' := S1) hW fun M hM hex hn => hS1 ▸ refRemove_any hM x HFT.out

  clear hx hy hk hm hf h
  unfold Deed.vals
  dsimp only
  go_enter Tryz.func15, Tryz.ntmps15
  go_upto_region 1 with fail
  have hw1' : w.alloc (.cells #[.int .u8 (what : Int), .int .u8 (a : Int), .int .u8 (b : Int), .string raw, .int .i16 n, .slice ad ln c] 35) = w1 := hw1.symm
  rw [hw1']
  refine Said.region (by kernel_rfl) (by kernel_rfl) (by kernel_rfl) [.is (.agg #[.int .u8 (what : Int), .int .u8 (a : Int), .int .u8 (b : Int), .string raw, .int .i16 n, .slice ad ln c]), .is (.pointer (some ⟨w.heap.size, 1, none⟩)), .is (.int .u8 (a : Int)), .is (.string x), .is (.agg #[.int .u8 (what : Int), .int .u8 (a : Int), .int .u8 (b : Int), .string raw, .int .i16 n, .slice ad ln c]), .is (.pointer (some ⟨w.heap.size, 2, none⟩)), .is (.int .u8 (b : Int)), .is (.string y), .is (.pointer (some ⟨w.heap.size, 3, none⟩)), .is (.string raw), .is (.pointer (some ⟨w.heap.size, 3, none⟩)), .is (.string raw), .is (.int .i64 (raw.size : Int)), .is (.int .i64 (m : Int)), .is (.string (raw.extract 0 m)), .is (.string x), .is (.string y), .is (.string (raw.extract 0 m))] ?_
  simp only [List.toList_toArray]
  iterate 3 (
    refine sq_pure (by rfl) (fun W hb _ => ?_) ?_
    · obtain ⟨b0, b1, b2, b3, b4, b5⟩ := HX.out W hb
      go_simp
    simp only [Act.put, List.setIfInBounds_toArray, List.set_cons_zero, List.set_cons_succ])
  refine sq_call (f := 18) (args := #[.agg #[.int .u8 (what : Int), .int .u8 (a : Int), .int .u8 (b : Int), .string raw, .int .i16 n, .slice ad ln c], .int .u8 (a : Int)]) (by rfl) (fun W => by go_simp) (fun W hb _ => Q1.out W) ?_
  simp only [Act.put, List.setIfInBounds_toArray, List.set_cons_zero, List.set_cons_succ]
  iterate 3 (
    refine sq_pure (by rfl) (fun W hb _ => ?_) ?_
    · obtain ⟨b0, b1, b2, b3, b4, b5⟩ := HX.out W hb
      go_simp
    simp only [Act.put, List.setIfInBounds_toArray, List.set_cons_zero, List.set_cons_succ])
  refine sq_call (f := 18) (args := #[.agg #[.int .u8 (what : Int), .int .u8 (a : Int), .int .u8 (b : Int), .string raw, .int .i16 n, .slice ad ln c], .int .u8 (b : Int)]) (by rfl) (fun W => by go_simp) (fun W hb _ => Q2.out W) ?_
  simp only [Act.put, List.setIfInBounds_toArray, List.set_cons_zero, List.set_cons_succ]
  iterate 10 (
    refine sq_pure (by rfl) (fun W hb _ => ?_) ?_
    · obtain ⟨b0, b1, b2, b3, b4, b5⟩ := HX.out W hb
      go_simp
    simp only [Act.put, List.setIfInBounds_toArray, List.set_cons_zero, List.set_cons_succ])
  refine sq_end (fun W2 hb2 _ => ?_)
  have HB2 : Hid (Both w0 W2 p r S S [(w.heap.size, actO ⟨what, a, b, raw, n, .slice ad ln c⟩)]) := Lib.hid (Both.next (hw1 ▸ hB1.out) hb2)
  have hA2 := HBX.out W2 (HB2.out.at (List.mem_cons_self ..))
  obtain ⟨z0, z1, z2, z3, z4, z5⟩ := hA2
  clear hb2 HX
  have m17 : (what : Int).tmod 17 = 12 := by rw [Int.tmod_eq_emod_of_nonneg (by omega)]; omega
  have m17' : (what : Int) % 17 = 12 := by omega
  clear hc
  go_wp2_with (first
    | (go_at_call 27; go_must (with_reducible refine (QP.out _ HB2.out).mono ?_); rintro e w3 ⟨rfl, hq⟩; have HB3 := Lib.hid hq; clear hq)
    | (go_at_call 64; go_must (with_reducible refine (QR.out _ HB3.out).mono ?_); rintro e w4 ⟨rfl, hq⟩; have HB4 := Lib.hid hq; clear hq))
  go_ret
  exact ⟨rfl, S1, HB4.out.less (fun _ hx => by cases hx), fun a b hab => hS1 ▸ (light_remove hab x).mono (Nat.le_refl _) (Nat.le_add_right _ _)⟩
end Go.Proofs.YtmmoilmfpiclgaaGreat

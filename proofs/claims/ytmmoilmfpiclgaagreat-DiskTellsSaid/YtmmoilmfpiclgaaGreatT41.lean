/-
  The law's acts, done with both disks: reading, restarting, appending. The law's acts, done with both disks: appending.
-/
import Derived.Test.YtmmoilmfpiclgaaGreatT40
set_option linter.unusedVariables false
set_option linter.unusedSimpArgs false
namespace Go.Proofs.YtmmoilmfpiclgaaGreat
open Go.RowKit Go.Shelf
open Fld (FS Names FAct actsOn foundN foundB findT withT withoutT GoodN Rising mayB nam nameMax RefS textsOf)

set_option maxHeartbeats 16000000 in
set_option maxRecDepth 100000 in
theorem does_readAt {w0 w : World} {p r : Nat} {S : DS} {d : Deed} (h : Both w0 w p r S S []) (hf : S.Light 890 89000) (hd : d.ok) (hc : d.what % 17 = 13) :
    Calls Tryz.prog 15 #[.agg d.vals, .pointer (some ⟨p, 0, none⟩), .pointer (some ⟨r, 0, none⟩)] w (DoesP w0 w p r S) := by
  have hB1 : Both w0 (w.alloc (.cells d.vals 35)) p r S S [(w.heap.size, actO d)] := h.own (below_alloc' (Below.refl _ w)) (heap_alloc_new w _) (Nat.le_refl _)
  have QN := Lib.hid (named_any d hd.2.2.2.2.2.2)
  have QS := Lib.hid (small_any d hd.2.2.2.2.2.2 hd.2.2.2.2.1 hd.2.2.2.2.2.1)
  obtain ⟨what, a, b, raw, n, lv⟩ := d
  obtain ⟨h1, h2, h3, h4, h5, h6, ad, ln, c, hlv⟩ := hd
  dsimp only at h1 h2 h3 h4 h5 h6 hlv hc hB1
  subst hlv
  have hB1 := Lib.hid hB1
  obtain ⟨w1, hw1⟩ : ∃ w1, w1 = w.alloc (.cells (Deed.vals ⟨what, a, b, raw, n, .slice ad ln c⟩) 35) := ⟨_, rfl⟩
  have hA1 : w1.heap[w.heap.size]? = some (.cells (Deed.vals ⟨what, a, b, raw, n, .slice ad ln c⟩) 35 (0, 0)) := by rw [hw1]; exact heap_alloc_new w _
  have HBX : Hid (∀ W : World, W.heap[w.heap.size]? = some (.cells (Deed.vals ⟨what, a, b, raw, n, .slice ad ln c⟩) 35 (0, 0)) → W.cell? ⟨w.heap.size, 0, none⟩ = some (.int .u8 (what : Int)) ∧ W.cell? ⟨w.heap.size, 1, none⟩ = some (.int .u8 (a : Int)) ∧ W.cell? ⟨w.heap.size, 2, none⟩ = some (.int .u8 (b : Int)) ∧ W.cell? ⟨w.heap.size, 3, none⟩ = some (.string raw) ∧ W.cell? ⟨w.heap.size, 4, none⟩ = some (.int .i16 n) ∧ W.cell? ⟨w.heap.size, 5, none⟩ = some (.slice ad ln c)) := Lib.hid fun W hW => ⟨by rw [cell_of_row W _ 0 _ _ _ hW]; rfl, by rw [cell_of_row W _ 1 _ _ _ hW]; rfl, by rw [cell_of_row W _ 2 _ _ _ hW]; rfl, by rw [cell_of_row W _ 3 _ _ _ hW]; rfl, by rw [cell_of_row W _ 4 _ _ _ hW]; rfl, by rw [cell_of_row W _ 5 _ _ _ hW]; rfl⟩
  have HX : Hid (∀ W, Below w1.heap.size w1 W → W.cell? ⟨w.heap.size, 0, none⟩ = some (.int .u8 (what : Int)) ∧ W.cell? ⟨w.heap.size, 1, none⟩ = some (.int .u8 (a : Int)) ∧ W.cell? ⟨w.heap.size, 2, none⟩ = some (.int .u8 (b : Int)) ∧ W.cell? ⟨w.heap.size, 3, none⟩ = some (.string raw) ∧ W.cell? ⟨w.heap.size, 4, none⟩ = some (.int .i16 n) ∧ W.cell? ⟨w.heap.size, 5, none⟩ = some (.slice ad ln c)) := Lib.hid fun W hW => HBX.out W ((hW.block _ (Array.getElem?_eq_some_iff.1 hA1).1).trans hA1)
  obtain ⟨x, hx⟩ : ∃ x, nameD raw a = x := ⟨_, rfl⟩
  obtain ⟨y, hy⟩ : ∃ y, nameD raw b = y := ⟨_, rfl⟩
  have hxs : x.size ≤ nameMax := by rw [← hx]; exact nameD_size h4 a
  have hys : y.size ≤ nameMax := by rw [← hy]; exact nameD_size h4 b
  have Q1 : Hid (∀ W, Calls Tryz.prog 18 #[.agg #[.int .u8 (what : Int), .int .u8 (a : Int), .int .u8 (b : Int), .string raw, .int .i16 n, .slice ad ln c], .int .u8 (a : Int)] W fun e w' => e = .returned (.string x) ∧ Below W.heap.size W w') := Lib.hid fun W => by rw [← hx]; exact QN.out a h2 W
  have Q2 : Hid (∀ W, Calls Tryz.prog 18 #[.agg #[.int .u8 (what : Int), .int .u8 (a : Int), .int .u8 (b : Int), .string raw, .int .i16 n, .slice ad ln c], .int .u8 (b : Int)] W fun e w' => e = .returned (.string y) ∧ Below W.heap.size W w') := Lib.hid fun W => by rw [← hy]; exact QN.out b h3 W
  obtain ⟨k, hk⟩ : ∃ k, smallD n = k := ⟨_, rfl⟩
  have hks := smallD_small h5 h6
  have hk3 := small3 h5 h6
  rw [hk] at hks hk3
  have QK : Hid (∀ W, Calls Tryz.prog 21 #[.agg #[.int .u8 (what : Int), .int .u8 (a : Int), .int .u8 (b : Int), .string raw, .int .i16 n, .slice ad ln c]] W fun e w' => e = .returned (.int .i64 k) ∧ Below W.heap.size W w') := Lib.hid fun W => by rw [← hk]; exact QS.out W
  clear QN QS
  obtain ⟨m, hm⟩ : ∃ m, min raw.size 20 = m := ⟨_, rfl⟩
  have hmi : min (raw.size : Int) 20 = (m : Int) := by omega
  have hmi2 : (if (20 : Int) < (raw.size : Int) then (20 : Int) else (raw.size : Int)) = (m : Int) := by split <;> omega
  have hmi3 : (if (raw.size : Int) < (20 : Int) then (raw.size : Int) else (20 : Int)) = (m : Int) := by split <;> omega
  have hmr : (m : Int) ≤ (raw.size : Int) := by omega
  have hm0 : (0 : Int) ≤ (m : Int) := by omega
  have hsz : (raw.extract 0 m).size ≤ 20 := by rw [ByteArray.size_extract]; omega
  have HFT := Lib.hid (light_fit2 hf (by decide) (by decide))
  have HLF := Lib.hid hf
  obtain ⟨rs, hrs⟩ : ∃ rs : ByteArray, (⟨(S.readAt x k (b : Int)).1.toArray⟩ : ByteArray) = rs := ⟨_, rfl⟩
  obtain ⟨re, hre⟩ : ∃ re, (S.readAt x k (b : Int)).2 = re := ⟨_, rfl⟩
  obtain ⟨sz, hsz8⟩ : ∃ sz, (S.size x).1 = sz := ⟨_, rfl⟩
  obtain ⟨se, hse⟩ : ∃ se, (S.size x).2 = se := ⟨_, rfl⟩
  have QP : Hid (∀ W, Both w0 W p r S S [(w.heap.size, actO ⟨what, a, b, raw, n, .slice ad ln c⟩)] → Calls Tryz.prog 23 #[.pointer (some ⟨p, 0, none⟩), .string x, .int .i64 k, .int .i64 (b : Int)] W fun e w' => e = .returned (.tuple #[.string rs, .int .i64 re]) ∧ Below W.heap.size W w') := Lib.hid fun W hW => by
    rw [← hrs, ← hre]
    exact hW.pread fun v hv => (disk_readAt hv x hxs HFT.out.n (by omega) (by omega) (by omega)).mono fun e w' ⟨h1, h2⟩ => ⟨h1, h2 ▸ Below.refl _ W⟩
  have QR : Hid (∀ W, Both w0 W p r S S [(w.heap.size, actO ⟨what, a, b, raw, n, .slice ad ln c⟩)] → Calls Tryz.prog 65 #[.pointer (some ⟨r, 0, none⟩), .string x, .int .i64 k, .int .i64 (b : Int)] W fun e w' => e = .returned (.tuple #[.string rs, .int .i64 re]) ∧ Below W.heap.size W w') := Lib.hid fun W hW => by
    rw [← hrs, ← hre]
    exact hW.rread fun M hM => refReadAt_any hM x k (b : Int) HFT.out.n
  have QPS : Hid (∀ W, Both w0 W p r S S [(w.heap.size, actO ⟨what, a, b, raw, n, .slice ad ln c⟩)] → Calls Tryz.prog 34 #[.pointer (some ⟨p, 0, none⟩), .string x] W fun e w' => e = .returned (.tuple #[.int .i64 (sz : Int), .int .i64 (se : Int)]) ∧ Below W.heap.size W w') := Lib.hid fun W hW => by
    rw [← hsz8, ← hse]
    exact hW.pread fun v hv => (disk_size hv x hxs HFT.out.n).mono fun e w' ⟨h1, h2⟩ => ⟨h1, h2 ▸ Below.refl _ W⟩
  have QRS : Hid (∀ W, Both w0 W p r S S [(w.heap.size, actO ⟨what, a, b, raw, n, .slice ad ln c⟩)] → Calls Tryz.prog 66 #[.pointer (some ⟨r, 0, none⟩), .string x] W fun e w' => e = .returned (.tuple #[.int .i64 (sz : Int), .int .i64 (se : Int)]) ∧ Below W.heap.size W w') := Lib.hid fun W hW => by
    rw [← hsz8, ← hse]
    exact hW.rread fun M hM => refSize_any hM x HFT.out.n
  clear hrs hre hsz8 hse
  have hbw : IntKind.i64.wrap (b : Int) = (b : Int) := IntWalk.i64_in _ (by omega)

  clear hx hy hk hm hf h
  unfold Deed.vals
  dsimp only
  go_enter Tryz.func15, Tryz.ntmps15
  go_upto_region 1 with fail
  have hw1' : w.alloc (.cells #[.int .u8 (what : Int), .int .u8 (a : Int), .int .u8 (b : Int), .string raw, .int .i16 n, .slice ad ln c] 35) = w1 := hw1.symm
  rw [hw1']
  refine Said.region (by kernel_rfl) (by kernel_rfl) (by kernel_rfl) [.is (.agg #[.int .u8 (what : Int), .int .u8 (a : Int), .int .u8 (b : Int), .string raw, .int .i16 n, .slice ad ln c]), .is (.pointer (some ⟨w.heap.size, 1, none⟩)), .is (.int .u8 (a : Int)), .is (.string x), .is (.agg #[.int .u8 (what : Int), .int .u8 (a : Int), .int .u8 (b : Int), .string raw, .int .i16 n, .slice ad ln c]), .is (.pointer (some ⟨w.heap.size, 2, none⟩)), .is (.int .u8 (b : Int)), .is (.string y), .is (.pointer (some ⟨w.heap.size, 3, none⟩)), .is (.string raw), .is (.pointer (some ⟨w.heap.size, 3, none⟩)), .is (.string raw), .is (.int .i64 (raw.size : Int)), .is (.int .i64 (m : Int)), .is (.string (raw.extract 0 m)), .is (.string x), .is (.string y), .is (.string (raw.extract 0 m))] ?_
  simp only [List.toList_toArray]
  iterate 3 (
    refine sq_pure (by rfl) (fun W hb _ => ?_) ?_
    · obtain ⟨b0, b1, b2, b3, b4, b5⟩ := HX.out W hb
      go_simp
    simp only [Act.put, List.setIfInBounds_toArray, List.set_cons_zero, List.set_cons_succ])
  refine sq_call (f := 18) (args := #[.agg #[.int .u8 (what : Int), .int .u8 (a : Int), .int .u8 (b : Int), .string raw, .int .i16 n, .slice ad ln c], .int .u8 (a : Int)]) (by rfl) (fun W => by go_simp) (fun W hb _ => Q1.out W) ?_
  simp only [Act.put, List.setIfInBounds_toArray, List.set_cons_zero, List.set_cons_succ]
  iterate 3 (
    refine sq_pure (by rfl) (fun W hb _ => ?_) ?_
    · obtain ⟨b0, b1, b2, b3, b4, b5⟩ := HX.out W hb
      go_simp
    simp only [Act.put, List.setIfInBounds_toArray, List.set_cons_zero, List.set_cons_succ])
  refine sq_call (f := 18) (args := #[.agg #[.int .u8 (what : Int), .int .u8 (a : Int), .int .u8 (b : Int), .string raw, .int .i16 n, .slice ad ln c], .int .u8 (b : Int)]) (by rfl) (fun W => by go_simp) (fun W hb _ => Q2.out W) ?_
  simp only [Act.put, List.setIfInBounds_toArray, List.set_cons_zero, List.set_cons_succ]
  iterate 10 (
    refine sq_pure (by rfl) (fun W hb _ => ?_) ?_
    · obtain ⟨b0, b1, b2, b3, b4, b5⟩ := HX.out W hb
      go_simp
    simp only [Act.put, List.setIfInBounds_toArray, List.set_cons_zero, List.set_cons_succ])
  refine sq_end (fun W2 hb2 _ => ?_)
  have HB2 : Hid (Both w0 W2 p r S S [(w.heap.size, actO ⟨what, a, b, raw, n, .slice ad ln c⟩)]) := Lib.hid (Both.next (hw1 ▸ hB1.out) hb2)
  have hA2 := HBX.out W2 (HB2.out.at (List.mem_cons_self ..))
  obtain ⟨z0, z1, z2, z3, z4, z5⟩ := hA2
  clear hb2 HX
  have m17 : (what : Int).tmod 17 = 13 := by rw [Int.tmod_eq_emod_of_nonneg (by omega)]; omega
  have m17' : (what : Int) % 17 = 13 := by omega
  clear hc
  go_upto_region 19 with fail
  refine Said.region (by kernel_rfl) (by kernel_rfl) (by kernel_rfl) [.is (.pointer (some ⟨p, 0, none⟩)), .is (.string x), .is (.agg #[.int .u8 (what : Int), .int .u8 (a : Int), .int .u8 (b : Int), .string raw, .int .i16 n, .slice ad ln c]), .is (.int .i64 k), .is (.pointer (some ⟨w.heap.size, 2, none⟩)), .is (.int .u8 (b : Int)), .is (.int .i64 (b : Int)), .is (.tuple #[.string rs, .int .i64 re]), .is (.tuple #[.string rs, .int .i64 re]), .is (.string rs), .is (.int .i64 re), .is (.string rs), .is (.int .i64 re)] ?_
  simp only [List.toList_toArray]
  iterate 3 (
    refine sq_pure (by rfl) (fun W hb _ => ?_) ?_
    · obtain ⟨b0, b1, b2, b3, b4, b5⟩ := HBX.out W ((HB2.out.next hb).at (List.mem_cons_self ..))
      go_simp
    simp only [Act.put, List.setIfInBounds_toArray, List.set_cons_zero, List.set_cons_succ])
  refine sq_call (f := 21) (args := #[.agg #[.int .u8 (what : Int), .int .u8 (a : Int), .int .u8 (b : Int), .string raw, .int .i16 n, .slice ad ln c]]) (by rfl) (fun W => by go_simp) (fun W hb _ => QK.out W) ?_
  simp only [Act.put, List.setIfInBounds_toArray, List.set_cons_zero, List.set_cons_succ]
  iterate 3 (
    refine sq_pure (by rfl) (fun W hb _ => ?_) ?_
    · obtain ⟨b0, b1, b2, b3, b4, b5⟩ := HBX.out W ((HB2.out.next hb).at (List.mem_cons_self ..))
      go_simp
    simp only [Act.put, List.setIfInBounds_toArray, List.set_cons_zero, List.set_cons_succ])
  refine sq_call (f := 23) (args := #[.pointer (some ⟨p, 0, none⟩), .string x, .int .i64 k, .int .i64 (b : Int)]) (by rfl) (fun W => by go_simp) (fun W hb _ => QP.out W (HB2.out.next hb)) ?_
  simp only [Act.put, List.setIfInBounds_toArray, List.set_cons_zero, List.set_cons_succ]
  iterate 5 (
    refine sq_pure (by rfl) (fun W hb _ => ?_) ?_
    · obtain ⟨b0, b1, b2, b3, b4, b5⟩ := HBX.out W ((HB2.out.next hb).at (List.mem_cons_self ..))
      go_simp
    simp only [Act.put, List.setIfInBounds_toArray, List.set_cons_zero, List.set_cons_succ])
  refine sq_end (fun W3 hb19 _ => ?_)
  have HB19 := Lib.hid (HB2.out.next hb19)
  clear hb19
  go_upto_region 20 with fail
  refine Said.region (by kernel_rfl) (by kernel_rfl) (by kernel_rfl) [.is (.pointer (some ⟨r, 0, none⟩)), .is (.string x), .is (.agg #[.int .u8 (what : Int), .int .u8 (a : Int), .int .u8 (b : Int), .string raw, .int .i16 n, .slice ad ln c]), .is (.int .i64 k), .is (.pointer (some ⟨w.heap.size, 2, none⟩)), .is (.int .u8 (b : Int)), .is (.int .i64 (b : Int)), .is (.tuple #[.string rs, .int .i64 re]), .is (.tuple #[.string rs, .int .i64 re]), .is (.string rs), .is (.int .i64 re), .is (.string rs), .is (.int .i64 re)] ?_
  simp only [List.toList_toArray]
  iterate 3 (
    refine sq_pure (by rfl) (fun W hb _ => ?_) ?_
    · obtain ⟨b0, b1, b2, b3, b4, b5⟩ := HBX.out W ((HB19.out.next hb).at (List.mem_cons_self ..))
      go_simp
    simp only [Act.put, List.setIfInBounds_toArray, List.set_cons_zero, List.set_cons_succ])
  refine sq_call (f := 21) (args := #[.agg #[.int .u8 (what : Int), .int .u8 (a : Int), .int .u8 (b : Int), .string raw, .int .i16 n, .slice ad ln c]]) (by rfl) (fun W => by go_simp) (fun W hb _ => QK.out W) ?_
  simp only [Act.put, List.setIfInBounds_toArray, List.set_cons_zero, List.set_cons_succ]
  iterate 3 (
    refine sq_pure (by rfl) (fun W hb _ => ?_) ?_
    · obtain ⟨b0, b1, b2, b3, b4, b5⟩ := HBX.out W ((HB19.out.next hb).at (List.mem_cons_self ..))
      go_simp
    simp only [Act.put, List.setIfInBounds_toArray, List.set_cons_zero, List.set_cons_succ])
  refine sq_call (f := 65) (args := #[.pointer (some ⟨r, 0, none⟩), .string x, .int .i64 k, .int .i64 (b : Int)]) (by rfl) (fun W => by go_simp) (fun W hb _ => QR.out W (HB19.out.next hb)) ?_
  simp only [Act.put, List.setIfInBounds_toArray, List.set_cons_zero, List.set_cons_succ]
  iterate 5 (
    refine sq_pure (by rfl) (fun W hb _ => ?_) ?_
    · obtain ⟨b0, b1, b2, b3, b4, b5⟩ := HBX.out W ((HB19.out.next hb).at (List.mem_cons_self ..))
      go_simp
    simp only [Act.put, List.setIfInBounds_toArray, List.set_cons_zero, List.set_cons_succ])
  refine sq_end (fun W4 hb20 _ => ?_)
  have HB20 := Lib.hid (HB19.out.next hb20)
  clear hb20
  have hss : (rs.toList == rs.toList) = true := by simp
  go_wp2_with (first
    | (go_at_call 34; (with_reducible refine (QPS.out _ HB20.out).mono ?_); rintro e w5 ⟨rfl, hq⟩; have HB5 := Lib.hid (HB20.out.next hq); clear hq)
    | (go_at_call 66; (with_reducible refine (QRS.out _ HB5.out).mono ?_); rintro e w6 ⟨rfl, hq⟩; have HB6 := Lib.hid (HB5.out.next hq); clear hq))
  go_ret
  exact ⟨rfl, S, HB6.out.less (fun _ hx => by cases hx), fun a b hab => hab.mono (Nat.le_add_right _ _) (Nat.le_add_right _ _)⟩

set_option maxHeartbeats 16000000 in
set_option maxRecDepth 100000 in
theorem does_restart {w0 w : World} {p r : Nat} {S : DS} {d : Deed} (h : Both w0 w p r S S []) (hf : S.Light 890 89000) (hd : d.ok) {Ln : List Nat} (hrow : ∀ W, Below w0.heap.size w0 W → Row16 W d.l Ln) (hln : ∀ ad ln c, d.l = .slice ad ln c → ln = Ln.length ∧ ln ≤ c ∧ c ≤ 9223372036854775807) (hrl : ∀ ad ln c b o, d.l = .slice ad ln c → ad = some ⟨b, o, none⟩ → ln ≠ 0 → b < w0.heap.size) (hc : d.what % 17 = 15) :
    Calls Tryz.prog 15 #[.agg d.vals, .pointer (some ⟨p, 0, none⟩), .pointer (some ⟨r, 0, none⟩)] w (DoesP w0 w p r S) := by
  have hB1 : Both w0 (w.alloc (.cells d.vals 35)) p r S S [(w.heap.size, actO d)] := h.own (below_alloc' (Below.refl _ w)) (heap_alloc_new w _) (Nat.le_refl _)
  have QN := Lib.hid (named_any d hd.2.2.2.2.2.2)
  have QS := Lib.hid (small_any d hd.2.2.2.2.2.2 hd.2.2.2.2.1 hd.2.2.2.2.2.1)
  obtain ⟨what, a, b, raw, n, lv⟩ := d
  obtain ⟨h1, h2, h3, h4, h5, h6, ad, ln, c, hlv⟩ := hd
  dsimp only at h1 h2 h3 h4 h5 h6 hlv hc hB1 hrow hln hrl
  subst hlv
  have hB1 := Lib.hid hB1
  obtain ⟨w1, hw1⟩ : ∃ w1, w1 = w.alloc (.cells (Deed.vals ⟨what, a, b, raw, n, .slice ad ln c⟩) 35) := ⟨_, rfl⟩
  have hA1 : w1.heap[w.heap.size]? = some (.cells (Deed.vals ⟨what, a, b, raw, n, .slice ad ln c⟩) 35 (0, 0)) := by rw [hw1]; exact heap_alloc_new w _
  have HBX : Hid (∀ W : World, W.heap[w.heap.size]? = some (.cells (Deed.vals ⟨what, a, b, raw, n, .slice ad ln c⟩) 35 (0, 0)) → W.cell? ⟨w.heap.size, 0, none⟩ = some (.int .u8 (what : Int)) ∧ W.cell? ⟨w.heap.size, 1, none⟩ = some (.int .u8 (a : Int)) ∧ W.cell? ⟨w.heap.size, 2, none⟩ = some (.int .u8 (b : Int)) ∧ W.cell? ⟨w.heap.size, 3, none⟩ = some (.string raw) ∧ W.cell? ⟨w.heap.size, 4, none⟩ = some (.int .i16 n) ∧ W.cell? ⟨w.heap.size, 5, none⟩ = some (.slice ad ln c)) := Lib.hid fun W hW => ⟨by rw [cell_of_row W _ 0 _ _ _ hW]; rfl, by rw [cell_of_row W _ 1 _ _ _ hW]; rfl, by rw [cell_of_row W _ 2 _ _ _ hW]; rfl, by rw [cell_of_row W _ 3 _ _ _ hW]; rfl, by rw [cell_of_row W _ 4 _ _ _ hW]; rfl, by rw [cell_of_row W _ 5 _ _ _ hW]; rfl⟩
  have HX : Hid (∀ W, Below w1.heap.size w1 W → W.cell? ⟨w.heap.size, 0, none⟩ = some (.int .u8 (what : Int)) ∧ W.cell? ⟨w.heap.size, 1, none⟩ = some (.int .u8 (a : Int)) ∧ W.cell? ⟨w.heap.size, 2, none⟩ = some (.int .u8 (b : Int)) ∧ W.cell? ⟨w.heap.size, 3, none⟩ = some (.string raw) ∧ W.cell? ⟨w.heap.size, 4, none⟩ = some (.int .i16 n) ∧ W.cell? ⟨w.heap.size, 5, none⟩ = some (.slice ad ln c)) := Lib.hid fun W hW => HBX.out W ((hW.block _ (Array.getElem?_eq_some_iff.1 hA1).1).trans hA1)
  obtain ⟨x, hx⟩ : ∃ x, nameD raw a = x := ⟨_, rfl⟩
  obtain ⟨y, hy⟩ : ∃ y, nameD raw b = y := ⟨_, rfl⟩
  have hxs : x.size ≤ nameMax := by rw [← hx]; exact nameD_size h4 a
  have hys : y.size ≤ nameMax := by rw [← hy]; exact nameD_size h4 b
  have Q1 : Hid (∀ W, Calls Tryz.prog 18 #[.agg #[.int .u8 (what : Int), .int .u8 (a : Int), .int .u8 (b : Int), .string raw, .int .i16 n, .slice ad ln c], .int .u8 (a : Int)] W fun e w' => e = .returned (.string x) ∧ Below W.heap.size W w') := Lib.hid fun W => by rw [← hx]; exact QN.out a h2 W
  have Q2 : Hid (∀ W, Calls Tryz.prog 18 #[.agg #[.int .u8 (what : Int), .int .u8 (a : Int), .int .u8 (b : Int), .string raw, .int .i16 n, .slice ad ln c], .int .u8 (b : Int)] W fun e w' => e = .returned (.string y) ∧ Below W.heap.size W w') := Lib.hid fun W => by rw [← hy]; exact QN.out b h3 W
  obtain ⟨k, hk⟩ : ∃ k, smallD n = k := ⟨_, rfl⟩
  have hks := smallD_small h5 h6
  have hk3 := small3 h5 h6
  rw [hk] at hks hk3
  have QK : Hid (∀ W, Calls Tryz.prog 21 #[.agg #[.int .u8 (what : Int), .int .u8 (a : Int), .int .u8 (b : Int), .string raw, .int .i16 n, .slice ad ln c]] W fun e w' => e = .returned (.int .i64 k) ∧ Below W.heap.size W w') := Lib.hid fun W => by rw [← hk]; exact QS.out W
  clear QN QS
  obtain ⟨m, hm⟩ : ∃ m, min raw.size 20 = m := ⟨_, rfl⟩
  have hmi : min (raw.size : Int) 20 = (m : Int) := by omega
  have hmi2 : (if (20 : Int) < (raw.size : Int) then (20 : Int) else (raw.size : Int)) = (m : Int) := by split <;> omega
  have hmi3 : (if (raw.size : Int) < (20 : Int) then (raw.size : Int) else (20 : Int)) = (m : Int) := by split <;> omega
  have hmr : (m : Int) ≤ (raw.size : Int) := by omega
  have hm0 : (0 : Int) ≤ (m : Int) := by omega
  have hsz : (raw.extract 0 m).size ≤ 20 := by rw [ByteArray.size_extract]; omega
  have HFT := Lib.hid (light_fit2 hf (by decide) (by decide))
  have HLF := Lib.hid hf
  obtain ⟨mm, hmm⟩ : ∃ mm, min ln 12 = mm := ⟨_, rfl⟩
  have hlnl : ln = Ln.length ∧ ln ≤ c ∧ c ≤ 9223372036854775807 := hln ad ln c rfl
  have m1 : min (ln : Int) 12 = (mm : Int) := by omega
  have m2 : mm ≤ ln := by omega
  have m3 : (mm : Int) ≤ (c : Int) := by omega
  have m4 : mm ≤ c := by omega
  have hml : (Ln.take mm).length = mm := by rw [List.length_take]; omega
  have h16 : ∀ i, num (Ln.take mm) i ≤ 65535 := fun i => num_small (fun x hx => by
    obtain ⟨j, hj, rfl⟩ := List.getElem_of_mem (List.mem_of_mem_take hx)
    obtain ⟨_, _, _, hcc⟩ := hrow w0 (Below.refl _ w0)
    obtain ⟨_, _, _, _, h⟩ := hcc j hj
    simpa [List.getD, hj] using h) i
  have hrw : ∀ W, Below w0.heap.size w0 W → Row16 W (.slice ad mm c) (Ln.take mm) := fun W hW => by
    obtain ⟨ad', c', e, hcc⟩ := hrow W hW
    cases e
    refine ⟨ad, c, by rw [hml], fun i hi => ?_⟩
    rw [hml] at hi
    obtain ⟨bb, oo, h1, h2, h3⟩ := hcc i (by omega)
    have hg : (Ln.take mm).getD i 0 = Ln.getD i 0 := by simp [List.getD, List.getElem?_take, hi]
    rw [hg]
    exact ⟨bb, oo, h1, h2, h3⟩
  obtain ⟨S1, hS1⟩ : ∃ S1, S.restart (Ln.take mm) = S1 := ⟨_, rfl⟩
  have QP : Hid (∀ W, Both w0 W p r S S [(w.heap.size, actO ⟨what, a, b, raw, n, .slice ad ln c⟩)] → Calls Tryz.prog 14 #[.pointer (some ⟨p, 0, none⟩), .slice ad mm c] W fun e w' => e = .returned (.tuple #[]) ∧ Both w0 w' p r S1 S [(w.heap.size, actO ⟨what, a, b, raw, n, .slice ad ln c⟩)]) := Lib.hid fun W hW => by
    rw [← hS1]
    exact hW.prog fun v hv hex hn => disk_restart hv HFT.out.weight (fun m => Nat.le_trans (DS.Light.acts HFT.out m) (by decide)) (fun m => Nat.le_trans (DS.Light.heft HFT.out m) (by decide)) (hrw W hW.below) (by omega) (fun bb o n' c' e e9 => by
      cases e
      have hlt := hrl _ ln c bb o rfl rfl (by omega)
      exact ⟨fun hm => by have := hn bb (.inl hm); omega, Nat.lt_of_lt_of_le hlt hW.below.size⟩) h16
  have QR : Hid (∀ W, Both w0 W p r S1 S [(w.heap.size, actO ⟨what, a, b, raw, n, .slice ad ln c⟩)] → Calls Tryz.prog 68 #[.pointer (some ⟨r, 0, none⟩), .slice ad mm c] W fun e w' => e = .returned (.tuple #[]) ∧ Both w0 w' p r S1 S1 [(w.heap.size, actO ⟨what, a, b, raw, n, .slice ad ln c⟩)]) := Lib.hid fun W hW =>
    Both.ref (T' := S1) hW fun M hM hex hn => hS1 ▸ refRestart_any hM (fun W' hW' => (hrw W hW.below).same fun bb o n' c' e e9 => by
      cases e
      have hlt := hrl _ ln c bb o rfl rfl (by omega)
      exact hW' bb (Nat.lt_of_lt_of_le hlt hW.below.size) (fun hm => by have := hn bb hm; omega)) (by omega) (fun bb o n' c' e e9 => by
      cases e
      have hlt := hrl _ ln c bb o rfl rfl (by omega)
      exact ⟨fun hm => by have := hn bb hm; omega, Nat.lt_of_lt_of_le hlt hW.below.size⟩) HFT.out h16
  clear hrw h16 hml hrow hmm hlnl hln

  clear hx hy hk hm hf h
  unfold Deed.vals
  dsimp only
  go_enter Tryz.func15, Tryz.ntmps15
  go_upto_region 1 with fail
  have hw1' : w.alloc (.cells #[.int .u8 (what : Int), .int .u8 (a : Int), .int .u8 (b : Int), .string raw, .int .i16 n, .slice ad ln c] 35) = w1 := hw1.symm
  rw [hw1']
  refine Said.region (by kernel_rfl) (by kernel_rfl) (by kernel_rfl) [.is (.agg #[.int .u8 (what : Int), .int .u8 (a : Int), .int .u8 (b : Int), .string raw, .int .i16 n, .slice ad ln c]), .is (.pointer (some ⟨w.heap.size, 1, none⟩)), .is (.int .u8 (a : Int)), .is (.string x), .is (.agg #[.int .u8 (what : Int), .int .u8 (a : Int), .int .u8 (b : Int), .string raw, .int .i16 n, .slice ad ln c]), .is (.pointer (some ⟨w.heap.size, 2, none⟩)), .is (.int .u8 (b : Int)), .is (.string y), .is (.pointer (some ⟨w.heap.size, 3, none⟩)), .is (.string raw), .is (.pointer (some ⟨w.heap.size, 3, none⟩)), .is (.string raw), .is (.int .i64 (raw.size : Int)), .is (.int .i64 (m : Int)), .is (.string (raw.extract 0 m)), .is (.string x), .is (.string y), .is (.string (raw.extract 0 m))] ?_
  simp only [List.toList_toArray]
  iterate 3 (
    refine sq_pure (by rfl) (fun W hb _ => ?_) ?_
    · obtain ⟨b0, b1, b2, b3, b4, b5⟩ := HX.out W hb
      go_simp
    simp only [Act.put, List.setIfInBounds_toArray, List.set_cons_zero, List.set_cons_succ])
  refine sq_call (f := 18) (args := #[.agg #[.int .u8 (what : Int), .int .u8 (a : Int), .int .u8 (b : Int), .string raw, .int .i16 n, .slice ad ln c], .int .u8 (a : Int)]) (by rfl) (fun W => by go_simp) (fun W hb _ => Q1.out W) ?_
  simp only [Act.put, List.setIfInBounds_toArray, List.set_cons_zero, List.set_cons_succ]
  iterate 3 (
    refine sq_pure (by rfl) (fun W hb _ => ?_) ?_
    · obtain ⟨b0, b1, b2, b3, b4, b5⟩ := HX.out W hb
      go_simp
    simp only [Act.put, List.setIfInBounds_toArray, List.set_cons_zero, List.set_cons_succ])
  refine sq_call (f := 18) (args := #[.agg #[.int .u8 (what : Int), .int .u8 (a : Int), .int .u8 (b : Int), .string raw, .int .i16 n, .slice ad ln c], .int .u8 (b : Int)]) (by rfl) (fun W => by go_simp) (fun W hb _ => Q2.out W) ?_
  simp only [Act.put, List.setIfInBounds_toArray, List.set_cons_zero, List.set_cons_succ]
  iterate 10 (
    refine sq_pure (by rfl) (fun W hb _ => ?_) ?_
    · obtain ⟨b0, b1, b2, b3, b4, b5⟩ := HX.out W hb
      go_simp
    simp only [Act.put, List.setIfInBounds_toArray, List.set_cons_zero, List.set_cons_succ])
  refine sq_end (fun W2 hb2 _ => ?_)
  have HB2 : Hid (Both w0 W2 p r S S [(w.heap.size, actO ⟨what, a, b, raw, n, .slice ad ln c⟩)]) := Lib.hid (Both.next (hw1 ▸ hB1.out) hb2)
  have hA2 := HBX.out W2 (HB2.out.at (List.mem_cons_self ..))
  obtain ⟨z0, z1, z2, z3, z4, z5⟩ := hA2
  clear hb2 HX
  have m17 : (what : Int).tmod 17 = 15 := by rw [Int.tmod_eq_emod_of_nonneg (by omega)]; omega
  have m17' : (what : Int) % 17 = 15 := by omega
  clear hc
  go_wp2_with (first
    | (go_at_call 14; (with_reducible refine (QP.out _ HB2.out).mono ?_); rintro e w5 ⟨rfl, hq⟩; have HB5 := Lib.hid hq; clear hq)
    | (go_at_call 68; (with_reducible refine (QR.out _ HB5.out).mono ?_); rintro e w6 ⟨rfl, hq⟩; have HB6 := Lib.hid hq; clear hq))
  go_ret
  exact ⟨rfl, S1, HB6.out.less (fun _ hx => by cases hx), fun a b hab => hS1 ▸ (light_restart hab _).mono (Nat.le_add_right _ _) (Nat.le_add_right _ _)⟩
end Go.Proofs.YtmmoilmfpiclgaaGreat
namespace Go.Proofs.YtmmoilmfpiclgaaGreat
open Go.RowKit Go.Shelf
open Fld (FS Names FAct actsOn foundN foundB findT withT withoutT GoodN Rising mayB nam nameMax RefS textsOf)

set_option maxHeartbeats 16000000 in
set_option maxRecDepth 100000 in
theorem does_append {w0 w : World} {p r : Nat} {S : DS} {d : Deed} (h : Both w0 w p r S S []) (hf : S.Light 890 89000) (hd : d.ok) (hc : d.what % 17 = 2 ∨ d.what % 17 = 3 ∨ d.what % 17 = 4 ∨ d.what % 17 = 5 ∨ d.what % 17 = 16) :
    Calls Tryz.prog 15 #[.agg d.vals, .pointer (some ⟨p, 0, none⟩), .pointer (some ⟨r, 0, none⟩)] w (DoesP w0 w p r S) := by
  have hB1 : Both w0 (w.alloc (.cells d.vals 35)) p r S S [(w.heap.size, actO d)] := h.own (below_alloc' (Below.refl _ w)) (heap_alloc_new w _) (Nat.le_refl _)
  have QN := Lib.hid (named_any d hd.2.2.2.2.2.2)
  have QS := Lib.hid (small_any d hd.2.2.2.2.2.2 hd.2.2.2.2.1 hd.2.2.2.2.2.1)
  obtain ⟨what, a, b, raw, n, lv⟩ := d
  obtain ⟨h1, h2, h3, h4, h5, h6, ad, ln, c, hlv⟩ := hd
  dsimp only at h1 h2 h3 h4 h5 h6 hlv hc hB1
  subst hlv
  have hB1 := Lib.hid hB1
  obtain ⟨w1, hw1⟩ : ∃ w1, w1 = w.alloc (.cells (Deed.vals ⟨what, a, b, raw, n, .slice ad ln c⟩) 35) := ⟨_, rfl⟩
  have hA1 : w1.heap[w.heap.size]? = some (.cells (Deed.vals ⟨what, a, b, raw, n, .slice ad ln c⟩) 35 (0, 0)) := by rw [hw1]; exact heap_alloc_new w _
  have HBX : Hid (∀ W : World, W.heap[w.heap.size]? = some (.cells (Deed.vals ⟨what, a, b, raw, n, .slice ad ln c⟩) 35 (0, 0)) → W.cell? ⟨w.heap.size, 0, none⟩ = some (.int .u8 (what : Int)) ∧ W.cell? ⟨w.heap.size, 1, none⟩ = some (.int .u8 (a : Int)) ∧ W.cell? ⟨w.heap.size, 2, none⟩ = some (.int .u8 (b : Int)) ∧ W.cell? ⟨w.heap.size, 3, none⟩ = some (.string raw) ∧ W.cell? ⟨w.heap.size, 4, none⟩ = some (.int .i16 n) ∧ W.cell? ⟨w.heap.size, 5, none⟩ = some (.slice ad ln c)) := Lib.hid fun W hW => ⟨by rw [cell_of_row W _ 0 _ _ _ hW]; rfl, by rw [cell_of_row W _ 1 _ _ _ hW]; rfl, by rw [cell_of_row W _ 2 _ _ _ hW]; rfl, by rw [cell_of_row W _ 3 _ _ _ hW]; rfl, by rw [cell_of_row W _ 4 _ _ _ hW]; rfl, by rw [cell_of_row W _ 5 _ _ _ hW]; rfl⟩
  have HX : Hid (∀ W, Below w1.heap.size w1 W → W.cell? ⟨w.heap.size, 0, none⟩ = some (.int .u8 (what : Int)) ∧ W.cell? ⟨w.heap.size, 1, none⟩ = some (.int .u8 (a : Int)) ∧ W.cell? ⟨w.heap.size, 2, none⟩ = some (.int .u8 (b : Int)) ∧ W.cell? ⟨w.heap.size, 3, none⟩ = some (.string raw) ∧ W.cell? ⟨w.heap.size, 4, none⟩ = some (.int .i16 n) ∧ W.cell? ⟨w.heap.size, 5, none⟩ = some (.slice ad ln c)) := Lib.hid fun W hW => HBX.out W ((hW.block _ (Array.getElem?_eq_some_iff.1 hA1).1).trans hA1)
  obtain ⟨x, hx⟩ : ∃ x, nameD raw a = x := ⟨_, rfl⟩
  obtain ⟨y, hy⟩ : ∃ y, nameD raw b = y := ⟨_, rfl⟩
  have hxs : x.size ≤ nameMax := by rw [← hx]; exact nameD_size h4 a
  have hys : y.size ≤ nameMax := by rw [← hy]; exact nameD_size h4 b
  have Q1 : Hid (∀ W, Calls Tryz.prog 18 #[.agg #[.int .u8 (what : Int), .int .u8 (a : Int), .int .u8 (b : Int), .string raw, .int .i16 n, .slice ad ln c], .int .u8 (a : Int)] W fun e w' => e = .returned (.string x) ∧ Below W.heap.size W w') := Lib.hid fun W => by rw [← hx]; exact QN.out a h2 W
  have Q2 : Hid (∀ W, Calls Tryz.prog 18 #[.agg #[.int .u8 (what : Int), .int .u8 (a : Int), .int .u8 (b : Int), .string raw, .int .i16 n, .slice ad ln c], .int .u8 (b : Int)] W fun e w' => e = .returned (.string y) ∧ Below W.heap.size W w') := Lib.hid fun W => by rw [← hy]; exact QN.out b h3 W
  obtain ⟨k, hk⟩ : ∃ k, smallD n = k := ⟨_, rfl⟩
  have hks := smallD_small h5 h6
  have hk3 := small3 h5 h6
  rw [hk] at hks hk3
  have QK : Hid (∀ W, Calls Tryz.prog 21 #[.agg #[.int .u8 (what : Int), .int .u8 (a : Int), .int .u8 (b : Int), .string raw, .int .i16 n, .slice ad ln c]] W fun e w' => e = .returned (.int .i64 k) ∧ Below W.heap.size W w') := Lib.hid fun W => by rw [← hk]; exact QS.out W
  clear QN QS
  obtain ⟨m, hm⟩ : ∃ m, min raw.size 20 = m := ⟨_, rfl⟩
  have hmi : min (raw.size : Int) 20 = (m : Int) := by omega
  have hmi2 : (if (20 : Int) < (raw.size : Int) then (20 : Int) else (raw.size : Int)) = (m : Int) := by split <;> omega
  have hmi3 : (if (raw.size : Int) < (20 : Int) then (raw.size : Int) else (20 : Int)) = (m : Int) := by split <;> omega
  have hmr : (m : Int) ≤ (raw.size : Int) := by omega
  have hm0 : (0 : Int) ≤ (m : Int) := by omega
  have hsz : (raw.extract 0 m).size ≤ 20 := by rw [ByteArray.size_extract]; omega
  have HFT := Lib.hid (light_fit2 hf (by decide) (by decide))
  have HLF := Lib.hid hf
  have QA : Hid (∀ (W : World) (bb : Nat) (s1 s2 sx : ByteArray), s1.data.toList ++ s2.data.toList = sx.data.toList → sx.size ≤ 20 → Both w0 W p r S S ((bb, .cells #[.string s1, .string s2] 9 (0, 0)) :: [(w.heap.size, actO ⟨what, a, b, raw, n, .slice ad ln c⟩)]) → Calls Tryz.prog 13 #[.pointer (some ⟨p, 0, none⟩), .string x, .slice (some ⟨bb, 0, none⟩) 2 2] W fun e w' => e = .returned (.int .i64 (((S.append x sx.data.toList).2 : Nat) : Int)) ∧ Both w0 w' p r (S.append x sx.data.toList).1 S ((bb, .cells #[.string s1, .string s2] 9 (0, 0)) :: [(w.heap.size, actO ⟨what, a, b, raw, n, .slice ad ln c⟩)])) := Lib.hid fun W bb s1 s2 sx he hs hW =>
    hW.prog fun v hv hex hn => disk_append hv x hxs HFT.out.weight HFT.out.used HFT.out.steps (by have := DS.Light.heft HFT.out (foundN S.fold.there x.data.toList); omega) (Nat.le_trans (DS.Light.acts HFT.out _) (by decide)) ⟨_, _, _, rfl⟩ (by omega) fun W' hW' => join_two he (by omega) (hW' bb _ _ (hW.at (List.mem_cons_self ..)) (by decide))
  have QB : Hid (∀ (W : World) (bb : Nat) (s1 s2 sx : ByteArray), s1.data.toList ++ s2.data.toList = sx.data.toList → sx.size ≤ 20 → Both w0 W p r (S.append x sx.data.toList).1 S ((bb, .cells #[.string s1, .string s2] 9 (0, 0)) :: [(w.heap.size, actO ⟨what, a, b, raw, n, .slice ad ln c⟩)]) → Calls Tryz.prog 69 #[.pointer (some ⟨r, 0, none⟩), .string x, .slice (some ⟨bb, 0, none⟩) 2 2] W fun e w' => e = .returned (.int .i64 (((S.append x sx.data.toList).2 : Nat) : Int)) ∧ Both w0 w' p r (S.append x sx.data.toList).1 (S.append x sx.data.toList).1 ((bb, .cells #[.string s1, .string s2] 9 (0, 0)) :: [(w.heap.size, actO ⟨what, a, b, raw, n, .slice ad ln c⟩)])) := Lib.hid fun W bb s1 s2 sx he hs hW => by
    have hat := hW.at (List.mem_cons_self ..)
    have e1 : (catB [s1, s2]).data.toList = sx.data.toList := by rw [← he]; unfold catB; simp
    have e2 : (catB [s1, s2]).size ≤ 10000 := by
      have h1 : (catB [s1, s2]).data.toList.length = sx.data.toList.length := by rw [e1]
      simp at h1
      omega
    refine Both.ref (T' := (S.append x sx.data.toList).1) hW fun M hM hex hn => ?_
    have h1 := refAppend_any hM x HFT.out (l := [s1, s2]) (lv := .slice (some ⟨bb, 0, none⟩) 2 2) (fun W' hW' => strs_duo8 ((hW' bb (Array.getElem?_eq_some_iff.1 hat).1 (hex _ (List.mem_cons_self ..))).trans hat)) (by simp) e2
    rw [e1] at h1
    exact h1

  clear hx hy hk hm hf h
  unfold Deed.vals
  dsimp only
  go_enter Tryz.func15, Tryz.ntmps15
  go_upto_region 1 with fail
  have hw1' : w.alloc (.cells #[.int .u8 (what : Int), .int .u8 (a : Int), .int .u8 (b : Int), .string raw, .int .i16 n, .slice ad ln c] 35) = w1 := hw1.symm
  rw [hw1']
  refine Said.region (by kernel_rfl) (by kernel_rfl) (by kernel_rfl) [.is (.agg #[.int .u8 (what : Int), .int .u8 (a : Int), .int .u8 (b : Int), .string raw, .int .i16 n, .slice ad ln c]), .is (.pointer (some ⟨w.heap.size, 1, none⟩)), .is (.int .u8 (a : Int)), .is (.string x), .is (.agg #[.int .u8 (what : Int), .int .u8 (a : Int), .int .u8 (b : Int), .string raw, .int .i16 n, .slice ad ln c]), .is (.pointer (some ⟨w.heap.size, 2, none⟩)), .is (.int .u8 (b : Int)), .is (.string y), .is (.pointer (some ⟨w.heap.size, 3, none⟩)), .is (.string raw), .is (.pointer (some ⟨w.heap.size, 3, none⟩)), .is (.string raw), .is (.int .i64 (raw.size : Int)), .is (.int .i64 (m : Int)), .is (.string (raw.extract 0 m)), .is (.string x), .is (.string y), .is (.string (raw.extract 0 m))] ?_
  simp only [List.toList_toArray]
  iterate 3 (
    refine sq_pure (by rfl) (fun W hb _ => ?_) ?_
    · obtain ⟨b0, b1, b2, b3, b4, b5⟩ := HX.out W hb
      go_simp
    simp only [Act.put, List.setIfInBounds_toArray, List.set_cons_zero, List.set_cons_succ])
  refine sq_call (f := 18) (args := #[.agg #[.int .u8 (what : Int), .int .u8 (a : Int), .int .u8 (b : Int), .string raw, .int .i16 n, .slice ad ln c], .int .u8 (a : Int)]) (by rfl) (fun W => by go_simp) (fun W hb _ => Q1.out W) ?_
  simp only [Act.put, List.setIfInBounds_toArray, List.set_cons_zero, List.set_cons_succ]
  iterate 3 (
    refine sq_pure (by rfl) (fun W hb _ => ?_) ?_
    · obtain ⟨b0, b1, b2, b3, b4, b5⟩ := HX.out W hb
      go_simp
    simp only [Act.put, List.setIfInBounds_toArray, List.set_cons_zero, List.set_cons_succ])
  refine sq_call (f := 18) (args := #[.agg #[.int .u8 (what : Int), .int .u8 (a : Int), .int .u8 (b : Int), .string raw, .int .i16 n, .slice ad ln c], .int .u8 (b : Int)]) (by rfl) (fun W => by go_simp) (fun W hb _ => Q2.out W) ?_
  simp only [Act.put, List.setIfInBounds_toArray, List.set_cons_zero, List.set_cons_succ]
  iterate 10 (
    refine sq_pure (by rfl) (fun W hb _ => ?_) ?_
    · obtain ⟨b0, b1, b2, b3, b4, b5⟩ := HX.out W hb
      go_simp
    simp only [Act.put, List.setIfInBounds_toArray, List.set_cons_zero, List.set_cons_succ])
  refine sq_end (fun W2 hb2 _ => ?_)
  have HB2 : Hid (Both w0 W2 p r S S [(w.heap.size, actO ⟨what, a, b, raw, n, .slice ad ln c⟩)]) := Lib.hid (Both.next (hw1 ▸ hB1.out) hb2)
  have hA2 := HBX.out W2 (HB2.out.at (List.mem_cons_self ..))
  obtain ⟨z0, z1, z2, z3, z4, z5⟩ := hA2
  clear hb2 HX
  rcases hc with hc | hc | hc | hc | hc
  · have m17 : (what : Int).tmod 17 = 2 := by rw [Int.tmod_eq_emod_of_nonneg (by omega)]; omega
    have m17' : (what : Int) % 17 = 2 := by omega
    clear hc
    obtain ⟨sx, hsx⟩ : ∃ sx, raw.extract 0 m = sx := ⟨_, rfl⟩
    rw [hsx] at hsz ⊢
    obtain ⟨q, hq⟩ : ∃ q, sx.size / 3 = q := ⟨_, rfl⟩
    have hq1 : (sx.size : Int).tdiv 3 = (q : Int) := by rw [Int.tdiv_eq_ediv_of_nonneg (by omega)]; omega
    have hq2 : (sx.size : Int) / 3 = (q : Int) := by omega
    have hq3 : (q : Int) ≤ (sx.size : Int) := by omega
    have hq4 : (0 : Int) ≤ (q : Int) := by omega
    have hq5 : IntKind.i64.wrap (q : Int) = (q : Int) := IntWalk.i64_in _ (by omega)
    have HCAT : Hid ((sx.extract 0 q).data.toList ++ (sx.extract q sx.size).data.toList = sx.data.toList) := Lib.hid (by
      have e1 : (sx.extract 0 q).data.toList = sx.data.toList.take q := by simp
      have e2 : (sx.extract q sx.size).data.toList = sx.data.toList.drop q := by
        have : sx.data.toList.length = sx.size := by simp
        simp [List.take_of_length_le, this]
      rw [e1, e2, List.take_append_drop])
    have hRR : Mono (fun v W => ∃ bb, v = .slice (some ⟨bb, 0, none⟩) 2 2 ∧ W.heap[bb]? = some (.cells #[.string (sx.extract 0 q), .string (sx.extract q sx.size)] 9 (0, 0)) ∧ W2.heap.size ≤ bb) := fun v W W' hb ⟨bb, h1, h2, h3⟩ => ⟨bb, h1, (hb.block bb (Array.getElem?_eq_some_iff.1 h2).1).trans h2, h3⟩
    clear hsx hq
    go_upto_region 33 with fail
    refine Said.region (by kernel_rfl) (by kernel_rfl) (by kernel_rfl) [.is (.string sx), .is (.string sx), .is (.int .i64 (sx.size : Int)), .is (.int .i64 (q : Int)), .is (.string (sx.extract 0 q)), .is (.string sx), .is (.string sx), .is (.int .i64 (sx.size : Int)), .is (.int .i64 (q : Int)), .is (.string (sx.extract q sx.size)), .has (fun v W => ∃ bb, v = .slice (some ⟨bb, 0, none⟩) 2 2 ∧ W.heap[bb]? = some (.cells #[.string (sx.extract 0 q), .string (sx.extract q sx.size)] 9 (0, 0)) ∧ W2.heap.size ≤ bb), .has (fun v W => ∃ bb, v = .slice (some ⟨bb, 0, none⟩) 2 2 ∧ W.heap[bb]? = some (.cells #[.string (sx.extract 0 q), .string (sx.extract q sx.size)] 9 (0, 0)) ∧ W2.heap.size ≤ bb)] ?_
    simp only [List.toList_toArray]
    iterate 10 (
      refine sq_pure (by rfl) (fun W hb _ => ?_) ?_
      · skip
        go_simp
      simp only [Act.put, List.setIfInBounds_toArray, List.set_cons_zero, List.set_cons_succ])
    refine sq_has hRR (fun W hb _ => step_value (v := .slice (some ⟨W.heap.size, 0, none⟩) 2 2) (W' := W.alloc (.cells #[.string (sx.extract 0 q), .string (sx.extract q sx.size)] 9)) (by rfl) (by go_simp) (below_alloc' (Below.refl _ W)) ⟨W.heap.size, rfl, heap_alloc_new W _, hb.size⟩) (fun v10 => ?_)
    simp only [Act.put, List.setIfInBounds_toArray, List.set_cons_zero, List.set_cons_succ]
    refine sq_has hRR (fun W hb hf => step_value (v := v10) (W' := W) (by rfl) (by go_simp) (Below.refl _ _) (hf.1 (by kernel_rfl))) (fun v11 => ?_)
    simp only [Act.put, List.setIfInBounds_toArray, List.set_cons_zero, List.set_cons_succ]
    refine sq_end (fun W3 hb3 hK => ?_)
    obtain ⟨bb, rfl, n1, n2⟩ := hK _ (List.mem_cons_self ..)
    have HB3 := Lib.hid (HB2.out.own hb3 n1 n2)
    have QA1 := Lib.hid (QA.out W3 bb _ _ sx HCAT.out hsz HB3.out)
    have QB1 := Lib.hid (fun W => QB.out W bb _ _ sx HCAT.out hsz)
    obtain ⟨S1, hS1⟩ : ∃ S1, (S.append x sx.data.toList).1 = S1 := ⟨_, rfl⟩
    obtain ⟨er, her⟩ : ∃ er, (S.append x sx.data.toList).2 = er := ⟨_, rfl⟩
    rw [hS1, her] at QA1 QB1
    have HS1 := Lib.hid hS1
    clear hK n1 n2 hb3 hS1 her QA QB
    go_wp2_with (first
      | (go_at_call 13; (with_reducible refine QA1.out.mono ?_); rintro e w5 ⟨rfl, hq⟩; have HB5 := Lib.hid hq; clear hq)
      | (go_at_call 69; (with_reducible refine (QB1.out _ HB5.out).mono ?_); rintro e w6 ⟨rfl, hq⟩; have HB6 := Lib.hid hq; clear hq))
    go_ret
    refine ⟨rfl, S1, HB6.out.less (fun _ hx => by cases hx), fun a b hab => HS1.out ▸ light_append hab x sx.data.toList ?_⟩
    have : sx.data.toList.length = sx.size := by simp
    omega
  · have m17 : (what : Int).tmod 17 = 3 := by rw [Int.tmod_eq_emod_of_nonneg (by omega)]; omega
    have m17' : (what : Int) % 17 = 3 := by omega
    clear hc
    obtain ⟨sx, hsx⟩ : ∃ sx, raw.extract 0 m = sx := ⟨_, rfl⟩
    rw [hsx] at hsz ⊢
    obtain ⟨q, hq⟩ : ∃ q, sx.size / 3 = q := ⟨_, rfl⟩
    have hq1 : (sx.size : Int).tdiv 3 = (q : Int) := by rw [Int.tdiv_eq_ediv_of_nonneg (by omega)]; omega
    have hq2 : (sx.size : Int) / 3 = (q : Int) := by omega
    have hq3 : (q : Int) ≤ (sx.size : Int) := by omega
    have hq4 : (0 : Int) ≤ (q : Int) := by omega
    have hq5 : IntKind.i64.wrap (q : Int) = (q : Int) := IntWalk.i64_in _ (by omega)
    have HCAT : Hid ((sx.extract 0 q).data.toList ++ (sx.extract q sx.size).data.toList = sx.data.toList) := Lib.hid (by
      have e1 : (sx.extract 0 q).data.toList = sx.data.toList.take q := by simp
      have e2 : (sx.extract q sx.size).data.toList = sx.data.toList.drop q := by
        have : sx.data.toList.length = sx.size := by simp
        simp [List.take_of_length_le, this]
      rw [e1, e2, List.take_append_drop])
    have hRR : Mono (fun v W => ∃ bb, v = .slice (some ⟨bb, 0, none⟩) 2 2 ∧ W.heap[bb]? = some (.cells #[.string (sx.extract 0 q), .string (sx.extract q sx.size)] 9 (0, 0)) ∧ W2.heap.size ≤ bb) := fun v W W' hb ⟨bb, h1, h2, h3⟩ => ⟨bb, h1, (hb.block bb (Array.getElem?_eq_some_iff.1 h2).1).trans h2, h3⟩
    clear hsx hq
    go_upto_region 33 with fail
    refine Said.region (by kernel_rfl) (by kernel_rfl) (by kernel_rfl) [.is (.string sx), .is (.string sx), .is (.int .i64 (sx.size : Int)), .is (.int .i64 (q : Int)), .is (.string (sx.extract 0 q)), .is (.string sx), .is (.string sx), .is (.int .i64 (sx.size : Int)), .is (.int .i64 (q : Int)), .is (.string (sx.extract q sx.size)), .has (fun v W => ∃ bb, v = .slice (some ⟨bb, 0, none⟩) 2 2 ∧ W.heap[bb]? = some (.cells #[.string (sx.extract 0 q), .string (sx.extract q sx.size)] 9 (0, 0)) ∧ W2.heap.size ≤ bb), .has (fun v W => ∃ bb, v = .slice (some ⟨bb, 0, none⟩) 2 2 ∧ W.heap[bb]? = some (.cells #[.string (sx.extract 0 q), .string (sx.extract q sx.size)] 9 (0, 0)) ∧ W2.heap.size ≤ bb)] ?_
    simp only [List.toList_toArray]
    iterate 10 (
      refine sq_pure (by rfl) (fun W hb _ => ?_) ?_
      · skip
        go_simp
      simp only [Act.put, List.setIfInBounds_toArray, List.set_cons_zero, List.set_cons_succ])
    refine sq_has hRR (fun W hb _ => step_value (v := .slice (some ⟨W.heap.size, 0, none⟩) 2 2) (W' := W.alloc (.cells #[.string (sx.extract 0 q), .string (sx.extract q sx.size)] 9)) (by rfl) (by go_simp) (below_alloc' (Below.refl _ W)) ⟨W.heap.size, rfl, heap_alloc_new W _, hb.size⟩) (fun v10 => ?_)
    simp only [Act.put, List.setIfInBounds_toArray, List.set_cons_zero, List.set_cons_succ]
    refine sq_has hRR (fun W hb hf => step_value (v := v10) (W' := W) (by rfl) (by go_simp) (Below.refl _ _) (hf.1 (by kernel_rfl))) (fun v11 => ?_)
    simp only [Act.put, List.setIfInBounds_toArray, List.set_cons_zero, List.set_cons_succ]
    refine sq_end (fun W3 hb3 hK => ?_)
    obtain ⟨bb, rfl, n1, n2⟩ := hK _ (List.mem_cons_self ..)
    have HB3 := Lib.hid (HB2.out.own hb3 n1 n2)
    have QA1 := Lib.hid (QA.out W3 bb _ _ sx HCAT.out hsz HB3.out)
    have QB1 := Lib.hid (fun W => QB.out W bb _ _ sx HCAT.out hsz)
    obtain ⟨S1, hS1⟩ : ∃ S1, (S.append x sx.data.toList).1 = S1 := ⟨_, rfl⟩
    obtain ⟨er, her⟩ : ∃ er, (S.append x sx.data.toList).2 = er := ⟨_, rfl⟩
    rw [hS1, her] at QA1 QB1
    have HS1 := Lib.hid hS1
    clear hK n1 n2 hb3 hS1 her QA QB
    go_wp2_with (first
      | (go_at_call 13; (with_reducible refine QA1.out.mono ?_); rintro e w5 ⟨rfl, hq⟩; have HB5 := Lib.hid hq; clear hq)
      | (go_at_call 69; (with_reducible refine (QB1.out _ HB5.out).mono ?_); rintro e w6 ⟨rfl, hq⟩; have HB6 := Lib.hid hq; clear hq))
    go_ret
    refine ⟨rfl, S1, HB6.out.less (fun _ hx => by cases hx), fun a b hab => HS1.out ▸ light_append hab x sx.data.toList ?_⟩
    have : sx.data.toList.length = sx.size := by simp
    omega
  · have m17 : (what : Int).tmod 17 = 4 := by rw [Int.tmod_eq_emod_of_nonneg (by omega)]; omega
    have m17' : (what : Int) % 17 = 4 := by omega
    clear hc
    obtain ⟨sx, hsx⟩ : ∃ sx, raw.extract 0 m = sx := ⟨_, rfl⟩
    rw [hsx] at hsz ⊢
    obtain ⟨q, hq⟩ : ∃ q, sx.size / 3 = q := ⟨_, rfl⟩
    have hq1 : (sx.size : Int).tdiv 3 = (q : Int) := by rw [Int.tdiv_eq_ediv_of_nonneg (by omega)]; omega
    have hq2 : (sx.size : Int) / 3 = (q : Int) := by omega
    have hq3 : (q : Int) ≤ (sx.size : Int) := by omega
    have hq4 : (0 : Int) ≤ (q : Int) := by omega
    have hq5 : IntKind.i64.wrap (q : Int) = (q : Int) := IntWalk.i64_in _ (by omega)
    have HCAT : Hid ((sx.extract 0 q).data.toList ++ (sx.extract q sx.size).data.toList = sx.data.toList) := Lib.hid (by
      have e1 : (sx.extract 0 q).data.toList = sx.data.toList.take q := by simp
      have e2 : (sx.extract q sx.size).data.toList = sx.data.toList.drop q := by
        have : sx.data.toList.length = sx.size := by simp
        simp [List.take_of_length_le, this]
      rw [e1, e2, List.take_append_drop])
    have hRR : Mono (fun v W => ∃ bb, v = .slice (some ⟨bb, 0, none⟩) 2 2 ∧ W.heap[bb]? = some (.cells #[.string (sx.extract 0 q), .string (sx.extract q sx.size)] 9 (0, 0)) ∧ W2.heap.size ≤ bb) := fun v W W' hb ⟨bb, h1, h2, h3⟩ => ⟨bb, h1, (hb.block bb (Array.getElem?_eq_some_iff.1 h2).1).trans h2, h3⟩
    clear hsx hq
    go_upto_region 33 with fail
    refine Said.region (by kernel_rfl) (by kernel_rfl) (by kernel_rfl) [.is (.string sx), .is (.string sx), .is (.int .i64 (sx.size : Int)), .is (.int .i64 (q : Int)), .is (.string (sx.extract 0 q)), .is (.string sx), .is (.string sx), .is (.int .i64 (sx.size : Int)), .is (.int .i64 (q : Int)), .is (.string (sx.extract q sx.size)), .has (fun v W => ∃ bb, v = .slice (some ⟨bb, 0, none⟩) 2 2 ∧ W.heap[bb]? = some (.cells #[.string (sx.extract 0 q), .string (sx.extract q sx.size)] 9 (0, 0)) ∧ W2.heap.size ≤ bb), .has (fun v W => ∃ bb, v = .slice (some ⟨bb, 0, none⟩) 2 2 ∧ W.heap[bb]? = some (.cells #[.string (sx.extract 0 q), .string (sx.extract q sx.size)] 9 (0, 0)) ∧ W2.heap.size ≤ bb)] ?_
    simp only [List.toList_toArray]
    iterate 10 (
      refine sq_pure (by rfl) (fun W hb _ => ?_) ?_
      · skip
        go_simp
      simp only [Act.put, List.setIfInBounds_toArray, List.set_cons_zero, List.set_cons_succ])
    refine sq_has hRR (fun W hb _ => step_value (v := .slice (some ⟨W.heap.size, 0, none⟩) 2 2) (W' := W.alloc (.cells #[.string (sx.extract 0 q), .string (sx.extract q sx.size)] 9)) (by rfl) (by go_simp) (below_alloc' (Below.refl _ W)) ⟨W.heap.size, rfl, heap_alloc_new W _, hb.size⟩) (fun v10 => ?_)
    simp only [Act.put, List.setIfInBounds_toArray, List.set_cons_zero, List.set_cons_succ]
    refine sq_has hRR (fun W hb hf => step_value (v := v10) (W' := W) (by rfl) (by go_simp) (Below.refl _ _) (hf.1 (by kernel_rfl))) (fun v11 => ?_)
    simp only [Act.put, List.setIfInBounds_toArray, List.set_cons_zero, List.set_cons_succ]
    refine sq_end (fun W3 hb3 hK => ?_)
    obtain ⟨bb, rfl, n1, n2⟩ := hK _ (List.mem_cons_self ..)
    have HB3 := Lib.hid (HB2.out.own hb3 n1 n2)
    have QA1 := Lib.hid (QA.out W3 bb _ _ sx HCAT.out hsz HB3.out)
    have QB1 := Lib.hid (fun W => QB.out W bb _ _ sx HCAT.out hsz)
    obtain ⟨S1, hS1⟩ : ∃ S1, (S.append x sx.data.toList).1 = S1 := ⟨_, rfl⟩
    obtain ⟨er, her⟩ : ∃ er, (S.append x sx.data.toList).2 = er := ⟨_, rfl⟩
    rw [hS1, her] at QA1 QB1
    have HS1 := Lib.hid hS1
    clear hK n1 n2 hb3 hS1 her QA QB
    go_wp2_with (first
      | (go_at_call 13; (with_reducible refine QA1.out.mono ?_); rintro e w5 ⟨rfl, hq⟩; have HB5 := Lib.hid hq; clear hq)
      | (go_at_call 69; (with_reducible refine (QB1.out _ HB5.out).mono ?_); rintro e w6 ⟨rfl, hq⟩; have HB6 := Lib.hid hq; clear hq))
    go_ret
    refine ⟨rfl, S1, HB6.out.less (fun _ hx => by cases hx), fun a b hab => HS1.out ▸ light_append hab x sx.data.toList ?_⟩
    have : sx.data.toList.length = sx.size := by simp
    omega
  · have m17 : (what : Int).tmod 17 = 5 := by rw [Int.tmod_eq_emod_of_nonneg (by omega)]; omega
    have m17' : (what : Int) % 17 = 5 := by omega
    clear hc
    obtain ⟨sx, hsx⟩ : ∃ sx, raw.extract 0 m = sx := ⟨_, rfl⟩
    rw [hsx] at hsz ⊢
    obtain ⟨q, hq⟩ : ∃ q, sx.size / 3 = q := ⟨_, rfl⟩
    have hq1 : (sx.size : Int).tdiv 3 = (q : Int) := by rw [Int.tdiv_eq_ediv_of_nonneg (by omega)]; omega
    have hq2 : (sx.size : Int) / 3 = (q : Int) := by omega
    have hq3 : (q : Int) ≤ (sx.size : Int) := by omega
    have hq4 : (0 : Int) ≤ (q : Int) := by omega
    have hq5 : IntKind.i64.wrap (q : Int) = (q : Int) := IntWalk.i64_in _ (by omega)
    have HCAT : Hid ((sx.extract 0 q).data.toList ++ (sx.extract q sx.size).data.toList = sx.data.toList) := Lib.hid (by
      have e1 : (sx.extract 0 q).data.toList = sx.data.toList.take q := by simp
      have e2 : (sx.extract q sx.size).data.toList = sx.data.toList.drop q := by
        have : sx.data.toList.length = sx.size := by simp
        simp [List.take_of_length_le, this]
      rw [e1, e2, List.take_append_drop])
    have hRR : Mono (fun v W => ∃ bb, v = .slice (some ⟨bb, 0, none⟩) 2 2 ∧ W.heap[bb]? = some (.cells #[.string (sx.extract 0 q), .string (sx.extract q sx.size)] 9 (0, 0)) ∧ W2.heap.size ≤ bb) := fun v W W' hb ⟨bb, h1, h2, h3⟩ => ⟨bb, h1, (hb.block bb (Array.getElem?_eq_some_iff.1 h2).1).trans h2, h3⟩
    clear hsx hq
    go_upto_region 33 with fail
    refine Said.region (by kernel_rfl) (by kernel_rfl) (by kernel_rfl) [.is (.string sx), .is (.string sx), .is (.int .i64 (sx.size : Int)), .is (.int .i64 (q : Int)), .is (.string (sx.extract 0 q)), .is (.string sx), .is (.string sx), .is (.int .i64 (sx.size : Int)), .is (.int .i64 (q : Int)), .is (.string (sx.extract q sx.size)), .has (fun v W => ∃ bb, v = .slice (some ⟨bb, 0, none⟩) 2 2 ∧ W.heap[bb]? = some (.cells #[.string (sx.extract 0 q), .string (sx.extract q sx.size)] 9 (0, 0)) ∧ W2.heap.size ≤ bb), .has (fun v W => ∃ bb, v = .slice (some ⟨bb, 0, none⟩) 2 2 ∧ W.heap[bb]? = some (.cells #[.string (sx.extract 0 q), .string (sx.extract q sx.size)] 9 (0, 0)) ∧ W2.heap.size ≤ bb)] ?_
    simp only [List.toList_toArray]
    iterate 10 (
      refine sq_pure (by rfl) (fun W hb _ => ?_) ?_
      · skip
        go_simp
      simp only [Act.put, List.setIfInBounds_toArray, List.set_cons_zero, List.set_cons_succ])
    refine sq_has hRR (fun W hb _ => step_value (v := .slice (some ⟨W.heap.size, 0, none⟩) 2 2) (W' := W.alloc (.cells #[.string (sx.extract 0 q), .string (sx.extract q sx.size)] 9)) (by rfl) (by go_simp) (below_alloc' (Below.refl _ W)) ⟨W.heap.size, rfl, heap_alloc_new W _, hb.size⟩) (fun v10 => ?_)
    simp only [Act.put, List.setIfInBounds_toArray, List.set_cons_zero, List.set_cons_succ]
    refine sq_has hRR (fun W hb hf => step_value (v := v10) (W' := W) (by rfl) (by go_simp) (Below.refl _ _) (hf.1 (by kernel_rfl))) (fun v11 => ?_)
    simp only [Act.put, List.setIfInBounds_toArray, List.set_cons_zero, List.set_cons_succ]
    refine sq_end (fun W3 hb3 hK => ?_)
    obtain ⟨bb, rfl, n1, n2⟩ := hK _ (List.mem_cons_self ..)
    have HB3 := Lib.hid (HB2.out.own hb3 n1 n2)
    have QA1 := Lib.hid (QA.out W3 bb _ _ sx HCAT.out hsz HB3.out)
    have QB1 := Lib.hid (fun W => QB.out W bb _ _ sx HCAT.out hsz)
    obtain ⟨S1, hS1⟩ : ∃ S1, (S.append x sx.data.toList).1 = S1 := ⟨_, rfl⟩
    obtain ⟨er, her⟩ : ∃ er, (S.append x sx.data.toList).2 = er := ⟨_, rfl⟩
    rw [hS1, her] at QA1 QB1
    have HS1 := Lib.hid hS1
    clear hK n1 n2 hb3 hS1 her QA QB
    go_wp2_with (first
      | (go_at_call 13; (with_reducible refine QA1.out.mono ?_); rintro e w5 ⟨rfl, hq⟩; have HB5 := Lib.hid hq; clear hq)
      | (go_at_call 69; (with_reducible refine (QB1.out _ HB5.out).mono ?_); rintro e w6 ⟨rfl, hq⟩; have HB6 := Lib.hid hq; clear hq))
    go_ret
    refine ⟨rfl, S1, HB6.out.less (fun _ hx => by cases hx), fun a b hab => HS1.out ▸ light_append hab x sx.data.toList ?_⟩
    have : sx.data.toList.length = sx.size := by simp
    omega
  · have m17 : (what : Int).tmod 17 = 16 := by rw [Int.tmod_eq_emod_of_nonneg (by omega)]; omega
    have m17' : (what : Int) % 17 = 16 := by omega
    clear hc
    obtain ⟨sx, hsx⟩ : ∃ sx, raw.extract 0 m = sx := ⟨_, rfl⟩
    rw [hsx] at hsz ⊢
    obtain ⟨q, hq⟩ : ∃ q, sx.size / 3 = q := ⟨_, rfl⟩
    have hq1 : (sx.size : Int).tdiv 3 = (q : Int) := by rw [Int.tdiv_eq_ediv_of_nonneg (by omega)]; omega
    have hq2 : (sx.size : Int) / 3 = (q : Int) := by omega
    have hq3 : (q : Int) ≤ (sx.size : Int) := by omega
    have hq4 : (0 : Int) ≤ (q : Int) := by omega
    have hq5 : IntKind.i64.wrap (q : Int) = (q : Int) := IntWalk.i64_in _ (by omega)
    have HCAT : Hid ((sx.extract 0 q).data.toList ++ (sx.extract q sx.size).data.toList = sx.data.toList) := Lib.hid (by
      have e1 : (sx.extract 0 q).data.toList = sx.data.toList.take q := by simp
      have e2 : (sx.extract q sx.size).data.toList = sx.data.toList.drop q := by
        have : sx.data.toList.length = sx.size := by simp
        simp [List.take_of_length_le, this]
      rw [e1, e2, List.take_append_drop])
    have hRR : Mono (fun v W => ∃ bb, v = .slice (some ⟨bb, 0, none⟩) 2 2 ∧ W.heap[bb]? = some (.cells #[.string (sx.extract 0 q), .string (sx.extract q sx.size)] 9 (0, 0)) ∧ W2.heap.size ≤ bb) := fun v W W' hb ⟨bb, h1, h2, h3⟩ => ⟨bb, h1, (hb.block bb (Array.getElem?_eq_some_iff.1 h2).1).trans h2, h3⟩
    clear hsx hq
    go_upto_region 33 with fail
    refine Said.region (by kernel_rfl) (by kernel_rfl) (by kernel_rfl) [.is (.string sx), .is (.string sx), .is (.int .i64 (sx.size : Int)), .is (.int .i64 (q : Int)), .is (.string (sx.extract 0 q)), .is (.string sx), .is (.string sx), .is (.int .i64 (sx.size : Int)), .is (.int .i64 (q : Int)), .is (.string (sx.extract q sx.size)), .has (fun v W => ∃ bb, v = .slice (some ⟨bb, 0, none⟩) 2 2 ∧ W.heap[bb]? = some (.cells #[.string (sx.extract 0 q), .string (sx.extract q sx.size)] 9 (0, 0)) ∧ W2.heap.size ≤ bb), .has (fun v W => ∃ bb, v = .slice (some ⟨bb, 0, none⟩) 2 2 ∧ W.heap[bb]? = some (.cells #[.string (sx.extract 0 q), .string (sx.extract q sx.size)] 9 (0, 0)) ∧ W2.heap.size ≤ bb)] ?_
    simp only [List.toList_toArray]
    iterate 10 (
      refine sq_pure (by rfl) (fun W hb _ => ?_) ?_
      · skip
        go_simp
      simp only [Act.put, List.setIfInBounds_toArray, List.set_cons_zero, List.set_cons_succ])
    refine sq_has hRR (fun W hb _ => step_value (v := .slice (some ⟨W.heap.size, 0, none⟩) 2 2) (W' := W.alloc (.cells #[.string (sx.extract 0 q), .string (sx.extract q sx.size)] 9)) (by rfl) (by go_simp) (below_alloc' (Below.refl _ W)) ⟨W.heap.size, rfl, heap_alloc_new W _, hb.size⟩) (fun v10 => ?_)
    simp only [Act.put, List.setIfInBounds_toArray, List.set_cons_zero, List.set_cons_succ]
    refine sq_has hRR (fun W hb hf => step_value (v := v10) (W' := W) (by rfl) (by go_simp) (Below.refl _ _) (hf.1 (by kernel_rfl))) (fun v11 => ?_)
    simp only [Act.put, List.setIfInBounds_toArray, List.set_cons_zero, List.set_cons_succ]
    refine sq_end (fun W3 hb3 hK => ?_)
    obtain ⟨bb, rfl, n1, n2⟩ := hK _ (List.mem_cons_self ..)
    have HB3 := Lib.hid (HB2.out.own hb3 n1 n2)
    have QA1 := Lib.hid (QA.out W3 bb _ _ sx HCAT.out hsz HB3.out)
    have QB1 := Lib.hid (fun W => QB.out W bb _ _ sx HCAT.out hsz)
    obtain ⟨S1, hS1⟩ : ∃ S1, (S.append x sx.data.toList).1 = S1 := ⟨_, rfl⟩
    obtain ⟨er, her⟩ : ∃ er, (S.append x sx.data.toList).2 = er := ⟨_, rfl⟩
    rw [hS1, her] at QA1 QB1
    have HS1 := Lib.hid hS1
    clear hK n1 n2 hb3 hS1 her QA QB
    go_wp2_with (first
      | (go_at_call 13; (with_reducible refine QA1.out.mono ?_); rintro e w5 ⟨rfl, hq⟩; have HB5 := Lib.hid hq; clear hq)
      | (go_at_call 69; (with_reducible refine (QB1.out _ HB5.out).mono ?_); rintro e w6 ⟨rfl, hq⟩; have HB6 := Lib.hid hq; clear hq))
    go_ret
    refine ⟨rfl, S1, HB6.out.less (fun _ hx => by cases hx), fun a b hab => HS1.out ▸ light_append hab x sx.data.toList ?_⟩
    have : sx.data.toList.length = sx.size := by simp
    omega
end Go.Proofs.YtmmoilmfpiclgaaGreat

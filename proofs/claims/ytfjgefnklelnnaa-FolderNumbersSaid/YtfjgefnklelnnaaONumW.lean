/-
  FolderNumbers: the walk.
-/
import Derived.Test.YtfjgefnklelnnaaONumM
import Derived.Test.YtfjgefnklelnnaaOTwo
namespace Go.Proofs.Ytfjgefnklelnnaa
open Go.RowKit Go.Shelf

set_option maxHeartbeats 20000000 in
set_option maxRecDepth 100000 in
theorem folderNumbers_walk (l : List Deed) (v : Value) (w : World) (hl : Deeds w v l) (hok : ∀ d ∈ l, d.ok) :
    Calls Try.prog 5 #[v] w fun e w' => e = .returned (.bool true) ∧ Below w.heap.size w w' := by
  obtain ⟨ad, cp, rfl, hc⟩ := hl
  have HC : Hid (∀ W, Below w.heap.size w W → ∀ i, i < l.length → (l.getD i default).ok ∧ ∃ b o, ad = some ⟨b, o, none⟩ ∧ DeedAt W b (o + i * 5) (l.getD i default)) := Lib.hid fun W hW i hi => by
    obtain ⟨b, o, ha, hlt, hd⟩ := hc i hi
    exact ⟨hok _ (by simp [List.getD, hi]), b, o, ha, hd.below hW hlt⟩
  have HW := Lib.hid works_any
  have Q8 : Hid (∀ W, Below w.heap.size w W → Calls Try.prog 8 #[] W fun e w' => ∃ p, e = .returned (.pointer (some ⟨p, 0, none⟩)) ∧ Sole w w' p FS.new) := Lib.hid fun W hW => sole_new w W hW
  clear hc hok
  go_enter Try.func5, Try.ntmps5
  go_wp2_with (first
    | (go_at_call 23; (with_reducible refine (HW.out _).mono ?_); rintro e w1 ⟨rfl, h1⟩; have HB1 := Lib.hid h1; clear h1)
    | (go_at_call 8; (with_reducible refine (Q8.out _ HB1.out).mono ?_); rintro e w2 ⟨p, rfl, h2⟩; have H2 := Lib.hid h2; clear h2 HB1))
  clear Q8 HW
  go_loopw [4, 5] (fun s4 s5 wr => ∃ (k : Nat) (S : FS), k ≤ 60 ∧ k ≤ l.length ∧ s5 = .int .i64 k ∧ s4 = .int .i64 (S.n : Nat) ∧ S.weight ≤ 2 * k ∧ Sole w wr p S) (fun _ s5 _ => 60 - (intOf s5).toNat)
  case atStart => exact ⟨0, FS.new, by omega, Nat.zero_le _, rfl, rfl, Nat.le_refl _, H2.out⟩
  case round =>
    obtain ⟨k, S, hk, hkl, rfl, rfl, hwt, hs⟩ := hrel
    have HS := Lib.hid hs
    clear hs H2
    obtain ⟨n0, hn0⟩ : ∃ n0, S.n = n0 := ⟨_, rfl⟩
    rw [hn0]
    by_cases hlk : k < l.length ∧ k < 60
    · obtain ⟨hlt, h60⟩ := hlk
      obtain ⟨⟨ok0, ok1, ok2, ok3, ok4, ok5⟩, b, o, rfl, c0, c1, c2, c3, c4⟩ := HC.out _ HS.out.below k hlt
      have HCW : Hid (∀ W, Below w.heap.size w W → DeedAt W b (o + k * 5) (l.getD k default)) := Lib.hid fun W hW => by
        obtain ⟨_, b2, o2, hb2, hd⟩ := HC.out W hW k hlt
        cases hb2
        exact hd
      obtain ⟨⟨x, a, b', n, raw⟩, hx⟩ : ∃ d, l.getD k default = d := ⟨_, rfl⟩
      rw [hx] at c0 c1 c2 c3 c4 ok0 ok1 ok2 ok3 ok4 ok5 HCW
      simp only at c0 c1 c2 c3 c4 ok0 ok1 ok2 ok3 ok4 ok5
      have e1 : decide ((k : Int) < (l.length : Int)) = true := decide_eq_true (by omega)
      have e2 : decide ((k : Int) < 60) = true := decide_eq_true (by omega)
      have hm7 : (x : Int).tmod 7 = ((x % 7 : Nat) : Int) := by rw [Int.tmod_eq_emod_of_nonneg (by omega)]; omega
      have hm72 : (x : Int) % 7 = ((x % 7 : Nat) : Int) := by omega
      obtain ⟨x7, hx7⟩ : ∃ x7, x % 7 = x7 := ⟨_, rfl⟩
      have hl7 : x7 ≤ 6 := by omega
      rw [hx7] at hm7 hm72
      -- what survives
      obtain ⟨S1, hS1⟩ : ∃ S1, (if x7 = 6 then S.survive n else S) = S1 := ⟨_, rfl⟩
      have hn1 : S1.n = n0 := by rw [← hS1, ← hn0]; split <;> rfl
      have hw1 : S1.weight ≤ 2 * k := by rw [← hS1]; split; exact Nat.le_trans (weight_survive S n) hwt; exact hwt
      have hS6 : x7 = 6 → Calls Try.prog 20 #[.pointer (some ⟨p, 0, none⟩), .int .i64 n] wr fun e w' => e = .returned (.tuple #[]) ∧ Sole w w' p S1 := fun h => by
        rw [← hS1, if_pos h]
        exact sole_survive HS.out n (by omega) (by omega)
      have hSn : x7 ≠ 6 → Sole w wr p S1 := fun h => by
        rw [← hS1, if_neg h]
        exact HS.out
      have HS6 := Lib.hid hS6
      have HSn := Lib.hid hSn
      clear hS6 hSn hS1 hx hx7 HC hn0 hwt
      go_upto_if 32 with fail
      go_cut [32] from 33 to 40 (fun _ wx => Sole w wx p S1)
      case first =>
        clear HCW
        by_cases h6 : x7 = 6
        · have h6b : ((x7 : Int) == 6) = true := by simp [h6]
          have Q := Lib.hid (HS6.out h6)
          clear h6 hl7
          go_wp2_with (go_at_call 20; (with_reducible refine Q.out.mono ?_); rintro e w3 ⟨rfl, h3⟩; have H3 := Lib.hid h3; clear h3)
          go_meet
          exact H3.out
        · have h6b : ((x7 : Int) == 6) = false := by simp; omega
          go_wp2_with fail
          go_meet
          exact HSn.out h6
      case rest =>
      have H3 := Lib.hid hcut
      clear hcut HS HS6 HSn hm7 hm72 hl7 c0 c1 c2 c3 c4
      obtain ⟨c0, c1, c2, c3, c4⟩ := HCW.out _ H3.out.below
      simp only at c0 c1 c2 c3 c4
      have hm3 : (x : Int).tmod 3 = ((x % 3 : Nat) : Int) := by rw [Int.tmod_eq_emod_of_nonneg (by omega)]; omega
      have hm32 : (x : Int) % 3 = ((x % 3 : Nat) : Int) := by omega
      obtain ⟨x3, hx3⟩ : ∃ x3, x % 3 = x3 := ⟨_, rfl⟩
      rw [hx3] at hm3 hm32
      go_upto_if 47 with fail
      go_cut [4] from 47 to 81 (fun s4 wx => ∃ S2 : FS, s4 = .int .i64 (S2.n : Nat) ∧ S2.weight ≤ 2 * (k + 1) ∧ Sole w wx p S2)
      case first =>
        by_cases h3 : x3 = 0
        · have h3b : ((x3 : Int) == 0) = true := by simp [h3]
          have Q10 : Hid (∀ W, Calls Try.prog 10 #[.int .u8 (a : Int)] W fun e w' => e = .returned (.string (nameT a)) ∧ Below W.heap.size W w') := Lib.hid fun W => name_any a ok1 W
          have hza := nameT_size a
          obtain ⟨na, hna⟩ : ∃ na, nameT a = na := ⟨_, rfl⟩
          rw [hna] at Q10 hza
          have hcn := create_n S1 na
          have hcw := weight_create S1 na
          have Q11 := fun W (h : Sole w W p S1) => sole_create h na (by omega) (by omega)
          obtain ⟨⟨S2, num, er⟩, hcr⟩ : ∃ r, S1.create na = r := ⟨_, rfl⟩
          rw [hcr, hn1] at hcn
          rw [hcr] at hcw Q11
          simp only at hcn hcw Q11
          have Q11 := Lib.hid Q11
          clear hna hcr h3
          rcases hcn with ⟨rfl, rfl, hn2⟩ | ⟨rfl | rfl, rfl, hn2⟩
          all_goals
            go_wp2_with (first
              | (go_at_call 10; (with_reducible refine (Q10.out _).mono ?_); rintro e w4 ⟨rfl, h4⟩; have H4 := Lib.hid (H3.out.next h4); clear h4)
              | (go_at_call 11; (with_reducible refine (Q11.out _ H4.out).mono ?_); rintro e w5 ⟨rfl, h5⟩; have H5 := Lib.hid h5; clear h5))
            go_meet
            refine ⟨S2, ?_, by omega, H5.out⟩
            congr 1
            omega
        · have h3b : ((x3 : Int) == 0) = false := by simp; omega
          have hdn := does_n S1 x a b' (by omega)
          have hdw := weight_does S1 x a b'
          have Q24 := Lib.hid (sole_does H3.out (by omega) x a b' n raw ok0 ok1 ok2)
          obtain ⟨S2, hS2⟩ : ∃ S2, S1.does x a b' = S2 := ⟨_, rfl⟩
          rw [hS2] at Q24 hdn hdw
          clear hS2 h3
          go_wp2_with (go_at_call 24; (with_reducible refine Q24.out.mono ?_); rintro e w4 ⟨rfl, h4⟩; have H4 := Lib.hid h4; clear h4)
          go_meet
          exact ⟨S2, by rw [hdn, hn1], by omega, H4.out⟩
      case rest =>
      obtain ⟨S2, rfl, hw2, hs⟩ := hcut
      have H4 := Lib.hid hs
      clear hs H3 c0 c1 c2 c3 c4 hm3 hm32 hx3 HCW hn1 hw1
      obtain ⟨L, hL⟩ : ∃ L, S2.there = L := ⟨_, rfl⟩
      have hgL := H4.out.good.there
      have hLw := S2.there_length
      have hnw : S2.n ≤ S2.weight := by unfold FS.weight; omega
      rw [hL] at hgL hLw
      obtain ⟨nn, hnn⟩ : ∃ nn, S2.n = nn := ⟨_, rfl⟩
      rw [hnn] at hgL hnw ⊢
      have Q28 : Hid (Calls Try.prog 28 #[.pointer (some ⟨p, 0, none⟩)] wc fun e w' => ∃ v, e = .returned v ∧ w'.ownsRow wc.heap.size 9 1 v L.length ((textsOf L).map Value.string) ∧ Below wc.heap.size wc w') := Lib.hid (H4.out.read fun _ _ _ _ hf => by
        have := names_any hf (by omega)
        rw [hL, textsOf_length] at this
        exact this)
      have Q29 : Hid (∀ W, Below wc.heap.size wc W → ∀ (j : Nat) (hj : j < L.length), Calls Try.prog 29 #[.pointer (some ⟨p, 0, none⟩), .string (strO L[j].1)] W fun e w' => e = .returned (.tuple #[.int .i64 (L[j].2 : Nat), .bool true]) ∧ W = w') := Lib.hid fun W hW j hj => by
        have := sole_find (H4.out.next hW) (strO L[j].1) (by have := hgL.short _ (List.getElem_mem hj); have := strO_size L[j].1; omega)
        rw [strO_data, hL, (good_found hgL hj).1, (good_found hgL hj).2] at this
        exact this
      have HGL := Lib.hid hgL
      clear hgL hL
      have hmm := @run_makeMap Try.prog
      go_upto_block 2 with (go_at_call 28; (with_reducible refine Q28.out.mono ?_); rintro e w5 ⟨v, rfl, r5, h5⟩; obtain ⟨ad5, c5, hv⟩ := row_shape r5; subst hv; have R5 := Lib.hid r5; have H5 := Lib.hid h5; clear r5 h5)
      clear hmm
      go_wp2_with fail
      go_loopw [10] (fun s10 W => ∃ j : Nat, j ≤ L.length ∧ s10 = .int .i64 j ∧ Below w5.heap.size w5 W ∧ Seen W w5.heap.size L j) (fun s10 _ => L.length - (intOf s10).toNat)
      case atStart => exact ⟨0, Nat.zero_le _, rfl, below_alloc' (Below.refl _ _), seen_made _ _⟩
      case round =>
        obtain ⟨j, hj, rfl, hb6, hs6⟩ := hrel
        have HB6 := Lib.hid hb6
        have HS6 := Lib.hid hs6
        clear hb6 hs6
        by_cases hlj : j < L.length
        · have e3 : decide ((j : Int) < (L.length : Int)) = true := decide_eq_true (by omega)
          obtain ⟨g, rfl, hcell⟩ := row_cells R5.out (by omega)
          have c0 := hcell _ HB6.out j hlj
          have Q29' := Lib.hid (Q29.out _ (Below.next H5.out HB6.out) j hlj)
          obtain ⟨m, hm⟩ : ∃ m, L[j].2 = m := ⟨_, rfl⟩
          obtain ⟨tx, htx⟩ : ∃ tx, strO L[j].1 = tx := ⟨_, rfl⟩
          have hrg := HGL.out.range _ (List.getElem_mem hlj)
          have hfr := good_fresh HGL.out hlj
          rw [hm, htx] at Q29'
          rw [htx] at c0
          rw [hm] at hrg hfr
          go_upto_region 22 with (go_at_call 29; (with_reducible refine Q29'.out.mono ?_); rintro e w7 ⟨rfl, rfl⟩)
          have HSd : Hid (∀ W, Below wr.heap.size wr W → Seen W w5.heap.size L j) := Lib.hid fun W hW => HS6.out.same (hW.block _ HS6.out.lt)
          have hlook : ∀ d os, (Instr.lookup 49 (.map (some w5.heap.size)) (.int .i64 (m : Int)) false).run Try.prog (Sort.grow (redrawn wr d) os) = .ok (.int .i64 0) (Sort.grow (redrawn wr d) os) := fun d os => (HSd.out _ (below_regrown wr d os)).look m (by omega) hfr
          have gc0 := fun d os => cell_regrown c0 d os
          have f1 : decide ((m : Int) < 1) = false := decide_eq_false (by omega)
          have f2 : decide ((nn : Int) < (m : Int)) = false := decide_eq_false (by omega)
          have hj6 : j ≤ 9000 := by omega
          have f2' : decide (nn < m) = false := decide_eq_false (by omega)
          clear hfr
          rcases Nat.eq_zero_or_pos j with hj0 | hj0
          · have f3 : decide (0 < (j : Int)) = false := decide_eq_false (by omega)
            have f3' : decide (0 < j) = false := decide_eq_false (by omega)
            clear hj0 hcell
            refine wp_region_quiet_below (by kernel_rfl) (by kernel_rfl) ?_
            repeat (go_big_quiet_step (fail))
            refine wpQuiet_nil ?_
            intro _ hw'
            obtain ⟨⟨dq, osq⟩, hw''⟩ := hw'
            subst hw''
            have HB7 := Lib.hid (below_regrown wr dq osq)
            have HS7 := Lib.hid (HSd.out _ HB7.out)
            generalize Sort.grow (redrawn wr dq) osq = w7 at HB7 HS7 ⊢
            clear gc0 hlook HSd
            go_wp2_with (at_mapUpdate; refine wpList_put_seen _ rfl _ _ _ rfl w5.heap.size L j m rfl rfl rfl HS7.out hlj (by omega) (by omega) hm ?_; intro w8 h8 g8; have H8 := Lib.hid (And.intro h8 g8); clear h8 g8)
            have h78 : Below w5.heap.size w7 w8 := (Kept.grown (M := fun g => g = w5.heap.size) H8.out.2 (fun g hg => by cases hg; rfl)).to (by have := HB6.out.size; have := HB7.out.size; omega) (fun g hg => by omega)
            exact ⟨⟨j + 1, by omega, by go_num, (Below.next HB6.out HB7.out).trans h78, H8.out.1⟩, by simp [intOf]; omega⟩
          · obtain ⟨i, hi⟩ : ∃ i, i + 1 = j := ⟨j - 1, by omega⟩
            have hil : i < L.length := by omega
            have f3 : decide (0 < (j : Int)) = true := decide_eq_true (by omega)
            have f3' : decide (0 < j) = true := decide_eq_true (by omega)
            have c1 := hcell _ HB6.out i hil
            have hlt : L[i].1 < L[j].1 := by subst hi; exact good_next HGL.out hlj
            obtain ⟨ty, hty⟩ : ∃ ty, strO L[i].1 = ty := ⟨_, rfl⟩
            rw [hty] at c1
            have hlq : (Op.bytesLess tx.toList ty.toList || tx.toList == ty.toList) = false := leq_false (by rw [← htx, ← hty, strO_data, strO_data]; exact hlt)
            have hl1 : Op.bytesLess tx.toList ty.toList = false := by
              cases hq : Op.bytesLess tx.toList ty.toList with
              | false => rfl
              | true => rw [hq] at hlq; cases hlq
            have hl2 : (tx.toList == ty.toList) = false := by
              cases hq : (tx.toList == ty.toList) with
              | false => rfl
              | true => rw [hq, Bool.or_true] at hlq; cases hlq
            have gc1 := fun d os => cell_regrown c1 d os
            have hji : (j : Int) - 1 = (i : Int) := by omega
            have hji2 : IntKind.i64.wrap (i : Int) = (i : Int) := IntWalk.i64_in _ ⟨by omega, by omega⟩
            clear hcell hlt hj0 hlq hty
            refine wp_region_quiet_below (by kernel_rfl) (by kernel_rfl) ?_
            repeat (go_big_quiet_step (fail))
            refine wpQuiet_nil ?_
            intro _ hw'
            obtain ⟨⟨dq, osq⟩, hw''⟩ := hw'
            subst hw''
            have HB7 := Lib.hid (below_regrown wr dq osq)
            have HS7 := Lib.hid (HSd.out _ HB7.out)
            generalize Sort.grow (redrawn wr dq) osq = w7 at HB7 HS7 ⊢
            clear gc0 hlook HSd gc1
            go_wp2_with (at_mapUpdate; refine wpList_put_seen _ rfl _ _ _ rfl w5.heap.size L j m rfl rfl rfl HS7.out hlj (by omega) (by omega) hm ?_; intro w8 h8 g8; have H8 := Lib.hid (And.intro h8 g8); clear h8 g8)
            have h78 : Below w5.heap.size w7 w8 := (Kept.grown (M := fun g => g = w5.heap.size) H8.out.2 (fun g hg => by cases hg; rfl)).to (by have := HB6.out.size; have := HB7.out.size; omega) (fun g hg => by omega)
            exact ⟨⟨j + 1, by omega, by go_num, (Below.next HB6.out HB7.out).trans h78, H8.out.1⟩, by simp [intOf]; omega⟩
        · have e3 : decide ((j : Int) < (L.length : Int)) = false := decide_eq_false (by omega)
          go_wp2_with fail
          exact ⟨⟨k + 1, S2, by omega, by omega, by go_num, by rw [hnn], hw2, H4.out.next (Below.next H5.out HB6.out)⟩, by simp [intOf]; omega⟩
    · have hb : k < l.length ∧ ¬ k < 60 ∨ ¬ k < l.length := by omega
      rcases hb with ⟨h1, h2⟩ | h1
      · have e1 : decide ((k : Int) < (l.length : Int)) = true := decide_eq_true (by omega)
        have e2 : decide ((k : Int) < 60) = false := decide_eq_false (by omega)
        go_wp2_with fail
        go_ret
        exact ⟨rfl, HS.out.below⟩
      · have e1 : decide ((k : Int) < (l.length : Int)) = false := decide_eq_false (by omega)
        go_wp2_with fail
        go_ret
        exact ⟨rfl, HS.out.below⟩
end Go.Proofs.Ytfjgefnklelnnaa

/-
  DistMeasures' walk.
-/
import Derived.Test.YtbdbcfidbapioaaG11
set_option linter.unusedVariables false
set_option linter.unusedSimpArgs false
namespace Go.Proofs.Ytbdbcfidbapioaa
open Go.RowKit Go.Shelf Said

theorem tmod_nat (n m : Nat) : (n : Int).tmod ((m : Int) + 1) = ((n % (m + 1) : Nat) : Int) := by
  rw [Int.tmod_eq_emod_of_nonneg (by omega)]
  exact (Int.natCast_emod n (m + 1)).symm

theorem conv_oneb (W : World) (c : UInt8) : (convert 35 9 (.slice (some ⟨W.heap.size, 0, none⟩) 1 1)).run Try.prog (W.alloc (.cells #[.int .u8 (c.toNat : Int)] 5)) = .ok (.string ⟨#[c]⟩) (W.alloc (.cells #[.int .u8 (c.toNat : Int)] 5)) :=
  conv_bytes' (l := [c]) (World.ownsRow_lit W #[.int .u8 (c.toNat : Int)] 1 (Nat.le_refl _) (by unfold maxLen; omega) rfl) rfl

theorem of_eq (a b : ByteArray) (n : Nat) (ha : a.size ≤ 1000) (hb : b.size ≤ 1000) (h : lev a.data.toList b.data.toList = n) : ∀ w : World, Calls Try.prog 9 #[.string a, .string b] w fun e w' => e = .returned (.int .i64 (n : Int)) ∧ Below w.heap.size w w' := fun w => of_lit a b n ha hb h w

/-- A byte put in at a place. -/
theorem lev_more (a b : List UInt8) (c : UInt8) (k : Nat) : lev (a.take k ++ [c] ++ a.drop k) b ≤ lev a b + 1 ∧ lev a b ≤ lev (a.take k ++ [c] ++ a.drop k) b + 1 := by
  have h := lev_put (a.take k) (a.drop k) c
  rw [List.take_append_drop] at h
  have h1 := lev_tri (a.take k ++ [c] ++ a.drop k) a b
  have h2 := lev_tri a (a.take k ++ [c] ++ a.drop k) b
  rw [lev_comm a (a.take k ++ [c] ++ a.drop k)] at h2
  omega
theorem lev_more_one (a : List UInt8) (c : UInt8) (k : Nat) : lev (a.take k ++ [c] ++ a.drop k) a = 1 := by
  have h := lev_put (a.take k) (a.drop k) c
  rw [List.take_append_drop] at h
  have h1 := lev_length (a.take k ++ [c] ++ a.drop k) a
  have h2 : (a.take k ++ [c] ++ a.drop k).length = a.length + 1 := by
    rw [List.length_append, List.length_append, List.length_singleton]
    have := congrArg List.length (List.take_append_drop k a)
    rw [List.length_append] at this
    omega
  omega

def cut40 (s : ByteArray) : ByteArray := s.extract 0 (min s.size 40)
theorem cut40_size (s : ByteArray) : (cut40 s).size ≤ 40 := by
  unfold cut40
  rw [ByteArray.size_extract]
  omega

set_option maxHeartbeats 10000000 in
set_option maxRecDepth 100000 in
theorem measures_walk (l0 l1 l2 : ByteArray) (c : UInt8) (at' : Nat) (w : World) (h0 : l0.size ≤ 9223372036854775807) (h1 : l1.size ≤ 9223372036854775807) (h2 : l2.size ≤ 9223372036854775807) (hat : at' < 256) :
    Calls Try.prog 4 #[.agg #[.string l0, .string l1, .string l2], .int .u8 (c.toNat : Int), .int .u8 (at' : Int)] w fun e w' => e = .returned (.bool true) ∧ Below w.heap.size w w' := by
  have QW := Lib.hid works_any
  obtain ⟨B, hB⟩ : ∃ B, B = w.heap.size := ⟨_, rfl⟩
  go_enter Try.func4, Try.ntmps4
  go_wp2_with (go_at_call 17; (with_reducible refine (QW.out _).mono ?_); rintro e w1 ⟨rfl, hb1⟩)
  have hblk : Hid (w1.heap[B]? = some (.cells #[.string l0, .string l1, .string l2] 34 (0, 0))) := Lib.hid (by
    rw [hB, hb1.block _ (by simp)]
    exact heap_alloc_new w _)
  have HB1 : Hid (Below w.heap.size w w1) := Lib.hid ((below_alloc w _).trans (hb1.mono (by simp)))
  rw [← hB]
  have HBB := Lib.hid hB
  clear hb1 hB
  go_loopw [7] (fun s7 wr => ∃ (k : Nat) (y0 y1 y2 : ByteArray), k ≤ 3 ∧ s7 = .int .i64 (k : Int) ∧ Hid (wr.heap[B]? = some (.cells #[.string y0, .string y1, .string y2] 34 (0, 0))) ∧ Hid ((y0 = if 0 < k then cut40 l0 else l0) ∧ (y1 = if 1 < k then cut40 l1 else l1) ∧ (y2 = if 2 < k then cut40 l2 else l2)) ∧ Hid (Below w.heap.size w wr)) (fun s7 _ => 3 - (intOf s7).toNat)
  case atStart => exact ⟨0, l0, l1, l2, by omega, rfl, hblk, Lib.hid ⟨rfl, rfl, rfl⟩, HB1⟩
  case round =>
    obtain ⟨k, y0, y1, y2, hk, rfl, HK, HY, HB⟩ := hrel
    have c0 : wr.cell? ⟨B, 0, none⟩ = some (.string y0) := by rw [cell_of_row wr B 0 _ _ _ HK.out]; rfl
    have c1 : wr.cell? ⟨B, 1, none⟩ = some (.string y1) := by rw [cell_of_row wr B 1 _ _ _ HK.out]; rfl
    have c2 : wr.cell? ⟨B, 2, none⟩ = some (.string y2) := by rw [cell_of_row wr B 2 _ _ _ HK.out]; rfl
    have fr : ∀ o, wr.frozen? ⟨B, o, none⟩ = false := fun o => frozen_of_row wr B o _ _ HK.out
    have f0 := fr 0
    have f1 := fr 1
    have f2 := fr 2
    clear fr
    have hBw : w.heap.size ≤ B := by rw [HBB.out]; exact Nat.le_refl _
    have HBw := Lib.hid hBw
    clear hBw
    by_cases hlt : k < 3
    · rcases (show k = 0 ∨ k = 1 ∨ k = 2 by omega) with rfl | rfl | rfl
      · have e : y0 = l0 := by have := HY.out.1; simpa using this
        have q : (if (40 : Int) < (y0.size : Int) then 40 else (y0.size : Int)) = ((min y0.size 40 : Nat) : Int) := by split <;> omega
        have hs : y0.size ≤ 9223372036854775807 := by rw [e]; exact h0
        have i1 : ((min y0.size 40 : Nat) : Int) ≤ (y0.size : Int) := by omega
        have HE := Lib.hid e
        obtain ⟨p, hp⟩ : ∃ p, min y0.size 40 = p := ⟨_, rfl⟩
        rw [hp] at q i1
        have HP := Lib.hid hp
        clear hp e hlt
        go_wp2
        go_region
        go_wp2
        refine ⟨⟨1, cut40 l0, y1, y2, by omega, by first | rfl | go_num, Lib.hid ?_, Lib.hid ⟨rfl, HY.out.2.1, HY.out.2.2⟩, Lib.hid (Below.drew (HB.out.setCell (p := ⟨B, 0, none⟩) HBw.out _))⟩, by simp [intOf]⟩
        have h := cells_setCell HK.out 0 (.string (cut40 l0))
        unfold cut40 at h ⊢
        rw [← HE.out, HP.out] at h ⊢
        exact h
      · have e : y1 = l1 := by have := HY.out.2.1; simpa using this
        have q : (if (40 : Int) < (y1.size : Int) then 40 else (y1.size : Int)) = ((min y1.size 40 : Nat) : Int) := by split <;> omega
        have hs : y1.size ≤ 9223372036854775807 := by rw [e]; exact h1
        have i1 : ((min y1.size 40 : Nat) : Int) ≤ (y1.size : Int) := by omega
        have HE := Lib.hid e
        obtain ⟨p, hp⟩ : ∃ p, min y1.size 40 = p := ⟨_, rfl⟩
        rw [hp] at q i1
        have HP := Lib.hid hp
        clear hp e hlt
        go_wp2
        go_region
        go_wp2
        refine ⟨⟨2, y0, cut40 l1, y2, by omega, by first | rfl | go_num, Lib.hid ?_, Lib.hid ⟨HY.out.1, rfl, HY.out.2.2⟩, Lib.hid (Below.drew (HB.out.setCell (p := ⟨B, 1, none⟩) HBw.out _))⟩, by simp [intOf]⟩
        have h := cells_setCell HK.out 1 (.string (cut40 l1))
        unfold cut40 at h ⊢
        rw [← HE.out, HP.out] at h ⊢
        exact h
      · have e : y2 = l2 := by have := HY.out.2.2; simpa using this
        have q : (if (40 : Int) < (y2.size : Int) then 40 else (y2.size : Int)) = ((min y2.size 40 : Nat) : Int) := by split <;> omega
        have hs : y2.size ≤ 9223372036854775807 := by rw [e]; exact h2
        have i1 : ((min y2.size 40 : Nat) : Int) ≤ (y2.size : Int) := by omega
        have HE := Lib.hid e
        obtain ⟨p, hp⟩ : ∃ p, min y2.size 40 = p := ⟨_, rfl⟩
        rw [hp] at q i1
        have HP := Lib.hid hp
        clear hp e hlt
        go_wp2
        go_region
        go_wp2
        refine ⟨⟨3, y0, y1, cut40 l2, by omega, by first | rfl | go_num, Lib.hid ?_, Lib.hid ⟨HY.out.1, HY.out.2.1, rfl⟩, Lib.hid (Below.drew (HB.out.setCell (p := ⟨B, 2, none⟩) HBw.out _))⟩, by simp [intOf]⟩
        have h := cells_setCell HK.out 2 (.string (cut40 l2))
        unfold cut40 at h ⊢
        rw [← HE.out, HP.out] at h ⊢
        exact h
    · have hk3 : k = 3 := by omega
      subst hk3
      obtain ⟨g0, g1, g2⟩ := HY.out
      rw [if_pos (by omega)] at g0 g1 g2
      have sA : y0.size ≤ 40 := by rw [g0]; exact cut40_size _
      have sD : y1.size ≤ 40 := by rw [g1]; exact cut40_size _
      have sC : y2.size ≤ 40 := by rw [g2]; exact cut40_size _
      clear g0 g1 g2 HY hlt hk
      obtain ⟨A, hA⟩ : ∃ A, A = y0 := ⟨_, rfl⟩
      obtain ⟨D, hD⟩ : ∃ D, D = y1 := ⟨_, rfl⟩
      obtain ⟨C, hC⟩ : ∃ C, C = y2 := ⟨_, rfl⟩
      rw [← hA] at sA c0 HK
      rw [← hD] at sD c1 HK
      rw [← hC] at sC c2 HK
      clear hA hD hC
      obtain ⟨na, hna⟩ : ∃ na, na = A.size := ⟨_, rfl⟩
      obtain ⟨nd, hnd⟩ : ∃ nd, nd = D.size := ⟨_, rfl⟩
      obtain ⟨N, hN⟩ : ∃ N, lev A.data.toList D.data.toList = N := ⟨_, rfl⟩
      obtain ⟨P, hP⟩ : ∃ P, lev A.data.toList C.data.toList = P := ⟨_, rfl⟩
      obtain ⟨R, hR⟩ : ∃ R, lev C.data.toList D.data.toList = R := ⟨_, rfl⟩
      have QN := Lib.hid (of_eq A D N (by omega) (by omega) hN)
      have QM := Lib.hid (of_eq D A N (by omega) (by omega) (by rw [lev_comm]; exact hN))
      have QP := Lib.hid (of_eq A C P (by omega) (by omega) hP)
      have QRr := Lib.hid (of_eq C D R (by omega) (by omega) hR)
      have tri := lev_tri A.data.toList C.data.toList D.data.toList
      rw [hN, hP, hR] at tri
      have len := lev_length A.data.toList D.data.toList
      rw [hN, ba_length, ba_length, ← hna, ← hnd] at len
      have lmx := lev_max A.data.toList D.data.toList
      rw [hN, ba_length, ba_length, ← hna, ← hnd] at lmx
      have lmP := lev_max A.data.toList C.data.toList
      rw [hP, ba_length, ba_length] at lmP
      have lmR := lev_max C.data.toList D.data.toList
      rw [hR, ba_length, ba_length] at lmR
      obtain ⟨z, hz⟩ : ∃ z, decide (A = D) = z := ⟨_, rfl⟩
      have z1 : ((N : Int) == 0) = z := by
        rw [← hz, Bool.eq_iff_iff, beq_iff_eq, decide_eq_true_eq]
        rw [← hN]
        refine ⟨fun h => ba_ext ((lev_zero _ _).1 (by omega)), fun h => ?_⟩
        have := (lev_zero A.data.toList D.data.toList).2 (by rw [h])
        omega
      have z1' : (N == 0) = z := by rw [← z1, Bool.eq_iff_iff]; (simp <;> omega)
      have z2 : (A.toList == D.toList) = z := by rw [toList_beq]; exact hz
      have z3 : (z == z) = true := by cases z <;> rfl
      have z4 : (z != z) = false := by cases z <;> rfl
      have z5 : ((N : Int) == (N : Int)) = true := by simp
      have wPR : IntKind.i64.wrap ((P : Int) + (R : Int)) = (P : Int) + (R : Int) := IntWalk.i64_in _ (by omega)
      have wad : IntKind.i64.wrap ((na : Int) - (nd : Int)) = (na : Int) - (nd : Int) := IntWalk.i64_in _ (by omega)
      have wda : IntKind.i64.wrap ((nd : Int) - (na : Int)) = (nd : Int) - (na : Int) := IntWalk.i64_in _ (by omega)
      have d1 : decide ((P : Int) + (R : Int) < (N : Int)) = false := decide_eq_false (by omega)
      have d1' : decide (P + R < N) = false := decide_eq_false (by omega)
      have d2 : decide ((N : Int) < (na : Int) - (nd : Int)) = false := decide_eq_false (by omega)
      have d3 : decide ((N : Int) < (nd : Int) - (na : Int)) = false := decide_eq_false (by omega)
      obtain ⟨mx, hmx⟩ : ∃ mx, mx = max na nd := ⟨_, rfl⟩
      have d4 : decide ((mx : Int) < (N : Int)) = false := decide_eq_false (by omega)
      have d4' : decide (mx < N) = false := decide_eq_false (by omega)
      have m1 : (if (na : Int) < (nd : Int) then (nd : Int) else (na : Int)) = (mx : Int) := by split <;> omega
      have m2 : (if na < nd then (nd : Int) else (na : Int)) = (mx : Int) := by split <;> omega
      have e1 : (A.size : Int) = (na : Int) := by rw [hna]
      have e2 : (D.size : Int) = (nd : Int) := by rw [hnd]
      have HNN := Lib.hid (And.intro hN (And.intro hna hnd))
      clear hN hP hR hz tri len lmx lmP lmR hna hnd hmx f0 f1 f2
      go_wp2_with fail
      go_region
      go_wp2_with (go_at_call 9; (with_reducible refine (QN.out _).mono ?_); rintro e w4 ⟨rfl, hb4⟩)
      have HB4 : Hid (Below w.heap.size w w4) := Lib.hid (HB.out.trans ((below_drew wr).trans (hb4.mono (Nat.le_refl _)) |>.mono HB.out.size))
      have HC2 : Hid (∀ W, Below w4.heap.size w4 W → W.cell? ⟨B, 2, none⟩ = some (.string C)) := Lib.hid fun W hb => by
        have h1 : wr.drew.heap[B]? = some (.cells #[.string A, .string D, .string C] 34 (0, 0)) := HK.out
        have h2 := (hb4.block B (Array.getElem?_eq_some_iff.1 h1).1).trans h1
        have h3 := (hb.block B (Array.getElem?_eq_some_iff.1 h2).1).trans h2
        rw [cell_of_row W B 2 _ _ _ h3]
        rfl
      clear c0 c1 c2 hb4
      go_upto_region 9 with fail
      refine Said.region (by kernel_rfl) (by kernel_rfl) (by kernel_rfl) [.is (.int .i64 (N : Int)), .is (.bool z), .is (.string A), .is (.string D), .is (.bool z), .is (.bool false), .is (.bool false), .is (.string D), .is (.string A), .is (.int .i64 (N : Int)), .is (.int .i64 (N : Int)), .is (.bool false), .is (.bool false), .is (.bool false), .is (.int .i64 (N : Int)), .is (.string A), .is (.pointer (some ⟨B, 2, none⟩)), .is (.string C), .is (.int .i64 (P : Int)), .is (.pointer (some ⟨B, 2, none⟩)), .is (.string C), .is (.string D), .is (.int .i64 (R : Int)), .is (.int .i64 ((P : Int) + (R : Int))), .is (.bool false), .is (.bool false), .is (.bool false), .is (.int .i64 (N : Int)), .is (.string A), .is (.int .i64 (na : Int)), .is (.string D), .is (.int .i64 (nd : Int)), .is (.int .i64 ((na : Int) - (nd : Int))), .is (.bool false), .is (.bool false), .is (.bool false), .is (.int .i64 (N : Int)), .is (.string D), .is (.int .i64 (nd : Int)), .is (.string A), .is (.int .i64 (na : Int)), .is (.int .i64 ((nd : Int) - (na : Int))), .is (.bool false), .is (.bool false), .is (.bool false), .is (.int .i64 (N : Int)), .is (.string A), .is (.int .i64 (na : Int)), .is (.string D), .is (.int .i64 (nd : Int)), .is (.int .i64 (mx : Int)), .is (.bool false), .is (.bool false)] ?_
      simp only [List.toList_toArray]
      iterate 9 (
        refine sq_pure (by rfl) (fun W hb _ => ?_) ?_
        · have t2 := HC2.out W hb
          go_simp
          all_goals first | done | omega
        simp only [Act.put, List.setIfInBounds_toArray, List.set_cons_zero, List.set_cons_succ])
      refine sq_call (f := 9) (args := #[.string D, .string A]) (by rfl) (fun W => by go_simp) (fun W hb _ => QM.out W) ?_
      simp only [Act.put, List.setIfInBounds_toArray, List.set_cons_zero, List.set_cons_succ]
      iterate 8 (
        refine sq_pure (by rfl) (fun W hb _ => ?_) ?_
        · have t2 := HC2.out W hb
          go_simp
          all_goals first | done | omega
        simp only [Act.put, List.setIfInBounds_toArray, List.set_cons_zero, List.set_cons_succ])
      refine sq_call (f := 9) (args := #[.string A, .string C]) (by rfl) (fun W => by go_simp) (fun W hb _ => QP.out W) ?_
      simp only [Act.put, List.setIfInBounds_toArray, List.set_cons_zero, List.set_cons_succ]
      iterate 3 (
        refine sq_pure (by rfl) (fun W hb _ => ?_) ?_
        · have t2 := HC2.out W hb
          go_simp
          all_goals first | done | omega
        simp only [Act.put, List.setIfInBounds_toArray, List.set_cons_zero, List.set_cons_succ])
      refine sq_call (f := 9) (args := #[.string C, .string D]) (by rfl) (fun W => by go_simp) (fun W hb _ => QRr.out W) ?_
      simp only [Act.put, List.setIfInBounds_toArray, List.set_cons_zero, List.set_cons_succ]
      iterate 30 (
        refine sq_pure (by rfl) (fun W hb _ => ?_) ?_
        · have t2 := HC2.out W hb
          go_simp
          all_goals first | done | omega
        simp only [Act.put, List.setIfInBounds_toArray, List.set_cons_zero, List.set_cons_succ])
      refine sq_end (fun w5 hb5 hK5 => ?_)
      have HB5 := Lib.hid (HB4.out.trans (hb5.mono HB4.out.size))
      clear hK5 hb5 d1 d1' d2 d3 d4 d4' m1 m2 wPR wad wda z1 z1' z2 z3 z4
      obtain ⟨one, hone⟩ : ∃ one : ByteArray, one = ⟨#[c]⟩ := ⟨_, rfl⟩
      have s1 : one.size = 1 := by rw [hone]; rfl
      have cvo : ∀ W : World, (convert 35 9 (.slice (some ⟨W.heap.size, 0, none⟩) 1 1)).run Try.prog (W.alloc (.cells #[.int .u8 (c.toNat : Int)] 5)) = .ok (.string one) (W.alloc (.cells #[.int .u8 (c.toNat : Int)] 5)) := fun W => by rw [hone]; exact conv_oneb W c
      have cv := cvo w5
      have bone : one.data.toList = [c] := by rw [hone]
      have HONE := Lib.hid (And.intro s1 bone)
      have b1 : ¬ 9223372036854775807 < 1 + A.size := by omega
      have b2 : ¬ 9223372036854775807 < 1 + D.size := by omega
      have b3 : ¬ 9223372036854775807 < A.size + 1 := by omega
      have b4 : ¬ 9223372036854775807 < D.size + 1 := by omega
      have Q1 := Lib.hid (of_eq (one ++ A) (one ++ D) N (by rw [ba_size_append]; omega) (by rw [ba_size_append]; omega) (by rw [ba_append, ba_append, bone]; show lev (c :: _) (c :: _) = N; rw [lev_front]; exact HNN.out.1))
      have Q2 := Lib.hid (of_eq (A ++ one) (D ++ one) N (by rw [ba_size_append]; omega) (by rw [ba_size_append]; omega) (by rw [ba_append, ba_append, bone, lev_behind]; exact HNN.out.1))
      clear cvo hone bone
      obtain ⟨kp, hkp⟩ : ∃ kp, kp = at' % (na + 1) := ⟨_, rfl⟩
      have hkl : kp ≤ na := by rw [hkp]; have := Nat.mod_lt at' (show 0 < na + 1 by omega); omega
      have tm : (at' : Int).tmod ((na : Int) + 1) = (kp : Int) := by rw [tmod_nat, hkp]
      have tm2 : (at' : Int) % ((na : Int) + 1) = (kp : Int) := by rw [← tm, Int.tmod_eq_emod_of_nonneg (by omega)]
      have tz : ((na : Int) + 1 == 0) = false := by simp; omega
      have i3 : (kp : Int) ≤ (na : Int) := by omega
      obtain ⟨more, hmore⟩ : ∃ more, more = A.extract 0 kp ++ one ++ A.extract kp A.size := ⟨_, rfl⟩
      have hml : more.data.toList = A.data.toList.take kp ++ [c] ++ A.data.toList.drop kp := by
        rw [hmore, ba_append, ba_append, HONE.out.2, ba_extract, ba_extract, List.drop_zero, Nat.sub_zero, List.take_of_length_le (l := List.drop kp _) (by rw [List.length_drop, ba_length]; omega)]
      have hms : more.size = na + 1 := by
        rw [← ba_length, hml, List.length_append, List.length_append, List.length_singleton, List.length_take, List.length_drop, ba_length, ← HNN.out.2.1]
        omega
      obtain ⟨d, hd⟩ : ∃ d, lev more.data.toList D.data.toList = d := ⟨_, rfl⟩
      have Q3 := Lib.hid (of_eq more D d (by omega) (by omega) hd)
      have Q4 := Lib.hid (of_eq more A 1 (by omega) (by omega) (by rw [hml]; exact lev_more_one _ _ _))
      have hdn : d ≤ N + 1 ∧ N ≤ d + 1 := by
        have := lev_more A.data.toList D.data.toList c kp
        rw [← hml, hd, HNN.out.1] at this
        exact this
      have wN1 : IntKind.i64.wrap ((N : Int) - 1) = (N : Int) - 1 := IntWalk.i64_in _ (by have := HNN.out; have := lev_max A.data.toList D.data.toList; rw [HNN.out.1, ba_length, ba_length] at this; omega)
      have wN2 : IntKind.i64.wrap ((N : Int) + 1) = (N : Int) + 1 := IntWalk.i64_in _ (by have := HNN.out; have := lev_max A.data.toList D.data.toList; rw [HNN.out.1, ba_length, ba_length] at this; omega)
      have nb : N ≤ 80 := by have := lev_max A.data.toList D.data.toList; rw [HNN.out.1, ba_length, ba_length] at this; omega
      have g1 : decide ((N : Int) - 1 ≤ (d : Int)) = true := decide_eq_true (by omega)
      have g2 : decide ((d : Int) ≤ (N : Int) + 1) = true := decide_eq_true (by omega)
      have g3 : decide (d ≤ N + 1) = true := decide_eq_true (by omega)
      have b5 : (A.extract 0 kp).size = kp := by rw [ByteArray.size_extract]; have := HNN.out; omega
      have b6 : (A.extract kp A.size).size = na - kp := by rw [ByteArray.size_extract]; have := HNN.out; omega
      have HM := Lib.hid (And.intro hmore (And.intro hml hms))
      have HH : Hid (Below w.heap.size w (w5.alloc (.cells #[.int .u8 (c.toNat : Int)] 5))) := Lib.hid (HB5.out.trans ((below_alloc w5 _).mono HB5.out.size))
      clear hkp tm2 hd hdn hml hms
      go_upto_region 15 with (go_at_call 9; (first | (with_reducible refine (Q1.out _).mono ?_) | (with_reducible refine (Q2.out _).mono ?_)); rintro e w6 ⟨rfl, hb6⟩; replace HH := Lib.hid (HH.out.trans (hb6.mono HH.out.size)); clear hb6)
      have b7 : ¬ 9223372036854775807 < kp + 1 := by omega
      have b8 : ¬ 9223372036854775807 < kp + 1 + (na - kp) := by omega
      go_region
      rw [← hmore]
      replace HH := Lib.hid (Below.drew HH.out)
      clear hmore b1 b2 b3 b4 b5 b6 b7 b8 tm tz i3 hkl
      go_wp2_with (go_at_call 9; (first | (with_reducible refine (Q3.out _).mono ?_) | (with_reducible refine (Q4.out _).mono ?_)); rintro e w6 ⟨rfl, hb6⟩; replace HH := Lib.hid (HH.out.trans (hb6.mono HH.out.size)); clear hb6)
      go_ret
      exact ⟨rfl, HH.out⟩

theorem measures_in (l0 l1 l2 : ByteArray) (c at' : Nat) (w : World) (h0 : l0.size ≤ 9223372036854775807) (h1 : l1.size ≤ 9223372036854775807) (h2 : l2.size ≤ 9223372036854775807) (hc : c < 256) (hat : at' < 256) :
    Calls Try.prog 4 #[.agg #[.string l0, .string l1, .string l2], .int .u8 (c : Int), .int .u8 (at' : Int)] w fun e w' => e = .returned (.bool true) ∧ Below w.heap.size w w' := by
  have h := measures_walk l0 l1 l2 (UInt8.ofNat c) at' w h0 h1 h2 hat
  rw [show (UInt8.ofNat c).toNat = c by simp; omega] at h
  exact h
end Go.Proofs.Ytbdbcfidbapioaa

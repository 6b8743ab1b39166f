/-
  The walk of FrameMoves.
-/
import Derived.Test.YtnndabjhdhnleaaDoorFWorks
import Derived.Test.YtnndabjhdhnleaaDoorFMath2
import Derived.Test.YtnndabjhdhnleaaDoorFIs
namespace Go.Proofs.YtnndabjhdhnleaaDoor
open Go.RowKit

set_option maxRecDepth 100000 in
set_option maxHeartbeats 4000000 in
theorem moves_walk (s x0 x1 S U P F T V Y Z Z' A : ByteArray) (k1 k2 k3 c n N e : Nat) (e8 : Int) (w : World) (hF : Fours w) (_hs : s.size ≤ 9223372036854775807) (_h0 : x0.size ≤ 9223372036854775807) (_h1 : x1.size ≤ 9223372036854775807) (hc : c < 65536)
    (m1 : min (s.size : Int) 400 = (k1 : Int)) (m2 : min (x0.size : Int) 50 = (k2 : Int)) (m3 : min (x1.size : Int) 300 = (k3 : Int)) (b1 : (k1 : Int) ≤ (s.size : Int)) (b2 : (k2 : Int) ≤ (x0.size : Int)) (b3 : (k3 : Int) ≤ (x1.size : Int))
    (hS : s.extract 0 k1 = S) (hU : x0.extract 0 k2 = U) (hP : x1.extract 0 k3 = P) (hT : F ++ S = T) (hV : U ++ T = V) (hY : T.extract n T.size = Y) (hZ : T.extract 0 N = Z) (hZ' : Z ++ U = Z')
    (sF : F.size ≤ 1000) (sS : S.size ≤ 1000) (sU : U.size ≤ 1000) (sT : T.size ≤ 2000) (sZ : Z.size ≤ 2000) (hn : (c : Int) % ((T.size : Int) + 1) = (n : Int)) (hnT : (n : Int) ≤ (T.size : Int)) (hNT : (N : Int) ≤ (T.size : Int)) (hnN : (n : Int) ≤ (N : Int))
    (p8 : ∀ w, Fours w → Calls Tryd.prog 8 #[.string P] w fun e w' => e = .returned (.tuple #[.string F, .int .i64 e8]) ∧ Below w.heap.size w w')
    (g1 : ∀ w, Fours w → Calls Tryd.prog 16 #[.string T, .int .i64 (n : Int)] w fun e' w' => e' = .returned (.tuple #[.string A, .int .i64 (N : Int), .int .i64 (e : Int)]) ∧ Below w.heap.size w w')
    (g2 : ∀ w, Fours w → Calls Tryd.prog 16 #[.string V, .int .i64 ((U.size : Int) + (n : Int))] w fun e' w' => e' = .returned (.tuple #[.string A, .int .i64 ((N : Int) + (U.size : Int)), .int .i64 (e : Int)]) ∧ Below w.heap.size w w')
    (g3 : ∀ w, Fours w → Calls Tryd.prog 16 #[.string Y, .int .i64 0] w fun e' w' => e' = .returned (.tuple #[.string A, .int .i64 ((N : Int) - (n : Int)), .int .i64 (e : Int)]) ∧ Below w.heap.size w w')
    (g4 : e = 0 → ∀ w, Fours w → Calls Tryd.prog 16 #[.string Z', .int .i64 (n : Int)] w fun e' w' => e' = .returned (.tuple #[.string A, .int .i64 (N : Int), .int .i64 0]) ∧ Below w.heap.size w w') :
    Calls Tryd.prog 7 #[.string s, .agg #[.string x0, .string x1], .int .u16 (c : Int)] w fun e w' => e = .returned (.bool true) ∧ Below w.heap.size w w' := by
  have p13 := fworks_any
  have HF := Lib.hid hF; clear hF
  have hb : Below w.heap.size w (w.alloc (.cells #[.string x0, .string x1] 45)) := (Below.refl _ _).alloc (Nat.le_refl _) _
  have d0 : (w.alloc (.cells #[.string x0, .string x1] 45)).cell? ⟨w.heap.size, 0, none⟩ = some (.string x0) := by simp [go_sem]
  have d1 : (w.alloc (.cells #[.string x0, .string x1] 45)).cell? ⟨w.heap.size, 1, none⟩ = some (.string x1) := by simp [go_sem]
  have hd := fun w1 (h : Below (w.alloc (.cells #[.string x0, .string x1] 45)).heap.size (w.alloc (.cells #[.string x0, .string x1] 45)) w1) => (⟨(h.cell (p := ⟨w.heap.size, 0, none⟩) (block_lt_of_cell d0)).trans d0, (h.cell (p := ⟨w.heap.size, 1, none⟩) (block_lt_of_cell d1)).trans d1⟩ : w1.cell? ⟨w.heap.size, 0, none⟩ = some (.string x0) ∧ w1.cell? ⟨w.heap.size, 1, none⟩ = some (.string x1))
  have HD := Lib.hid hd; clear hd d0 d1
  go_enter Tryd.func7, Tryd.ntmps7
  go_wp2_with (go_at_call 13; go_must (with_reducible refine (p13 _ (HF.out.below hb)).mono ?_); rintro e' w1 ⟨rfl, hb1⟩; obtain ⟨c0, c1⟩ := HD.out _ hb1; replace hb := Below.next hb hb1; clear hb1)
  go_quiet (fail)
  replace hb := below_drewN hb nq
  generalize w1.drewN nq = w2 at hb ⊢
  clear c0 c1 HD
  by_cases he : e = 0
  · subst he
    have q4 := g4 rfl
    clear g4
    go_wp2_with (first
      | (go_at_call 8; go_must (with_reducible refine (p8 _ (HF.out.below hb)).mono ?_); rintro e' w3 ⟨rfl, hb3⟩; replace hb := Below.next hb hb3; clear hb3)
      | (go_at_call 16; (first | (with_reducible refine (g1 _ (HF.out.below hb)).mono ?_) | (with_reducible refine (g2 _ (HF.out.below hb)).mono ?_) | (with_reducible refine (g3 _ (HF.out.below hb)).mono ?_) | (with_reducible refine (q4 _ (HF.out.below hb)).mono ?_)); rintro e' w3 ⟨rfl, hb3⟩; replace hb := Below.next hb hb3; clear hb3))
    go_ret
    exact ⟨rfl, hb⟩
  · have he' : ((e : Int) == 0) = false := by simp; omega
    clear g4
    go_wp2_with (first
      | (go_at_call 8; go_must (with_reducible refine (p8 _ (HF.out.below hb)).mono ?_); rintro e' w3 ⟨rfl, hb3⟩; replace hb := Below.next hb hb3; clear hb3)
      | (go_at_call 16; (first | (with_reducible refine (g1 _ (HF.out.below hb)).mono ?_) | (with_reducible refine (g2 _ (HF.out.below hb)).mono ?_) | (with_reducible refine (g3 _ (HF.out.below hb)).mono ?_)); rintro e' w3 ⟨rfl, hb3⟩; replace hb := Below.next hb hb3; clear hb3))
    go_ret
    exact ⟨rfl, hb⟩

theorem frame_or_none_size (P : ByteArray) (h : P.size ≤ 300) : (if fits P.size = true then frameOf P else ⟨#[]⟩ : ByteArray).size ≤ 313 := by
  split
  · have := Plain.size_bounds (n := P.size) (by omega)
    rw [frameOf_size]; omega
  · exact Nat.zero_le _

/-- The place behind what stands at a place of some bytes. -/
theorem fget_place (T : ByteArray) (n : Nat) (hn : n ≤ T.size) : ∃ N : Nat, (fget T n).2.1 = (N : Int) ∧ n ≤ N ∧ N ≤ T.size := by
  by_cases he : (fget T n).2.2 = 0
  · obtain ⟨_, j2, j3, _⟩ := stands_next (fget_stands he)
    exact ⟨(fget T n).2.1.toNat, by omega, by omega, by omega⟩
  · exact ⟨n, (fget_bad he).2, Nat.le_refl _, hn⟩

theorem moves_any (s x0 x1 : ByteArray) (c : Nat) (w : World) (hF : Fours w) (hs : s.size ≤ 9223372036854775807) (h0 : x0.size ≤ 9223372036854775807) (h1 : x1.size ≤ 9223372036854775807) (hc : c < 65536) :
    Calls Tryd.prog 7 #[.string s, .agg #[.string x0, .string x1], .int .u16 (c : Int)] w fun e w' => e = .returned (.bool true) ∧ Below w.heap.size w w' := by
  obtain ⟨S, hS⟩ : ∃ S, s.extract 0 (min s.size 400) = S := ⟨_, rfl⟩
  obtain ⟨U, hU⟩ : ∃ U, x0.extract 0 (min x0.size 50) = U := ⟨_, rfl⟩
  obtain ⟨P, hP⟩ : ∃ P, x1.extract 0 (min x1.size 300) = P := ⟨_, rfl⟩
  have sS : S.size ≤ 400 := by rw [← hS, ByteArray.size_extract]; omega
  have sU : U.size ≤ 50 := by rw [← hU, ByteArray.size_extract]; omega
  have sP : P.size ≤ 300 := by rw [← hP, ByteArray.size_extract]; omega
  have sF := frame_or_none_size P sP
  obtain ⟨F, hFr⟩ : ∃ F, (if fits P.size = true then frameOf P else ⟨#[]⟩ : ByteArray) = F := ⟨_, rfl⟩
  rw [hFr] at sF
  obtain ⟨T, hT⟩ : ∃ T, F ++ S = T := ⟨_, rfl⟩
  have sT : T.size ≤ 713 := by rw [← hT, ba_size_append]; omega
  obtain ⟨n, hn⟩ : ∃ n, c % (T.size + 1) = n := ⟨_, rfl⟩
  have hnT : n ≤ T.size := by have := Nat.mod_lt c (show 0 < T.size + 1 by omega); omega
  obtain ⟨N, hN, hnN, hNT⟩ := fget_place T n hnT
  obtain ⟨⟨A, N', e⟩, hr⟩ : ∃ r, fget T n = r := ⟨_, rfl⟩
  rw [hr] at hN
  dsimp only at hN
  subst hN
  have hmv := fget_move U T n hnT
  rw [hr] at hmv
  dsimp only at hmv
  obtain ⟨Y, hY⟩ : ∃ Y, T.extract n T.size = Y := ⟨_, rfl⟩
  have hTY : T = T.extract 0 n ++ Y := by rw [← hY]; exact ba_ext (by rw [ba_append, cut_join])
  have hTn : (T.extract 0 n).size = n := by rw [ByteArray.size_extract]; omega
  have htail := fget_move (T.extract 0 n) Y 0 (Nat.zero_le _)
  rw [← hTY, hTn, Nat.add_zero, hr] at htail
  have hy0 : fget Y 0 = (A, (N : Int) - (n : Int), e) := by
    obtain ⟨⟨A', M, e'⟩, hr'⟩ : ∃ r, fget Y 0 = r := ⟨_, rfl⟩
    rw [show ((0 : Nat) : Int) = 0 from rfl, hr'] at htail
    dsimp only at htail
    simp only [Prod.mk.injEq] at htail
    rw [hr']
    simp only [Prod.mk.injEq]
    exact ⟨htail.1.symm, by omega, htail.2.2.symm⟩
  have sY : Y.size ≤ 713 := by rw [← hY, ByteArray.size_extract]; omega
  have sZ : (T.extract 0 N).size = N := by rw [ByteArray.size_extract]; omega
  refine moves_walk s x0 x1 S U P F T (U ++ T) Y (T.extract 0 N) (T.extract 0 N ++ U) A (min s.size 400) (min x0.size 50) (min x1.size 300) c n N e (if fits P.size = true then 0 else 4) w hF hs h0 h1 hc (by omega) (by omega) (by omega) (by omega) (by omega) (by omega)
    hS hU hP hT rfl hY rfl rfl (by omega) (by omega) (by omega) (by omega) (by omega) (by rw [← hn]; push_cast; rfl) (by omega) (by omega) (by omega)
    (fun w1 h1' => hFr ▸ fput_any P w1 h1' (by omega)) (fget_is _ _ _ _ _ e rfl (by omega) hr) (fget_is _ _ _ _ _ e rfl (by rw [ba_size_append]; omega) (by rw [← Int.natCast_add, hmv, Int.add_comm])) (fget_is _ _ _ _ _ e rfl (by omega) hy0) ?_
  intro he
  subst he
  refine fget_is _ _ _ _ _ 0 rfl (by rw [ba_size_append]; omega) ?_
  have hst := fget_stands (s := T) (a := (n : Int)) (by rw [hr])
  rw [hr] at hst
  dsimp only at hst
  refine fget_prefix hst (by rw [ba_size_append]; omega) ?_
  rw [Int.toNat_natCast]
  apply ba_ext
  rw [ex_list, ex_list, ba_append, ex_list]
  simp only [List.drop_zero, Nat.sub_zero]
  rw [List.take_append_of_le_length (by rw [List.length_take, ba_length]; omega), List.take_take, Nat.min_self]
end Go.Proofs.YtnndabjhdhnleaaDoor

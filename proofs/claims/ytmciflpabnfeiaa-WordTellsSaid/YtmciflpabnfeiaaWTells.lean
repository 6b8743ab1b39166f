/-
  The walk of WordTells.
-/
import Derived.Test.YtmciflpabnfeiaaWWorks
import Derived.Test.YtmciflpabnfeiaaWPair
import Derived.Deep.RegionWith
import Derived.Deep.DeepCutAuto
namespace Go.Proofs.Ytmciflpabnfeiaa
open Go.RowKit

theorem check_one (x : ByteArray) : checkT [x] = if wordT x = true then 0 else 7 := by
  unfold checkT
  simp only [List.all_cons, List.all_nil, Bool.and_true]

set_option maxRecDepth 100000 in
set_option maxHeartbeats 16000000 in
theorem tells_any (l : List ByteArray) (v : Value) (x : ByteArray) (w : World) (hv : Strs w v l) (hl : Short l) (hlen : l.length ≤ 9223372036854775807) (hxz : x.size ≤ 9223372036854775807) :
    Calls Try.prog 3 #[v, .string x] w fun e w' => e = .returned (.bool true) ∧ Below w.heap.size w w' := by
  have q7 := fun w0 (h : Strs w0 v l) => few_any l v w0 h hl hlen
  have hL30 := fewT_length l
  have hL300 := fewT_size l
  obtain ⟨L, hL⟩ : ∃ L, L = fewT l := ⟨_, rfl⟩
  rw [← hL] at q7 hL30 hL300
  obtain ⟨kp, hkp⟩ : ∃ kp : Nat, kp = min x.size 300 := ⟨_, rfl⟩
  have m1 : (if (300 : Int) < (x.size : Int) then (300 : Int) else (x.size : Int)) = (kp : Int) := by split <;> omega
  have m0 : min (x.size : Int) 300 = (kp : Int) := by omega
  have m2 : (kp : Int) ≤ (x.size : Int) := by omega
  obtain ⟨X, hX⟩ : ∃ X, x.extract 0 kp = X := ⟨_, rfl⟩
  have sX : X.size ≤ 9223372036854775807 := by rw [← hX, ByteArray.size_extract]; omega
  have HL300 := Lib.hid hL300
  have hvd : Strs w.drew v l := strs_drew' hv
  clear hL hkp hl hlen hL300
  go_enter Try.func3, Try.ntmps3
  go_upto_region 1 with fail
  go_cut [0, 1] (fun s0 s1 wx => s1 = .string X ∧ RowS wx s0 L ∧ Below w.heap.size w wx)
  case first =>
    go_region_with (go_at_call 7; go_must (with_reducible refine (q7 _ hvd).mono ?_); rintro e w2 ⟨v0, rfl, hrow, hb2⟩)
    all_goals
      go_wp2_with fail
      go_meet
      exact ⟨rfl, hrow, Below.next (below_drew' (Below.refl _ _)) hb2⟩
  case rest =>
  obtain ⟨rfl, ⟨ad, c, rfl, hLc, hcm, hs⟩, hb⟩ := hcut
  clear q7 m1 m0 m2 hX hvd hv
  have hLs : Short L := short_of_few HL300.out (fun _ h => h)
  have q8 := refSorted_any L (.slice ad L.length c) wc hs hLs (by omega)
  have hTl : (sortedT L).length ≤ 30 := Nat.le_trans (sortedT_length L) hL30
  have hTs : Short (sortedT L) := short_of_few HL300.out (fun s hs => ((mem_sortedT L s).1 hs).1)
  have hTr := sortedT_rising L
  obtain ⟨T, hT⟩ : ∃ T, T = sortedT L := ⟨_, rfl⟩
  rw [← hT] at q8 hTl hTs hTr
  have HS := Lib.hid (fun w' (h : Below wc.heap.size wc w') => hs.below h)
  have HTR := Lib.hid hTr
  have HTS0 := Lib.hid hTs
  have HLS := Lib.hid hLs
  have HBC := Lib.hid hb
  clear hT hs hb hTs hLs
  go_upto_region 2 with fail
  go_wp2_with (go_at_call 8; go_must (with_reducible refine q8.mono ?_); rintro e wS ⟨vT, rfl, ⟨adT, cT, rfl, hTc, hTm, hTS⟩, hbS⟩)
  clear q8
  have HT := Lib.hid (fun w' (h : Below wS.heap.size wS w') => hTS.below h)
  have HBS := Lib.hid hbS
  clear hTS hbS
  have hb : Below wS.heap.size wS wS := Below.refl _ _
  have c9 := fun w0 (h : Below wS.heap.size wS w0) => check_any L (.slice ad L.length c) w0 (HS.out _ (Below.next HBS.out h)) HLS.out (by omega)
  have c10 := fun w0 (h : Below wS.heap.size wS w0) => refCheckAll_any L (.slice ad L.length c) w0 (HS.out _ (Below.next HBS.out h)) HLS.out (by omega)
  have hc1 := check_one X
  obtain ⟨K1, hK1⟩ : ∃ K, checkT L = K := ⟨_, rfl⟩
  obtain ⟨K2, hK2⟩ : ∃ K, checkT [X] = K := ⟨_, rfl⟩
  have c9b : ∀ (W : World) (g : Nat), g = W.heap.size → Calls Try.prog 9 #[.slice (some ⟨g, 0, none⟩) 1 1] (W.alloc (.cells #[.string X] 9)) fun e w' => e = .returned (.int .i64 (K2 : Int)) ∧ Below W.heap.size W w' := fun W g hg => by
    subst hg
    exact chk_lit [X] K2 hK2 (by intro s hs; simp at hs; subst hs; exact sX) (by simp) W
  have c11 : ∀ w0, Calls Try.prog 11 #[.string X] w0 fun e w' => e = .returned (.int .i64 (K2 : Int)) ∧ w0 = w' := fun w0 => by
    have := refCheck_any X w0 sX
    rw [← hK2, hc1]
    refine this.mono ?_
    rintro e w' ⟨rfl, rfl⟩
    refine ⟨?_, rfl⟩
    split <;> rfl
  have c12 := fun w0 (h : Below wS.heap.size wS w0) => rising_any L (.slice ad L.length c) w0 (HS.out _ (Below.next HBS.out h)) (by omega)
  have c12b := fun w0 (h : Below wS.heap.size wS w0) => rising_any T (.slice adT T.length cT) w0 (HT.out _ h) (by omega)
  have c13 := fun w0 (h : Below wS.heap.size wS w0) => refRising_any L (.slice ad L.length c) w0 (HS.out _ (Below.next HBS.out h)) HLS.out (by omega)
  have c14 := fun w0 (h : Below wS.heap.size wS w0) => shared_any L (.slice ad L.length c) w0 (HS.out _ (Below.next HBS.out h)) HLS.out (by omega)
  have c14b := fun w0 (h : Below wS.heap.size wS w0) => shared_any T (.slice adT T.length cT) w0 (HT.out _ h) HTS0.out (by omega)
  have c15 := fun w0 (h : Below wS.heap.size wS w0) => refAllShared_any L (.slice ad L.length c) w0 (HS.out _ (Below.next HBS.out h)) HLS.out (by omega)
  have c15b := fun w0 (h : Below wS.heap.size wS w0) => refAllShared_any T (.slice adT T.length cT) w0 (HT.out _ h) HTS0.out (by omega)
  rw [hTr] at c12b
  rw [hK1] at c9 c10
  obtain ⟨r1, hr1⟩ : ∃ r, risingT L = r := ⟨_, rfl⟩
  obtain ⟨S1, hS1⟩ : ∃ S, allSharedT L = S := ⟨_, rfl⟩
  obtain ⟨S2, hS2⟩ : ∃ S, allSharedT T = S := ⟨_, rfl⟩
  rw [hr1] at c12 c13
  rw [hS1] at c14 c15
  rw [hS2] at c14b c15b
  have hrr : (r1 != r1) = false := by cases r1 <;> rfl
  clear hc1 hK1 hK2 hr1 hS1 hS2 hTr
  go_wp2_with (first
    | (go_at_call 9; first
      | ((with_reducible refine (c9 _ hb).mono ?_); rintro e w3 ⟨rfl, rfl⟩)
      | ((with_reducible refine (c9b _ _ (by first | rfl | simp)).mono ?_); rintro e w3 ⟨rfl, hb3⟩; replace hb := Below.next hb hb3; clear hb3))
    | (go_at_call 10; go_must (with_reducible refine (c10 _ hb).mono ?_); rintro e w3 ⟨rfl, rfl⟩)
    | (go_at_call 11; go_must (with_reducible refine (c11 _).mono ?_); rintro e w3 ⟨rfl, rfl⟩)
    | (go_at_call 12; first
      | ((with_reducible refine (c12 _ hb).mono ?_); rintro e w3 ⟨rfl, hb3⟩; replace hb := Below.next hb hb3; clear hb3)
      | ((with_reducible refine (c12b _ hb).mono ?_); rintro e w3 ⟨rfl, hb3⟩; replace hb := Below.next hb hb3; clear hb3))
    | (go_at_call 13; go_must (with_reducible refine (c13 _ hb).mono ?_); rintro e w3 ⟨rfl, hb3⟩; replace hb := Below.next hb hb3; clear hb3)
    | (go_at_call 14; first
      | ((with_reducible refine (c14 _ hb).mono ?_); rintro e w3 ⟨rfl, hb3⟩; replace hb := Below.next hb hb3; clear hb3)
      | ((with_reducible refine (c14b _ hb).mono ?_); rintro e w3 ⟨rfl, hb3⟩; replace hb := Below.next hb hb3; clear hb3))
    | (go_at_call 15; first
      | ((with_reducible refine (c15 _ hb).mono ?_); rintro e w3 ⟨rfl, hb3⟩; replace hb := Below.next hb hb3; clear hb3)
      | ((with_reducible refine (c15b _ hb).mono ?_); rintro e w3 ⟨rfl, hb3⟩; replace hb := Below.next hb hb3; clear hb3)))
  clear c9 c10 c9b c11 c12 c12b c13 c14 c14b c15 c15b
  have hwX : ∀ w0, Below wS.heap.size wS w0 → Calls Try.prog 16 #[.slice adT T.length cT, .string X] w0 fun e w' => e = .returned (nearAns T X) ∧ w0 = w' := fun w0 h => near_any T _ X w0 HTR.out (HT.out _ h) (by omega)
  have hwXr : ∀ w0, Below wS.heap.size wS w0 → Calls Try.prog 17 #[.slice adT T.length cT, .string X] w0 fun e w' => e = .returned (nearAns T X) ∧ Below w0.heap.size w0 w' := fun w0 h => refNear_rising T _ X w0 HTR.out (HT.out _ h) HTS0.out sX (by omega)
  go_loopw [6, 7, 8, 9, 10] (fun i _ _ _ _ wr => ∃ k : Nat, k ≤ L.length ∧ i = .int .i64 k ∧ Below wS.heap.size wS wr) (fun i _ _ _ _ _ => L.length - (intOf i).toNat)
  case atStart => exact ⟨0, Nat.zero_le _, rfl, hb⟩
  case round =>
    obtain ⟨i, hi, rfl, hbr⟩ := hrel
    clear hb
    by_cases hlt : i < L.length
    · obtain ⟨b, o, rfl⟩ := strs_ad (HS.out _ (Below.next HBS.out hbr)) hlt
      have zZ : (at' L i).size ≤ 9223372036854775807 := short_at HLS.out i
      have hwZ : ∀ w0, Below wS.heap.size wS w0 → Calls Try.prog 16 #[.slice adT T.length cT, .string (at' L i)] w0 fun e w' => e = .returned (nearAns T (at' L i)) ∧ w0 = w' := fun w0 h => near_any T _ (at' L i) w0 HTR.out (HT.out _ h) (by omega)
      have hwZr : ∀ w0, Below wS.heap.size wS w0 → Calls Try.prog 17 #[.slice adT T.length cT, .string (at' L i)] w0 fun e w' => e = .returned (nearAns T (at' L i)) ∧ Below w0.heap.size w0 w' := fun w0 h => refNear_rising T _ (at' L i) w0 HTR.out (HT.out _ h) HTS0.out zZ (by omega)
      have hcZ : ∀ w', Below wS.heap.size wS w' → w'.cell? ⟨b, o + i, none⟩ = some (.string (at' L i)) := fun w' h => strs_at (HS.out _ (Below.next HBS.out h)) hlt
      unfold nearAns at hwZ hwZr
      obtain ⟨Z, hZ⟩ : ∃ Z, at' L i = Z := ⟨_, rfl⟩
      rw [hZ] at zZ hwZ hwZr hcZ
      obtain ⟨p, hp⟩ : ∃ p, placeT T Z = p := ⟨_, rfl⟩
      obtain ⟨r, hr⟩ : ∃ r, inT T Z = r := ⟨_, rfl⟩
      rw [hp, hr] at hwZ hwZr
      obtain ⟨rA, hrA⟩ : ∃ r, lessT Z X = r := ⟨_, rfl⟩
      obtain ⟨rB, hrB⟩ : ∃ r, lessT X Z = r := ⟨_, rfl⟩
      obtain ⟨S, hSh⟩ : ∃ S, sharedT Z X = S := ⟨_, rfl⟩
      have cP := pair_call Z X S hSh zZ sX
      have cA := fun w0 => less_below Z X w0
      have cB := fun w0 => less_below X Z w0
      have cAr := fun w0 => refLess_any Z X w0 zZ sX
      have cBr := fun w0 => refLess_any X Z w0 sX zZ
      have cSr := fun w0 => refShared_any Z X w0 zZ sX
      rw [hrA] at cA cAr
      rw [hrB] at cB cBr
      rw [hSh] at cSr
      have hcz := hcZ _ hbr
      have HCZ := Lib.hid hcZ
      have d1 : (r != r) = false := by cases r <;> rfl
      have d2 : (rA != rA) = false := by cases rA <;> rfl
      have d3 : (rB != rB) = false := by cases rB <;> rfl
      clear hp hr hrA hrB hSh hZ hcZ hwX hwXr hrr
      go_wp2_with (first
        | (go_at_call 16; go_must (with_reducible refine (hwZ _ hbr).mono ?_); rintro e w4 ⟨rfl, rfl⟩)
        | (go_at_call 17; go_must (with_reducible refine (hwZr _ hbr).mono ?_); rintro e w4 ⟨rfl, hb4⟩; replace hbr := Below.next hbr hb4; clear hb4))
      clear hwZ hwZr
      refine wp_region_slice (by kernel_rfl) 44 45 131 _ _ (.int .i64 (S : Int)) (PairAt Z X) ?bf (by kernel_rfl) (by decide) rfl rfl rfl (of_decide_eq_true (by kernel_rfl)) ?walk (by kernel_rfl) ?wk ?wc ?wc2 ?rk ?rc (pair_stable Z X) ?q
      case walk =>
        intro w1 hw1
        unfold skipped
        dsimp only [List.set]
        have hca := HCZ.out _ (Below.next hbr hw1)
        have hcga := fun d os => cell_regrown hca d os
        have qA := quiet_call (w := w1) fun w2 _ => cA w2
        have qB := quiet_call (w := w1) fun w2 _ => cB w2
        have qAr := quiet_call (w := w1) fun w2 _ => cAr w2
        have qBr := quiet_call (w := w1) fun w2 _ => cBr w2
        have qSr := quiet_call (w := w1) fun w2 _ => cSr w2
        clear hca
        repeat (go_big_quiet_step ((first
          | (go_at_call 18; first | (with_reducible exact qA _ _) | (with_reducible exact qB _ _))
          | (go_at_call 19; first | (with_reducible exact qAr _ _) | (with_reducible exact qBr _ _))
          | (go_at_call 20; with_reducible exact qSr _ _))))
        refine wpQuiet_nil ?_
        exact rfl
      case wk => kernel_rfl
      case wc => kernel_rfl
      case wc2 => exact fun X' w1 h => by kernel_rfl
      case rk => exact fun w1 h => ⟨_, _, run_pair _ _ (.tmp 129) (.tmp 130) rfl Z X (by rfl) (by rfl) w1, below_alloc' (Below.refl _ _), strs_lit [Z, X] w1⟩
      case rc => exact fun X' w1 h hX => ⟨14, #[X'], run_call14 _ _ 131 rfl X' (by rfl) w1, cP X' w1 hX⟩
      case q =>
        intro X' w1 hw1 hX
        have hb1 := Below.next hbr hw1
        clear cP cA cB cAr cBr cSr hX
        go_simp
        go_wp2
        exact ⟨⟨i + 1, by omega, by go_num, hb1⟩, by simp [intOf]; omega⟩
    · unfold nearAns at hwX hwXr
      obtain ⟨p, hp⟩ : ∃ p, placeT T X = p := ⟨_, rfl⟩
      obtain ⟨r, hr⟩ : ∃ r, inT T X = r := ⟨_, rfl⟩
      rw [hp, hr] at hwX hwXr
      have d1 : (r == r) = true := by cases r <;> rfl
      clear hp hr
      go_wp2_with (first
        | (go_at_call 16; go_must (with_reducible refine (hwX _ hbr).mono ?_); rintro e w4 ⟨rfl, rfl⟩)
        | (go_at_call 17; go_must (with_reducible refine (hwXr _ hbr).mono ?_); rintro e w4 ⟨rfl, hb4⟩; replace hbr := Below.next hbr hb4; clear hb4)
        | (go_at_call 21; go_must (with_reducible refine (works_any _).mono ?_); rintro e w4 ⟨rfl, hb4⟩; replace hbr := Below.next hbr hb4; clear hb4))
      go_ret
      exact ⟨rfl, Below.next (Below.next HBC.out HBS.out) hbr⟩
end Go.Proofs.Ytmciflpabnfeiaa

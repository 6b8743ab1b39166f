/-
  The walk of WordOrder.
-/
import Derived.Test.YtmciflpabnfeiaaWWorks
import Derived.Test.YtmciflpabnfeiaaWPair
import Derived.Deep.RegionWith
import Derived.Deep.DeepCutAuto
namespace Go.Proofs.Ytmciflpabnfeiaa
open Go.RowKit

theorem three_cells (w : World) (x0 x1 x2 : ByteArray) : Strs (w.alloc (.cells #[.string x0, .string x1, .string x2] 38)) (.slice (some ⟨w.heap.size, 0, none⟩) 3 3) [x0, x1, x2] := by
  refine ⟨_, _, rfl, fun i hi => ⟨_, _, rfl, ?_⟩⟩
  rw [World.cell?_alloc_at (hn := rfl)]
  rcases (show i = 0 ∨ i = 1 ∨ i = 2 by simp at hi; omega) with rfl | rfl | rfl <;> rfl

set_option maxRecDepth 100000 in
set_option maxHeartbeats 16000000 in
theorem order_any (l : List ByteArray) (v : Value) (x0 x1 x2 : ByteArray) (w : World) (hv : Strs w v l) (hl : Short l) (hlen : l.length ≤ 9223372036854775807) (h0 : x0.size ≤ 9223372036854775807) (h1 : x1.size ≤ 9223372036854775807) (h2 : x2.size ≤ 9223372036854775807) :
    Calls Try.prog 4 #[v, .agg #[.string x0, .string x1, .string x2]] w fun e w' => e = .returned (.bool true) ∧ Below w.heap.size w w' := by
  have qY := fun w0 (h : Strs w0 (.slice (some ⟨w.heap.size, 0, none⟩) 3 3) [x0, x1, x2]) => few_any [x0, x1, x2] (.slice (some ⟨w.heap.size, 0, none⟩) 3 3) w0 h (by intro s hs; simp at hs; rcases hs with rfl | rfl | rfl <;> assumption) (by simp)
  have hY3 : (fewT [x0, x1, x2]).length = 3 := rfl
  have hY300 := fewT_size [x0, x1, x2]
  obtain ⟨Y, hY⟩ : ∃ Y, Y = fewT [x0, x1, x2] := ⟨_, rfl⟩
  rw [← hY] at qY hY3 hY300
  have hbox := three_cells w x0 x1 x2
  have HBOX := Lib.hid (fun w' (h : Below (w.alloc (.cells #[.string x0, .string x1, .string x2] 38)).heap.size (w.alloc (.cells #[.string x0, .string x1, .string x2] 38)) w') => hbox.below h)
  have HV := Lib.hid hv
  have HL := Lib.hid hl
  clear hY hbox hv hl h0 h1 h2
  go_enter Try.func4, Try.ntmps4
  go_wp2_with (first
    | (go_at_call 21; go_must (with_reducible refine (works_any _).mono ?_); rintro e w1 ⟨rfl, hb1⟩)
    | (go_at_call 7; go_must (with_reducible refine (qY _ (HBOX.out _ hb1)).mono ?_); rintro e wA ⟨vY, rfl, hrow, hb2⟩))
  obtain ⟨adY, cY, rfl, hYc, hYm, hs⟩ := hrow
  rw [hY3] at hs hYc ⊢
  have hbA : Below w.heap.size w wA := Below.next (Below.next (below_alloc' (Below.refl _ _)) hb1) hb2
  have HBA := Lib.hid hbA
  obtain ⟨bY, oY, rfl⟩ := strs_ad hs (i := 0) (by rw [hY3]; decide)
  have HY := Lib.hid (fun w' (h : Below wA.heap.size wA w') (i : Nat) (hi : i < 3) => strs_at (hs.below h) (i := i) (by rw [hY3]; exact hi))
  have HYS := Lib.hid hs
  have HY3 := Lib.hid hY3
  have HYZ := Lib.hid (fun i => short_at (short_of_few hY300 (fun _ h => h)) i)
  clear qY hb1 hb2 hs hY3 hbA HBOX hY300
  have hb : Below wA.heap.size wA wA := Below.refl _ _
  go_wp2_with fail
  go_loopw [6, 7, 8, 9, 10, 11] (fun i _ _ _ _ _ wr => ∃ a : Nat, a ≤ 3 ∧ i = .int .i64 a ∧ Below wA.heap.size wA wr) (fun i _ _ _ _ _ _ => 3 - (intOf i).toNat)
  case atStart => exact ⟨0, by omega, rfl, hb⟩
  case round =>
    obtain ⟨a, ha, rfl, hba⟩ := hrel
    clear hb
    by_cases hla : a < 3
    · have da : decide ((a : Int) < 3) = true := decide_eq_true (by omega)
      go_wp2_with fail
      go_loopw [7, 8, 9, 10, 11] (fun i _ _ _ _ wr => ∃ b : Nat, b ≤ 3 ∧ i = .int .i64 b ∧ Below wA.heap.size wA wr) (fun i _ _ _ _ _ => 3 - (intOf i).toNat)
      case atStart => exact ⟨0, by omega, rfl, hba⟩
      case round =>
        obtain ⟨b, hb, rfl, hbb⟩ := hrel
        clear hba
        by_cases hlb : b < 3
        · as_aux_lemma =>
            have db : decide ((b : Int) < 3) = true := decide_eq_true (by omega)
            have hca := HY.out _ hbb a hla
            have hcb := HY.out _ hbb b hlb
            have hcga := fun d os => cell_regrown hca d os
            have hcgb := fun d os => cell_regrown hcb d os
            have zA := HYZ.out a
            have zB := HYZ.out b
            obtain ⟨A, hA⟩ : ∃ A, A = at' Y a := ⟨_, rfl⟩
            obtain ⟨B, hB⟩ : ∃ B, B = at' Y b := ⟨_, rfl⟩
            rw [← hA] at hca hcga zA
            rw [← hB] at hcb hcgb zB
            have HA := Lib.hid hA
            have HB := Lib.hid hB
            have q1 := quiet_call (w := wr) fun w1 _ => less_below A B w1
            have q2 := quiet_call (w := wr) fun w1 _ => less_below B A w1
            have hasy := lessT_asymm (a := A) (b := B)
            have hasy2 := lessT_asymm (a := B) (b := A)
            have hne := lessT_ne (a := A) (b := B)
            have hne2 := lessT_ne (a := B) (b := A)
            have heq := lessT_eq_of (a := A) (b := B)
            have htr := fun C => lessT_trans (a := A) (b := B) (c := C)
            obtain ⟨r1, hr1⟩ : ∃ r, lessT A B = r := ⟨_, rfl⟩
            obtain ⟨r2, hr2⟩ : ∃ r, lessT B A = r := ⟨_, rfl⟩
            rw [hr1] at q1 hasy hasy2 hne heq htr
            rw [hr2] at q2 hasy hasy2 hne2 heq
            have hfacts : r1 = false ∧ r2 = false ∧ (A.toList == B.toList) = true ∨ r1 = true ∧ r2 = false ∧ (A.toList == B.toList) = false ∨ r1 = false ∧ r2 = true ∧ (A.toList == B.toList) = false := by
              rw [toList_beq]
              cases r1 <;> cases r2
              · exact .inl ⟨rfl, rfl, decide_eq_true (heq rfl rfl)⟩
              · exact .inr (.inr ⟨rfl, rfl, decide_eq_false fun e => hne2 rfl e.symm⟩)
              · exact .inr (.inl ⟨rfl, rfl, decide_eq_false (hne rfl)⟩)
              · exact absurd (hasy rfl) (by simp)
            have HTR := Lib.hid htr
            clear hA hB hasy hasy2 hne hne2 heq htr hr1 hr2
            clear hca hcb
            go_wp2
            refine wp_region_quiet_below (by kernel_rfl) (by kernel_rfl) ?_
            repeat (go_big_quiet_step ((go_at_call 18; first | (with_reducible exact q1 _ _) | (with_reducible exact q2 _ _))))
            refine wpQuiet_nil ?_
            intro _ hw'
            obtain ⟨⟨dq, osq⟩, hw''⟩ := hw'
            subst hw''
            replace hbb := Below.next hbb (below_regrown wr dq osq)
            generalize Sort.grow (redrawn wr dq) osq = w3 at hbb ⊢
            clear q1 q2 hcga hcgb
            have hca := HA.out ▸ HY.out _ hbb a hla
            have hcb := HB.out ▸ HY.out _ hbb b hlb
            go_upto_region 11 with fail
            go_cut [65] (fun s65 wx => s65 = .bool false ∧ Below wA.heap.size wA wx)
            case first =>
              as_aux_lemma =>
                rcases hfacts with ⟨rfl, rfl, d1⟩ | ⟨rfl, rfl, d1⟩ | ⟨rfl, rfl, d1⟩
                all_goals
                  go_quiet (fail)
                  replace hbb := below_drewN hbb nq
                  generalize World.drewN _ nq = w4 at hbb ⊢
                  go_wp2
                  go_meet
                  exact ⟨rfl, hbb⟩
            case rest =>
              obtain ⟨rfl, hbc⟩ := hcut
              clear hfacts hca hcb
              go_wp2_with fail
              go_loopw [10] (fun i wr => ∃ c : Nat, c ≤ 3 ∧ i = .int .i64 c ∧ Below wA.heap.size wA wr) (fun i _ => 3 - (intOf i).toNat)
              case atStart => exact ⟨0, by omega, rfl, hbc⟩
              case round =>
                obtain ⟨c, hc, rfl, hbd⟩ := hrel
                clear hbc
                by_cases hlc : c < 3
                · have dc : decide ((c : Int) < 3) = true := decide_eq_true (by omega)
                  have hca := HA.out ▸ HY.out _ hbd a hla
                  have hcb := HB.out ▸ HY.out _ hbd b hlb
                  have hcc := HY.out _ hbd c hlc
                  obtain ⟨C, hC⟩ : ∃ C, C = at' Y c := ⟨_, rfl⟩
                  rw [← hC] at hcc
                  clear hC
                  cases r1
                  · as_aux_lemma =>
                      clear HTR
                      go_wp2
                      go_quiet (fail)
                      replace hbd := below_drewN hbd nq
                      generalize World.drewN _ nq = w4 at hbd ⊢
                      go_wp2
                      exact ⟨⟨c + 1, by omega, by go_num, hbd⟩, by simp [intOf]; omega⟩
                  · have hcga := fun d os => cell_regrown hca d os
                    have hcgb := fun d os => cell_regrown hcb d os
                    have hcgc := fun d os => cell_regrown hcc d os
                    have q3 := quiet_call (w := wr) fun w1 _ => less_below B C w1
                    have q4 := quiet_call (w := wr) fun w1 _ => less_below A C w1
                    have htr := HTR.out C rfl
                    obtain ⟨r3, hr3⟩ : ∃ r, lessT B C = r := ⟨_, rfl⟩
                    rw [hr3] at q3 htr
                    cases r3
                    · as_aux_lemma =>
                        clear hr3 htr hca hcb hcc
                        go_wp2
                        refine wp_region_quiet_below (by kernel_rfl) (by kernel_rfl) ?_
                        repeat (go_big_quiet_step ((go_at_call 18; first | (with_reducible exact q3 _ _) | (with_reducible exact q4 _ _))))
                        refine wpQuiet_nil ?_
                        intro _ hw'
                        obtain ⟨⟨dq, osq⟩, hw''⟩ := hw'
                        subst hw''
                        replace hbd := Below.next hbd (below_regrown wr dq osq)
                        generalize Sort.grow (redrawn wr dq) osq = w5 at hbd ⊢
                        clear q3 q4 hcga hcgb hcgc
                        go_wp2
                        exact ⟨⟨c + 1, by omega, by go_num, hbd⟩, by simp [intOf]; omega⟩
                    · as_aux_lemma =>
                        rw [htr rfl] at q4
                        clear hr3 htr hca hcb hcc
                        go_wp2
                        refine wp_region_quiet_below (by kernel_rfl) (by kernel_rfl) ?_
                        repeat (go_big_quiet_step ((go_at_call 18; first | (with_reducible exact q3 _ _) | (with_reducible exact q4 _ _))))
                        refine wpQuiet_nil ?_
                        intro _ hw'
                        obtain ⟨⟨dq, osq⟩, hw''⟩ := hw'
                        subst hw''
                        replace hbd := Below.next hbd (below_regrown wr dq osq)
                        generalize Sort.grow (redrawn wr dq) osq = w5 at hbd ⊢
                        clear q3 q4 hcga hcgb hcgc
                        go_wp2
                        exact ⟨⟨c + 1, by omega, by go_num, hbd⟩, by simp [intOf]; omega⟩
                · have hca := HA.out ▸ HY.out _ hbd a hla
                  have hcb := HB.out ▸ HY.out _ hbd b hlb
                  have s1 := sharedT_le_left A B
                  have s2 := sharedT_le_right A B
                  have s3 := sharedT_prefix A B
                  have s4 := sharedT_differ (a := A) (b := B)
                  have q14 := shared_pair A B zA zB
                  obtain ⟨S, hS⟩ : ∃ S, sharedT A B = S := ⟨_, rfl⟩
                  rw [hS] at q14 s1 s2 s3
                  have s5 : S < A.size → S < B.size → ∀ (h1 : S < A.size) (h2 : S < B.size), A[S] ≠ B[S] := fun g1 g2 h1 h2 => by
                    subst hS
                    exact s4 h1 h2
                  obtain ⟨P, hP⟩ : ∃ P, A.extract 0 S = P := ⟨_, rfl⟩
                  have hP2 : B.extract 0 S = P := by rw [← s3]; exact hP
                  have d0 : (P.toList != P.toList) = false := by simp
                  clear HTR s3 s4 hS
                  have HS5 := Lib.hid s5
                  clear s5
                  have dc : decide ((c : Int) < 3) = false := decide_eq_false (by omega)
                  go_upto_region 18 with fail
                  go_cut [11] (fun s11 wx => s11 = .int .i64 (S : Int) ∧ Below wA.heap.size wA wx)
                  case first =>
                    as_aux_lemma =>
                      go_region_with (go_at_call 14; go_must (with_reducible refine (q14 _ _ (by first | rfl | simp)).mono ?_); rintro e w6 ⟨rfl, hb6⟩)
                      all_goals
                        go_wp2_with fail
                        go_meet
                        exact ⟨rfl, Below.next hbd hb6⟩
                  case rest =>
                  obtain ⟨rfl, hbe⟩ := hcut
                  clear q14 hca hcb hbd
                  have hca := HA.out ▸ HY.out _ hbe a hla
                  have hcb := HB.out ▸ HY.out _ hbe b hlb
                  have e1 : decide (A.size < S) = false := decide_eq_false (by omega)
                  have e2 : decide (B.size < S) = false := decide_eq_false (by omega)
                  have e3 : (S : Int) ≤ (A.size : Int) := by omega
                  have e4 : (S : Int) ≤ (B.size : Int) := by omega
                  by_cases g1 : S < A.size
                  · have e5 : decide (S < A.size) = true := decide_eq_true (by omega)
                    by_cases g2 : S < B.size
                    · as_aux_lemma =>
                        have e6 : decide (S < B.size) = true := decide_eq_true (by omega)
                        have e7 := byte_nbeq (HS5.out g1 g2 g1 g2)
                        clear s1 s2
                        go_wp2
                        go_quiet (fail)
                        replace hbe := below_drewN hbe nq
                        generalize World.drewN _ nq = w7 at hbe ⊢
                        go_wp2
                        exact ⟨⟨b + 1, by omega, by go_num, hbe⟩, by simp [intOf]; omega⟩
                    · as_aux_lemma =>
                        have e6 : decide (S < B.size) = false := decide_eq_false (by omega)
                        clear s1 s2
                        go_wp2
                        go_quiet (fail)
                        replace hbe := below_drewN hbe nq
                        generalize World.drewN _ nq = w7 at hbe ⊢
                        go_wp2
                        exact ⟨⟨b + 1, by omega, by go_num, hbe⟩, by simp [intOf]; omega⟩
                  · as_aux_lemma =>
                      have e5 : decide (S < A.size) = false := decide_eq_false (by omega)
                      clear s1 s2
                      go_wp2
                      go_quiet (fail)
                      replace hbe := below_drewN hbe nq
                      generalize World.drewN _ nq = w7 at hbe ⊢
                      go_wp2
                      exact ⟨⟨b + 1, by omega, by go_num, hbe⟩, by simp [intOf]; omega⟩
        · go_wp2
          exact ⟨⟨a + 1, by omega, by go_num, hbb⟩, by simp [intOf]; omega⟩
    · as_aux_lemma =>
        have da : decide ((a : Int) < 3) = false := decide_eq_false (by omega)
        have hbT := Below.next HBA.out hba
        have qF := fun w0 (h : Strs w0 v l) => few_any l v w0 h HL.out hlen
        have hF30 := fewT_length l
        have hF300 := fewT_size l
        obtain ⟨L, hL⟩ : ∃ L, L = fewT l := ⟨_, rfl⟩
        rw [← hL] at qF hF30 hF300
        have qS := fun v0 w0 (h : Strs w0 v0 L) => refSorted_any L v0 w0 h (short_of_few hF300 (fun _ h => h)) (by omega)
        have hTr := sortedT_rising L
        have hTl : (sortedT L).length ≤ 30 := Nat.le_trans (sortedT_length L) hF30
        have hTs : Short (sortedT L) := short_of_few hF300 (fun s hs => ((mem_sortedT L s).1 hs).1)
        have hTw := sorted_words L
        obtain ⟨T, hT⟩ : ∃ T, T = sortedT L := ⟨_, rfl⟩
        rw [← hT] at qS hTr hTl hTs hTw
        have hck : checkT T = 0 := by unfold checkT; rw [hTw]; rfl
        have q12 := fun v0 w0 (h : Strs w0 v0 T) => rising_any T v0 w0 h (by omega)
        have q9 := fun v0 w0 (h : Strs w0 v0 T) => check_any T v0 w0 h hTs (by omega)
        rw [hTr] at q12
        rw [hck] at q9
        have HTR := Lib.hid hTr
        have HTSH := Lib.hid hTs
        clear hL hT hTr hTs hTw hck hF300 hF30
        go_wp2_with (first
          | (go_at_call 7; go_must (with_reducible refine (qF _ (HV.out.below hbT)).mono ?_); rintro e w4 ⟨vF, rfl, hF, hb4⟩; replace hbT := Below.next hbT hb4; replace hba := Below.next hba hb4; clear hb4)
          | (go_at_call 8; go_must (with_reducible refine (qS _ _ hF.strs).mono ?_); rintro e w5 ⟨vT, rfl, ⟨adT, cT, rfl, hTc, hTm, hTS⟩, hb5⟩; replace hba := Below.next hba hb5; have HB5 := Lib.hid hba; have hb9 : Below w5.heap.size w5 w5 := Below.refl _ _; replace hbT := Below.next hbT hb5; clear hb5 hF)
          | (go_at_call 12; go_must (with_reducible refine (q12 _ _ (hTS.below hb9)).mono ?_); rintro e w6 ⟨rfl, hb6⟩; replace hba := Below.next hba hb6; replace hb9 := Below.next hb9 hb6; clear hb6)
          | (go_at_call 9; go_must (with_reducible refine (q9 _ _ (hTS.below hb9)).mono ?_); rintro e w6 ⟨rfl, rfl⟩))
        have HTS := Lib.hid (fun w' (h : Below w5.heap.size w5 w') => hTS.below h)
        have HBT := Lib.hid hbT
        clear hTS q12 q9 qF qS hbT hlen hba
        go_upto_region 24 with fail
        go_cut [197] (fun s197 wx => s197 = .bool false ∧ Below w5.heap.size w5 wx)
        case first =>
          by_cases hT0 : T.length = 0
          · as_aux_lemma =>
              have d1 : decide (0 < T.length) = false := decide_eq_false (by omega)
              go_quiet (fail)
              replace hb9 := below_drewN hb9 nq
              generalize World.drewN _ nq = w7 at hb9 ⊢
              go_wp2
              go_meet
              exact ⟨rfl, hb9⟩
          · as_aux_lemma =>
              have hTp : 0 < T.length := by omega
              have d1 : decide (0 < T.length) = true := decide_eq_true hTp
              have hc0 := HTS.out _ hb9
              obtain ⟨bT, oT, rfl⟩ := strs_ad hc0 hTp
              have hends := shared_ends HTR.out hTp
              obtain ⟨m, hm⟩ : ∃ m : Nat, m = T.length - 1 := ⟨_, rfl⟩
              have em : (T.length : Int) - 1 = (m : Int) := by omega
              have hml : m < T.length := by omega
              rw [← hm] at hends
              obtain ⟨A, hA⟩ : ∃ A, A = at' T 0 := ⟨_, rfl⟩
              obtain ⟨B, hB⟩ : ∃ B, B = at' T m := ⟨_, rfl⟩
              rw [← hA, ← hB] at hends
              have HCA : Hid (∀ w', Below w5.heap.size w5 w' → w'.cell? ⟨bT, oT, none⟩ = some (.string A)) := Lib.hid (fun w' h => by
                have := strs_at (HTS.out w' h) hTp
                rwa [Nat.add_zero, ← hA] at this)
              have HCB : Hid (∀ w', Below w5.heap.size w5 w' → w'.cell? ⟨bT, oT + m, none⟩ = some (.string B)) := Lib.hid (fun w' h => by
                have := strs_at (HTS.out w' h) hml
                rwa [← hB] at this)
              have zA : A.size ≤ 9223372036854775807 := by rw [hA]; exact short_at HTSH.out _
              have zB : B.size ≤ 9223372036854775807 := by rw [hB]; exact short_at HTSH.out _
              obtain ⟨S, hS⟩ : ∃ S, allSharedT T = S := ⟨_, rfl⟩
              rw [hS] at hends
              have cS : ∀ w0, Below w5.heap.size w5 w0 → Calls Try.prog 14 #[.slice (some ⟨bT, oT, none⟩) T.length cT] w0 fun e w' => e = .returned (.int .i64 (S : Int)) ∧ Below w0.heap.size w0 w' := fun w0 h => by
                have := shared_any T _ w0 (HTS.out w0 h) HTSH.out (by omega)
                rwa [hS] at this
              have cP := pair_call A B S hends.symm zA zB
              have hew : IntKind.i64.wrap (m : Int) = (m : Int) := IntWalk.i64_in _ (by omega)
              clear hc0 hm hA hB hS hends
              refine wp_region_slice (by kernel_rfl) 15 16 194 _ _ (.int .i64 (S : Int)) (PairAt A B) ?bf (by kernel_rfl) (by decide) rfl rfl rfl (of_decide_eq_true (by kernel_rfl)) ?walk (by kernel_rfl) ?wk ?wc ?wc2 ?rk ?rc (pair_stable A B) ?q
              case walk =>
                intro w1 hw1
                unfold skipped
                dsimp only [List.set]
                have hb1 := Below.next hb9 hw1
                have hca := HCA.out _ hb1
                have hcb := HCB.out _ hb1
                have hcga := fun d os => cell_regrown hca d os
                have hcgb := fun d os => cell_regrown hcb d os
                have q14 := quiet_call (w := w1) fun w2 h2 => cS w2 (Below.next hb1 h2)
                clear hca hcb
                repeat (go_big_quiet_step ((go_at_call 14; with_reducible exact q14 _ _)))
                refine wpQuiet_nil ?_
                exact rfl
              case wk => kernel_rfl
              case wc => kernel_rfl
              case wc2 => exact fun X w1 h => by kernel_rfl
              case rk => exact fun w1 h => ⟨_, _, run_pair _ _ (.tmp 187) (.tmp 193) rfl A B (by rfl) (by rfl) w1, below_alloc' (Below.refl _ _), strs_lit [A, B] w1⟩
              case rc => exact fun X w1 h hX => ⟨14, #[X], run_call14 _ _ 194 rfl X (by rfl) w1, cP X w1 hX⟩
              case q =>
                intro X w1 hw1 hX
                have hb1 := Below.next hb9 hw1
                go_simp
                go_wp2
                go_meet
                exact ⟨rfl, hb1⟩
        case rest =>
        obtain ⟨rfl, hb10⟩ := hcut
        clear hb9
        have hcY : ∀ w', Below w5.heap.size w5 w' → w'.cell? ⟨bY, oY, none⟩ = some (.string (at' Y 0)) := fun w' h => by
          have := HY.out _ (Below.next HB5.out h) 0 (by decide)
          rwa [Nat.add_zero] at this
        have hxz := HYZ.out 0
        have q16 := near_any T (.slice adT T.length cT) (at' Y 0) wc HTR.out (HTS.out _ hb10) (by omega)
        unfold nearAns at q16
        have hat := at_place HTR.out (at' Y 0)
        have hoth := fun i (hi : i < T.length) => at_other HTR.out (at' Y 0) hi
        have hless := fun i (hi : i < T.length) => less_place HTR.out (at' Y 0) hi
        have hple := placeT_le T (at' Y 0)
        obtain ⟨x, hx⟩ : ∃ x, at' Y 0 = x := ⟨_, rfl⟩
        rw [hx] at hcY hxz q16 hat hoth hless hple
        obtain ⟨p, hp⟩ : ∃ p, placeT T x = p := ⟨_, rfl⟩
        obtain ⟨r, hr⟩ : ∃ r, inT T x = r := ⟨_, rfl⟩
        rw [hp, hr] at q16
        rw [hp, hr] at hat hoth
        rw [hp] at hless hple
        have HCY := Lib.hid hcY
        have HAT := Lib.hid hat
        have HOT := Lib.hid hoth
        have HLE := Lib.hid hless
        have hcy := HCY.out _ hb10
        clear hx hp hr hcY hat hoth hless
        go_wp2_with (go_at_call 16; go_must (with_reducible refine q16.mono ?_); rintro e w7 ⟨rfl, rfl⟩)
        clear q16
        go_upto_region 27 with fail
        go_cut [232] (fun s232 wx => s232 = .bool false ∧ Below w5.heap.size w5 wx)
        case first =>
          have d1 : decide ((p : Int) < 0) = false := decide_eq_false (by omega)
          have d2 : decide (T.length < p) = false := decide_eq_false (by omega)
          cases r
          · as_aux_lemma =>
              go_quiet (fail)
              replace hb10 := below_drewN hb10 nq
              generalize World.drewN _ nq = w8 at hb10 ⊢
              go_wp2
              go_meet
              exact ⟨rfl, hb10⟩
          · as_aux_lemma =>
              obtain ⟨hpT, hpx⟩ := HAT.out rfl
              have d3 : ((p : Int) == (T.length : Int)) = false := by rw [beq_eq_false_iff_ne]; omega
              have d4 : (x.toList != x.toList) = false := by simp
              obtain ⟨bT, oT, rfl⟩ := strs_ad (HTS.out _ hb10) hpT
              have hcp := strs_at (HTS.out _ hb10) hpT
              rw [hpx] at hcp
              clear hpx
              go_quiet (fail)
              replace hb10 := below_drewN hb10 nq
              generalize World.drewN _ nq = w8 at hb10 ⊢
              go_wp2
              go_meet
              exact ⟨rfl, hb10⟩
        case rest =>
        obtain ⟨rfl, hb11⟩ := hcut
        clear hb10 hcy
        go_wp2_with fail
        go_loopw [15] (fun i wr => ∃ k : Nat, k ≤ T.length ∧ i = .int .i64 k ∧ Below w5.heap.size w5 wr) (fun i _ => T.length - (intOf i).toNat)
        case atStart => exact ⟨0, Nat.zero_le _, rfl, hb11⟩
        case round =>
          obtain ⟨i, hi, rfl, hbf⟩ := hrel
          clear hb11
          by_cases hit : i < T.length
          · obtain ⟨bT, oT, rfl⟩ := strs_ad (HTS.out _ hbf) hit
            have hci := strs_at (HTS.out _ hbf) hit
            have hcy := HCY.out _ hbf
            have hcgi := fun d os => cell_regrown hci d os
            have hcgy := fun d os => cell_regrown hcy d os
            have q18 := quiet_call (w := wr) fun w1 _ => less_below (at' T i) x w1
            rw [HLE.out i hit] at q18
            have hot := HOT.out i hit
            have hat := HAT.out
            obtain ⟨z, hz⟩ : ∃ z, z = at' T i := ⟨_, rfl⟩
            rw [← hz] at hci hcgi q18 hot
            have hzp : i = p → r = true → z = x := fun e1 e2 => by rw [hz, e1]; exact (hat e2).2
            have d5 : decide ((i : Int) < (T.length : Int)) = true := decide_eq_true (by omega)
            clear hz hat
            by_cases hip : i < p
            · have d1 : decide (i < p) = true := decide_eq_true hip
              rw [d1] at q18
              have d2 : (z.toList == x.toList) = false := by rw [toList_beq]; exact decide_eq_false (hot (by omega))
              have d3 : ((i : Int) == (p : Int)) = false := by rw [beq_eq_false_iff_ne]; omega
              clear hot hzp hci hcy
              cases r
              · as_aux_lemma =>
                  go_wp2
                  refine wp_region_quiet_below (by kernel_rfl) (by kernel_rfl) ?_
                  repeat (go_big_quiet_step ((go_at_call 18; with_reducible exact q18 _ _)))
                  refine wpQuiet_nil ?_
                  intro _ hw'
                  obtain ⟨⟨dq, osq⟩, hw''⟩ := hw'
                  subst hw''
                  replace hbf := Below.next hbf (below_regrown wr dq osq)
                  generalize Sort.grow (redrawn wr dq) osq = w8 at hbf ⊢
                  go_wp2
                  exact ⟨⟨i + 1, by omega, by go_num, hbf⟩, by simp [intOf]; omega⟩
              · as_aux_lemma =>
                  go_wp2
                  refine wp_region_quiet_below (by kernel_rfl) (by kernel_rfl) ?_
                  repeat (go_big_quiet_step ((go_at_call 18; with_reducible exact q18 _ _)))
                  refine wpQuiet_nil ?_
                  intro _ hw'
                  obtain ⟨⟨dq, osq⟩, hw''⟩ := hw'
                  subst hw''
                  replace hbf := Below.next hbf (below_regrown wr dq osq)
                  generalize Sort.grow (redrawn wr dq) osq = w8 at hbf ⊢
                  go_wp2
                  exact ⟨⟨i + 1, by omega, by go_num, hbf⟩, by simp [intOf]; omega⟩
            · have d1 : decide (i < p) = false := decide_eq_false hip
              rw [d1] at q18
              by_cases hip2 : i = p
              · have d3 : ((i : Int) == (p : Int)) = true := by rw [beq_iff_eq]; omega
                cases r
                · have d2 : (z.toList == x.toList) = false := by rw [toList_beq]; exact decide_eq_false (hot (by simp))
                  clear hot hzp hci hcy hip2
                  go_wp2
                  refine wp_region_quiet_below (by kernel_rfl) (by kernel_rfl) ?_
                  repeat (go_big_quiet_step ((go_at_call 18; with_reducible exact q18 _ _)))
                  refine wpQuiet_nil ?_
                  intro _ hw'
                  obtain ⟨⟨dq, osq⟩, hw''⟩ := hw'
                  subst hw''
                  replace hbf := Below.next hbf (below_regrown wr dq osq)
                  generalize Sort.grow (redrawn wr dq) osq = w8 at hbf ⊢
                  go_wp2
                  exact ⟨⟨i + 1, by omega, by go_num, hbf⟩, by simp [intOf]; omega⟩
                · have d2 : (z.toList == x.toList) = true := by rw [toList_beq]; exact decide_eq_true (hzp hip2 rfl)
                  clear hot hzp hci hcy hip2
                  go_wp2
                  refine wp_region_quiet_below (by kernel_rfl) (by kernel_rfl) ?_
                  repeat (go_big_quiet_step ((go_at_call 18; with_reducible exact q18 _ _)))
                  refine wpQuiet_nil ?_
                  intro _ hw'
                  obtain ⟨⟨dq, osq⟩, hw''⟩ := hw'
                  subst hw''
                  replace hbf := Below.next hbf (below_regrown wr dq osq)
                  generalize Sort.grow (redrawn wr dq) osq = w8 at hbf ⊢
                  go_wp2
                  exact ⟨⟨i + 1, by omega, by go_num, hbf⟩, by simp [intOf]; omega⟩
              · have d3 : ((i : Int) == (p : Int)) = false := by rw [beq_eq_false_iff_ne]; omega
                have d2 : (z.toList == x.toList) = false := by rw [toList_beq]; exact decide_eq_false (hot (by omega))
                clear hot hzp hci hcy
                cases r
                · as_aux_lemma =>
                    go_wp2
                    refine wp_region_quiet_below (by kernel_rfl) (by kernel_rfl) ?_
                    repeat (go_big_quiet_step ((go_at_call 18; with_reducible exact q18 _ _)))
                    refine wpQuiet_nil ?_
                    intro _ hw'
                    obtain ⟨⟨dq, osq⟩, hw''⟩ := hw'
                    subst hw''
                    replace hbf := Below.next hbf (below_regrown wr dq osq)
                    generalize Sort.grow (redrawn wr dq) osq = w8 at hbf ⊢
                    go_wp2
                    exact ⟨⟨i + 1, by omega, by go_num, hbf⟩, by simp [intOf]; omega⟩
                · as_aux_lemma =>
                    go_wp2
                    refine wp_region_quiet_below (by kernel_rfl) (by kernel_rfl) ?_
                    repeat (go_big_quiet_step ((go_at_call 18; with_reducible exact q18 _ _)))
                    refine wpQuiet_nil ?_
                    intro _ hw'
                    obtain ⟨⟨dq, osq⟩, hw''⟩ := hw'
                    subst hw''
                    replace hbf := Below.next hbf (below_regrown wr dq osq)
                    generalize Sort.grow (redrawn wr dq) osq = w8 at hbf ⊢
                    go_wp2
                    exact ⟨⟨i + 1, by omega, by go_num, hbf⟩, by simp [intOf]; omega⟩
          · have HB0 := Below.next (Below.next HBA.out HB5.out) hbf
            go_wp2
            go_ret
            exact ⟨rfl, HB0⟩
end Go.Proofs.Ytmciflpabnfeiaa

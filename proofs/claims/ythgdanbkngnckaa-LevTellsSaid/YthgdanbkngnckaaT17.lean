/-
  The library's sort at bytes: what parts a range by a pivot.
-/
import Derived.Test.YthgdanbkngnckaaT12
import Derived.Sort.WalkC
import Derived.Sort.WalkC4
set_option linter.unusedVariables false
set_option linter.unusedSimpArgs false
namespace Go.Proofs.Ythgdanbkngnckaa
open Go.RowKit Go.Sort

set_option maxHeartbeats 8000000 in
set_option maxRecDepth 100000 in
theorem part8 (blk len cap a b pivot : Nat) (d : Array UInt8) (w0 w : World) (hlen : d.size = len) (S : S8 w0 blk d w) (hap : a ≤ pivot) (hpb : pivot < b) (hb : b ≤ d.size) (hsz : d.size < 4611686018427387904) :
    Calls Try.prog 98 #[.slice (some ⟨blk, 0, none⟩) len cap, .int .i64 a, .int .i64 b, .int .i64 pivot] w fun e w' =>
      e = .returned (.tuple #[.int .i64 ((Sort.partition lt8 d a b pivot).1 : Nat), .bool (Sort.partition lt8 d a b pivot).2.1]) ∧ S8 w0 blk (Sort.partition lt8 d a b pivot).2.2 w' := by
  have hls : len < 4611686018427387904 := by omega
  have hbl : b ≤ len := by omega
  have hal : a < len := by omega
  have hpl : pivot < len := by omega
  obtain ⟨j, hj⟩ : ∃ j, j = b - 1 := ⟨_, rfl⟩
  have eb1 : (b : Int) - 1 = (j : Int) := by omega
  have hjb : j < b := by omega
  have hjl : j < len := by omega
  obtain ⟨i, hi⟩ : ∃ i, i = a + 1 := ⟨_, rfl⟩
  have ea1 : (a : Int) + 1 = (i : Int) := by omega
  have hai : a < i := by omega
  have hij : i ≤ j + 1 := by omega
  obtain ⟨R, hR⟩ : ∃ R, R = Sort.partition lt8 d a b pivot := ⟨_, rfl⟩
  rw [← hR]
  obtain ⟨dk, hdk⟩ : ∃ dk, dk = swp d a pivot := ⟨_, rfl⟩
  have HIJ := Lib.hid (show i = a + 1 ∧ j = b - 1 ∧ dk = swp d a pivot from ⟨hi, hj, hdk⟩)
  have HR := Lib.hid hR
  obtain ⟨G0, hG⟩ : ∃ G : Nat → UInt8, ∀ t, G t = d[t]! := ⟨fun t => d[t]!, fun _ => rfl⟩
  have hcw : ∀ t, t < len → w.cell? ⟨blk, t, none⟩ = some (.int .u8 ((G0 t).toNat : Int)) := fun t ht => by rw [hG]; exact S.cells t (by omega)
  have hfw : ∀ t, t < len → w.frozen? ⟨blk, t, none⟩ = false := fun t ht => S.free t (by omega)
  obtain ⟨v', hy'⟩ := cell?_setCell_some (w := w) (p := ⟨blk, a, none⟩) (x := .int .u8 ((G0 pivot).toNat : Int)) (q := ⟨blk, pivot, none⟩) (hcw pivot hpl)
  have SK0 := Lib.hid ((S.swapped a pivot (by omega) (by omega)).drew)
  rw [← hG, ← hG, ← hdk] at SK0
  have HSK : Hid (dk.size = len) := Lib.hid (by rw [hdk, size_swp]; exact hlen)
  clear S hlen hb hsz hR hG hi hj hdk
  go_enter Try.func98, Try.ntmps98
  go_wp2
  go_region
  clear hcw hfw hy' v'
  go_wp2
  clear eb1 ea1
  obtain ⟨G, hG⟩ : ∃ G : Nat → UInt8, ∀ t, G t = dk[t]! := ⟨fun t => dk[t]!, fun _ => rfl⟩
  have HG := Lib.hid hG
  clear hG
  have SK := SK0
  clear SK0
  go_loopw [10] (fun v wr => ∃ i' : Nat, v = .int .i64 i' ∧ i ≤ i' ∧ i' ≤ j + 1 ∧ S8 w0 blk dk wr ∧ scanUp (fun x => lt8 x dk[a]!) dk j i' = scanUp (fun x => lt8 x dk[a]!) dk j i) (fun v _ => (j : Int).toNat + 1 - (intOf v).toNat)
  case atStart => exact ⟨i, rfl, Nat.le_refl _, hij, SK.out, rfl⟩
  case round =>
    clear SK
    obtain ⟨i', rfl, hii, hij', Sk, hsc⟩ := hrel
    have hcw : ∀ t, t < len → wr.cell? ⟨blk, t, none⟩ = some (.int .u8 ((G t).toNat : Int)) := fun t ht => by rw [HG.out]; exact Sk.cells t (by have := HSK.out; omega)
    have SK := Lib.hid Sk
    have HSC := Lib.hid hsc
    clear hsc Sk
    obtain ⟨r, hr⟩ : ∃ r, lt8 (G i') (G a) = r := ⟨_, rfl⟩
    have q := less8 (G i') (G a)
    rw [hr] at q
    have hcase : (i' ≤ j ∧ r = true) ∨ (i' ≤ j ∧ r = false) ∨ ¬ i' ≤ j := by
      cases r
      · rcases Nat.lt_or_ge j i' with h | h
        · exact .inr (.inr (by omega))
        · exact .inr (.inl ⟨h, rfl⟩)
      · rcases Nat.lt_or_ge j i' with h | h
        · exact .inr (.inr (by omega))
        · exact .inl ⟨h, rfl⟩
    have HRR := Lib.hid hr
    clear hr
    rcases hcase with ⟨hle, rfl⟩ | hcase
    · have hil : i' < len := by omega
      have HN := Lib.hid (scanUp_go (fun x => lt8 x dk[a]!) dk j i' hle (by show lt8 dk[i']! dk[a]! = true; rw [← HG.out, ← HG.out, HRR.out]))
      go_wp2
      go_quiet (first | (go_at_call 96; refine Calls.quiet_of_same (q _)))
      go_wp2
      go_roundw
      case rel => exact ⟨i' + 1, by go_num, by omega, by omega, SK.out.drewN nq, by rw [← HN.out, HSC.out]⟩
      case measure => simp [intOf]; omega
    · have HI : Hid (i' = scanUp (fun x => lt8 x dk[a]!) dk j i) := Lib.hid (by
        rw [← HSC.out, scanUp_end]
        rcases hcase with ⟨_, rfl⟩ | h
        · exact .inr (by show lt8 dk[i']! dk[a]! = false; rw [← HG.out, ← HG.out, HRR.out])
        · exact .inl h)
      clear HSC HRR
      rcases hcase with ⟨hle, rfl⟩ | hle
      all_goals
        try have hil : i' < len := by omega
        go_wp2
        go_quiet (first | (go_at_call 96; refine Calls.quiet_of_same (q _)))
        have SK2 := Lib.hid (SK.out.drewN nq)
        generalize wr.drewN nq = w2 at SK2 ⊢
        clear SK hcw q
        go_wp2
        go_loopw [11] (fun v wr => ∃ j' : Nat, v = .int .i64 j' ∧ j' ≤ j ∧ i' ≤ j' + 1 ∧ S8 w0 blk dk wr ∧ scanDown (fun x => !lt8 x dk[a]!) dk i' j' = scanDown (fun x => !lt8 x dk[a]!) dk i' j) (fun v _ => (intOf v).toNat)
        case atStart => exact ⟨j, rfl, Nat.le_refl _, hij', SK2.out, rfl⟩
        case round =>
          clear SK2
          obtain ⟨j', rfl, hjj, hij2, Sk, hsc⟩ := hrel
          have hcw : ∀ t, t < len → wr.cell? ⟨blk, t, none⟩ = some (.int .u8 ((G t).toNat : Int)) := fun t ht => by rw [HG.out]; exact Sk.cells t (by have := HSK.out; omega)
          have hfw : ∀ t, t < len → wr.frozen? ⟨blk, t, none⟩ = false := fun t ht => Sk.free t (by have := HSK.out; omega)
          have SK := Lib.hid Sk
          have HSC := Lib.hid hsc
          clear hsc Sk
          have hjl' : j' < len := by omega
          obtain ⟨r, hr⟩ : ∃ r, lt8 (G j') (G a) = r := ⟨_, rfl⟩
          have q := less8 (G j') (G a)
          rw [hr] at q
          have hcase : (i' ≤ j' ∧ r = false) ∨ (i' ≤ j' ∧ r = true) ∨ ¬ i' ≤ j' := by
            cases r
            · rcases Nat.lt_or_ge j' i' with h | h
              · exact .inr (.inr (by omega))
              · exact .inl ⟨h, rfl⟩
            · rcases Nat.lt_or_ge j' i' with h | h
              · exact .inr (.inr (by omega))
              · exact .inr (.inl ⟨h, rfl⟩)
          have HRR := Lib.hid hr
          clear hr
          rcases hcase with ⟨hle2, rfl⟩ | hcase
          · have HN := Lib.hid (scanDown_go (fun x => !lt8 x dk[a]!) dk i' j' hle2 (by omega) (by show (!lt8 dk[j']! dk[a]!) = true; rw [← HG.out, ← HG.out, HRR.out]; rfl))
            clear hfw
            go_wp2
            go_quiet (first | (go_at_call 96; refine Calls.quiet_of_same (q _)))
            go_wp2
            go_roundw
            case rel => exact ⟨j' - 1, by congr 1; omega, by omega, by omega, SK.out.drewN nq, by rw [← HN.out, HSC.out]⟩
            case measure => simp [intOf]; omega
          · have HJ : Hid (j' = scanDown (fun x => !lt8 x dk[a]!) dk i' j) := Lib.hid (by
              rw [← HSC.out, scanDown_end]
              rcases hcase with ⟨_, rfl⟩ | h
              · exact .inr (by show (!lt8 dk[j']! dk[a]!) = false; rw [← HG.out, ← HG.out, HRR.out]; rfl)
              · exact .inl h)
            clear HSC HRR
            rcases hcase with ⟨hle2, rfl⟩ | hle2
            · first
              | (exfalso; omega)
              | (
                have hil2 : i' < len := by omega
                have hlt2 : i' < j' := part_scans_lt lt8 a i j dk (by omega) HI.out HJ.out (by omega)
                have HE := Lib.hid (part_first_go lt8 d a b pivot HIJ.out.1 HIJ.out.2.1 HIJ.out.2.2 HI.out HJ.out (by omega))
                go_wp2
                go_quiet (first | (go_at_call 96; refine Calls.quiet_of_same (q _)))
                have hcw3 : ∀ t, t < len → (wr.drewN nq).cell? ⟨blk, t, none⟩ = some (.int .u8 ((G t).toNat : Int)) := hcw
                have hfw3 : ∀ t, t < len → (wr.drewN nq).frozen? ⟨blk, t, none⟩ = false := hfw
                have HW3 := Lib.hid (((SK.out.drewN nq).swapped i' j' (by have := HSK.out; omega) (by have := HSK.out; omega)).drew)
                rw [← HG.out, ← HG.out] at HW3
                clear hcw hfw SK q
                generalize wr.drewN nq = w3 at HW3 hcw3 hfw3 ⊢
                obtain ⟨v', hy'⟩ := cell?_setCell_some (w := w3) (p := ⟨blk, i', none⟩) (x := .int .u8 ((G j').toNat : Int)) (q := ⟨blk, j', none⟩) (hcw3 j' (by omega))
                go_wp2
                go_region
                clear hy' v' hcw3 hfw3
                go_wp2
                obtain ⟨i0, hi0⟩ : ∃ i0, i0 = i' + 1 := ⟨_, rfl⟩
                obtain ⟨j0, hj0⟩ : ∃ j0, j0 = j' - 1 := ⟨_, rfl⟩
                obtain ⟨R1, hR1⟩ : ∃ R1, R1 = partLoop lt8 a i0 j0 (swp dk i' j') := ⟨_, rfl⟩
                have HRES : Hid (R = (R1.1, false, swp R1.2 R1.1 a)) := Lib.hid (by rw [HR.out, HE.out, hR1, hi0, hj0])
                have HR1 : Hid (partLoop lt8 a i0 j0 (swp dk i' j') = R1) := Lib.hid hR1.symm
                have hs1 : (swp dk i' j').size = len := by rw [size_swp]; exact HSK.out
                have HS1 := Lib.hid hs1
                have ei : (i' : Int) + 1 = (i0 : Int) := by omega
                have ej : (j' : Int) - 1 = (j0 : Int) := by omega
                have b1' : a < i0 := by omega
                have b2' : i0 ≤ j0 + 1 := by omega
                have b3' : j0 < b := by omega
                have HI0 := Lib.hid (show i0 = i' + 1 ∧ j0 = j' - 1 from ⟨hi0, hj0⟩)
                clear hi0 hj0 hR1 hs1 HE HI HJ HR
                rw [ei, ej]
                clear ei ej
                go_loopw [10, 11] (fun v10 v11 wr => ∃ (i j : Nat) (dk : Array UInt8), v10 = .int .i64 i ∧ v11 = .int .i64 j ∧ a < i ∧ i ≤ j + 1 ∧ j < b ∧ dk.size = len ∧ S8 w0 blk dk wr ∧ partLoop lt8 a i j dk = R1) (fun v10 v11 _ => (intOf v11 + 1 - intOf v10).toNat)
                case atStart => exact ⟨i0, j0, _, rfl, rfl, b1', b2', b3', HS1.out, HW3.out, HR1.out⟩
                case round =>
                  clear HW3 HR1 HS1 HI0 HSK HG
                  obtain ⟨i, j, dk, rfl, rfl, hai, hij, hjb, hsk, Sk, hRk⟩ := hrel
                  have HR := Lib.hid hRk
                  have HSK := Lib.hid hsk
                  have hjl : j < len := by omega
                  obtain ⟨G, hG⟩ : ∃ G : Nat → UInt8, ∀ t, G t = dk[t]! := ⟨fun t => dk[t]!, fun _ => rfl⟩
                  have HG := Lib.hid hG
                  have SK := Lib.hid Sk
                  clear hRk hsk hG Sk
                  go_wp2
                  go_loopw [10] (fun v wr => ∃ i' : Nat, v = .int .i64 i' ∧ i ≤ i' ∧ i' ≤ j + 1 ∧ S8 w0 blk dk wr ∧ scanUp (fun x => lt8 x dk[a]!) dk j i' = scanUp (fun x => lt8 x dk[a]!) dk j i) (fun v _ => (j : Int).toNat + 1 - (intOf v).toNat)
                  case atStart => exact ⟨i, rfl, Nat.le_refl _, hij, SK.out, rfl⟩
                  case round =>
                    clear SK
                    obtain ⟨i', rfl, hii, hij', Sk, hsc⟩ := hrel
                    have hcw : ∀ t, t < len → wr.cell? ⟨blk, t, none⟩ = some (.int .u8 ((G t).toNat : Int)) := fun t ht => by rw [HG.out]; exact Sk.cells t (by have := HSK.out; omega)
                    have SK := Lib.hid Sk
                    have HSC := Lib.hid hsc
                    clear hsc Sk
                    obtain ⟨r, hr⟩ : ∃ r, lt8 (G i') (G a) = r := ⟨_, rfl⟩
                    have q := less8 (G i') (G a)
                    rw [hr] at q
                    have hcase : (i' ≤ j ∧ r = true) ∨ (i' ≤ j ∧ r = false) ∨ ¬ i' ≤ j := by
                      cases r
                      · rcases Nat.lt_or_ge j i' with h | h
                        · exact .inr (.inr (by omega))
                        · exact .inr (.inl ⟨h, rfl⟩)
                      · rcases Nat.lt_or_ge j i' with h | h
                        · exact .inr (.inr (by omega))
                        · exact .inl ⟨h, rfl⟩
                    have HRR := Lib.hid hr
                    clear hr
                    rcases hcase with ⟨hle, rfl⟩ | hcase
                    · have hil : i' < len := by omega
                      have HN := Lib.hid (scanUp_go (fun x => lt8 x dk[a]!) dk j i' hle (by show lt8 dk[i']! dk[a]! = true; rw [← HG.out, ← HG.out, HRR.out]))
                      go_wp2
                      go_quiet (first | (go_at_call 96; refine Calls.quiet_of_same (q _)))
                      go_wp2
                      go_roundw
                      case rel => exact ⟨i' + 1, by go_num, by omega, by omega, SK.out.drewN nq, by rw [← HN.out, HSC.out]⟩
                      case measure => simp [intOf]; omega
                    · have HI : Hid (i' = scanUp (fun x => lt8 x dk[a]!) dk j i) := Lib.hid (by
                        rw [← HSC.out, scanUp_end]
                        rcases hcase with ⟨_, rfl⟩ | h
                        · exact .inr (by show lt8 dk[i']! dk[a]! = false; rw [← HG.out, ← HG.out, HRR.out])
                        · exact .inl h)
                      clear HSC HRR
                      rcases hcase with ⟨hle, rfl⟩ | hle
                      all_goals
                        try have hil : i' < len := by omega
                        go_wp2
                        go_quiet (first | (go_at_call 96; refine Calls.quiet_of_same (q _)))
                        have SK2 := Lib.hid (SK.out.drewN nq)
                        generalize wr.drewN nq = w2 at SK2 ⊢
                        clear SK hcw q
                        go_wp2
                        go_loopw [11] (fun v wr => ∃ j' : Nat, v = .int .i64 j' ∧ j' ≤ j ∧ i' ≤ j' + 1 ∧ S8 w0 blk dk wr ∧ scanDown (fun x => !lt8 x dk[a]!) dk i' j' = scanDown (fun x => !lt8 x dk[a]!) dk i' j) (fun v _ => (intOf v).toNat)
                        case atStart => exact ⟨j, rfl, Nat.le_refl _, hij', SK2.out, rfl⟩
                        case round =>
                          clear SK2
                          obtain ⟨j', rfl, hjj, hij2, Sk, hsc⟩ := hrel
                          have hcw : ∀ t, t < len → wr.cell? ⟨blk, t, none⟩ = some (.int .u8 ((G t).toNat : Int)) := fun t ht => by rw [HG.out]; exact Sk.cells t (by have := HSK.out; omega)
                          have hfw : ∀ t, t < len → wr.frozen? ⟨blk, t, none⟩ = false := fun t ht => Sk.free t (by have := HSK.out; omega)
                          have SK := Lib.hid Sk
                          have HSC := Lib.hid hsc
                          clear hsc Sk
                          have hjl' : j' < len := by omega
                          obtain ⟨r, hr⟩ : ∃ r, lt8 (G j') (G a) = r := ⟨_, rfl⟩
                          have q := less8 (G j') (G a)
                          rw [hr] at q
                          have hcase : (i' ≤ j' ∧ r = false) ∨ (i' ≤ j' ∧ r = true) ∨ ¬ i' ≤ j' := by
                            cases r
                            · rcases Nat.lt_or_ge j' i' with h | h
                              · exact .inr (.inr (by omega))
                              · exact .inl ⟨h, rfl⟩
                            · rcases Nat.lt_or_ge j' i' with h | h
                              · exact .inr (.inr (by omega))
                              · exact .inr (.inl ⟨h, rfl⟩)
                          have HRR := Lib.hid hr
                          clear hr
                          rcases hcase with ⟨hle2, rfl⟩ | hcase
                          · have HN := Lib.hid (scanDown_go (fun x => !lt8 x dk[a]!) dk i' j' hle2 (by omega) (by show (!lt8 dk[j']! dk[a]!) = true; rw [← HG.out, ← HG.out, HRR.out]; rfl))
                            clear hfw
                            go_wp2
                            go_quiet (first | (go_at_call 96; refine Calls.quiet_of_same (q _)))
                            go_wp2
                            go_roundw
                            case rel => exact ⟨j' - 1, by congr 1; omega, by omega, by omega, SK.out.drewN nq, by rw [← HN.out, HSC.out]⟩
                            case measure => simp [intOf]; omega
                          · have HJ : Hid (j' = scanDown (fun x => !lt8 x dk[a]!) dk i' j) := Lib.hid (by
                              rw [← HSC.out, scanDown_end]
                              rcases hcase with ⟨_, rfl⟩ | h
                              · exact .inr (by show (!lt8 dk[j']! dk[a]!) = false; rw [← HG.out, ← HG.out, HRR.out]; rfl)
                              · exact .inl h)
                            clear HSC HRR
                            rcases hcase with ⟨hle2, rfl⟩ | hle2
                            · first
                              | (exfalso; omega)
                              | (
                                have hil2 : i' < len := by omega
                                have hlt2 : i' < j' := part_scans_lt lt8 a i j dk (by omega) HI.out HJ.out (by omega)
                                have HE := Lib.hid (part_go lt8 a i j dk HI.out HJ.out (by omega))
                                go_wp2
                                go_quiet (first | (go_at_call 96; refine Calls.quiet_of_same (q _)))
                                have hcw3 : ∀ t, t < len → (wr.drewN nq).cell? ⟨blk, t, none⟩ = some (.int .u8 ((G t).toNat : Int)) := hcw
                                have hfw3 : ∀ t, t < len → (wr.drewN nq).frozen? ⟨blk, t, none⟩ = false := hfw
                                have HW3 := Lib.hid (((SK.out.drewN nq).swapped i' j' (by have := HSK.out; omega) (by have := HSK.out; omega)).drew)
                                rw [← HG.out, ← HG.out] at HW3
                                clear hcw hfw SK q
                                generalize wr.drewN nq = w3 at HW3 hcw3 hfw3 ⊢
                                obtain ⟨v', hy'⟩ := cell?_setCell_some (w := w3) (p := ⟨blk, i', none⟩) (x := .int .u8 ((G j').toNat : Int)) (q := ⟨blk, j', none⟩) (hcw3 j' (by omega))
                                go_wp2
                                go_region
                                clear hy' v' hcw3 hfw3
                                go_wp2
                                go_roundw
                                case rel => exact ⟨i' + 1, j' - 1, _, by go_num, by congr 1; omega, by omega, by omega, by omega, by rw [size_swp]; exact HSK.out, HW3.out, by rw [← HR.out, HE.out]⟩
                                case measure => simp [intOf]; omega)
                            · have HE := Lib.hid (part_break lt8 a i j dk HI.out HJ.out (by omega))
                              go_wp2
                              go_quiet (first | (go_at_call 96; refine Calls.quiet_of_same (q _)))
                              have hcw3 : ∀ t, t < len → (wr.drewN nq).cell? ⟨blk, t, none⟩ = some (.int .u8 ((G t).toNat : Int)) := hcw
                              have hfw3 : ∀ t, t < len → (wr.drewN nq).frozen? ⟨blk, t, none⟩ = false := hfw
                              have HW3 := Lib.hid (((SK.out.drewN nq).swapped j' a (by have := HSK.out; omega) (by have := HSK.out; omega)).drew)
                              rw [← HG.out, ← HG.out] at HW3
                              clear hcw hfw SK q
                              generalize wr.drewN nq = w3 at HW3 hcw3 hfw3 ⊢
                              obtain ⟨v', hy'⟩ := cell?_setCell_some (w := w3) (p := ⟨blk, j', none⟩) (x := .int .u8 ((G a).toNat : Int)) (q := ⟨blk, a, none⟩) (hcw3 a (by omega))
                              go_wp2
                              go_region
                              go_wp2
                              go_ret2
                              exact ⟨by rw [HRES.out, ← HR.out, HE.out]; rfl, by rw [HRES.out, ← HR.out, HE.out]; exact HW3.out⟩)
            · have HE := Lib.hid (part_first_break lt8 d a b pivot HIJ.out.1 HIJ.out.2.1 HIJ.out.2.2 HI.out HJ.out (by omega))
              go_wp2
              go_quiet (first | (go_at_call 96; refine Calls.quiet_of_same (q _)))
              have hcw3 : ∀ t, t < len → (wr.drewN nq).cell? ⟨blk, t, none⟩ = some (.int .u8 ((G t).toNat : Int)) := hcw
              have hfw3 : ∀ t, t < len → (wr.drewN nq).frozen? ⟨blk, t, none⟩ = false := hfw
              have HW3 := Lib.hid (((SK.out.drewN nq).swapped j' a (by have := HSK.out; omega) (by have := HSK.out; omega)).drew)
              rw [← HG.out, ← HG.out] at HW3
              clear hcw hfw SK q
              generalize wr.drewN nq = w3 at HW3 hcw3 hfw3 ⊢
              obtain ⟨v', hy'⟩ := cell?_setCell_some (w := w3) (p := ⟨blk, j', none⟩) (x := .int .u8 ((G a).toNat : Int)) (q := ⟨blk, a, none⟩) (hcw3 a (by omega))
              go_wp2
              go_region
              go_wp2
              go_ret2
              exact ⟨by rw [HR.out, HE.out]; rfl, by rw [HR.out, HE.out]; exact HW3.out⟩
end Go.Proofs.Ythgdanbkngnckaa

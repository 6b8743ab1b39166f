/-
  The library's sort at bytes: what parts a range by equality with the pivot.
-/
import Derived.Test.YthgdanbkngnckaaT12
import Derived.Sort.WalkC
set_option linter.unusedVariables false
set_option linter.unusedSimpArgs false
namespace Go.Proofs.Ythgdanbkngnckaa
open Go.RowKit Go.Sort

set_option maxHeartbeats 4000000 in
theorem partEq8 (blk len cap a b pivot : Nat) (d : Array UInt8) (w0 w : World) (hlen : d.size = len) (S : S8 w0 blk d w) (hap : a ≤ pivot) (hpb : pivot < b) (hb : b ≤ d.size) (hsz : d.size < 4611686018427387904) :
    Calls Try.prog 97 #[.slice (some ⟨blk, 0, none⟩) len cap, .int .i64 a, .int .i64 b, .int .i64 pivot] w fun e w' =>
      e = .returned (.int .i64 ((Sort.partitionEqual lt8 d a b pivot).1 : Nat)) ∧ S8 w0 blk (Sort.partitionEqual lt8 d a b pivot).2 w' := by
  have hls : len < 4611686018427387904 := by omega
  have hbl : b ≤ len := by omega
  have hal : a < len := by omega
  have hpl : pivot < len := by omega
  obtain ⟨b1, hb1⟩ : ∃ b1, b1 = b - 1 := ⟨_, rfl⟩
  have eb1 : (b : Int) - 1 = (b1 : Int) := by omega
  have hb1l : b1 < b := by omega
  have hab1 : a ≤ b1 := by omega
  have ea1 : (a : Int) + 1 = ((a + 1 : Nat) : Int) := by omega
  obtain ⟨R, hR⟩ : ∃ R, R = Sort.partitionEqual lt8 d a b pivot := ⟨_, rfl⟩
  rw [← hR]
  have HR : Hid (partEqLoop lt8 a (a + 1) b1 (swp d a pivot) = R) := Lib.hid (by rw [hR, hb1]; rfl)
  obtain ⟨G, hG⟩ : ∃ G : Nat → UInt8, ∀ t, G t = d[t]! := ⟨fun t => d[t]!, fun _ => rfl⟩
  have hcw : ∀ t, t < len → w.cell? ⟨blk, t, none⟩ = some (.int .u8 ((G t).toNat : Int)) := fun t ht => by rw [hG]; exact S.cells t (by omega)
  have hfw : ∀ t, t < len → w.frozen? ⟨blk, t, none⟩ = false := fun t ht => S.free t (by omega)
  obtain ⟨v', hy'⟩ := cell?_setCell_some (w := w) (p := ⟨blk, a, none⟩) (x := .int .u8 ((G pivot).toNat : Int)) (q := ⟨blk, pivot, none⟩) (hcw pivot hpl)
  have HW0 := Lib.hid ((S.swapped a pivot (by omega) (by omega)).drew)
  rw [← hG, ← hG] at HW0
  have HS0 : Hid ((swp d a pivot).size = len) := Lib.hid (by rw [size_swp]; exact hlen)
  clear S hlen hb hsz hb1 hR hG ea1
  go_enter Try.func97, Try.ntmps97
  go_wp2
  go_region
  clear hcw hfw hy' v'
  all_goals go_wp2
  go_loopw [9, 10] (fun v9 v10 wr => ∃ (i j : Nat) (dk : Array UInt8), v9 = .int .i64 i ∧ v10 = .int .i64 j ∧ a < i ∧ i ≤ j + 1 ∧ j < b ∧ dk.size = len ∧ S8 w0 blk dk wr ∧ partEqLoop lt8 a i j dk = R) (fun v9 v10 _ => (intOf v10 + 1 - intOf v9).toNat)
  case atStart => exact ⟨a + 1, b1, _, by go_num, rfl, by omega, by omega, hb1l, HS0.out, HW0.out, HR.out⟩
  case round =>
    clear HW0 HR HS0
    obtain ⟨i, j, dk, rfl, rfl, hai, hij, hjb, hsk, Sk, hRk⟩ := hrel
    have HR := Lib.hid hRk
    have HSK := Lib.hid hsk
    have hjl : j < len := by omega
    obtain ⟨G, hG⟩ : ∃ G : Nat → UInt8, ∀ t, G t = dk[t]! := ⟨fun t => dk[t]!, fun _ => rfl⟩
    have HG := Lib.hid hG
    have SK := Lib.hid Sk
    clear hRk hsk hG Sk
    go_wp2
    go_loopw [9] (fun v wr => ∃ i' : Nat, v = .int .i64 i' ∧ i ≤ i' ∧ i' ≤ j + 1 ∧ S8 w0 blk dk wr ∧ scanUp (fun x => !lt8 dk[a]! x) dk j i' = scanUp (fun x => !lt8 dk[a]! x) dk j i) (fun v _ => (j : Int).toNat + 1 - (intOf v).toNat)
    case atStart => exact ⟨i, rfl, Nat.le_refl _, hij, SK.out, rfl⟩
    case round =>
      clear SK
      obtain ⟨i', rfl, hii, hij', Sk, hsc⟩ := hrel
      have hcw : ∀ t, t < len → wr.cell? ⟨blk, t, none⟩ = some (.int .u8 ((G t).toNat : Int)) := fun t ht => by rw [HG.out]; exact Sk.cells t (by have := HSK.out; omega)
      have SK := Lib.hid Sk
      have HSC := Lib.hid hsc
      clear hsc Sk
      obtain ⟨r, hr⟩ : ∃ r, lt8 (G a) (G i') = r := ⟨_, rfl⟩
      have q := less8 (G a) (G i')
      rw [hr] at q
      have hcase : (i' ≤ j ∧ r = false) ∨ (i' ≤ j ∧ r = true) ∨ ¬ i' ≤ j := by
        cases r
        · rcases Nat.lt_or_ge j i' with h | h
          · exact .inr (.inr (by omega))
          · exact .inl ⟨h, rfl⟩
        · rcases Nat.lt_or_ge j i' with h | h
          · exact .inr (.inr (by omega))
          · exact .inr (.inl ⟨h, rfl⟩)
      have HRR := Lib.hid hr
      clear hr
      rcases hcase with ⟨hle, rfl⟩ | hcase
      · have hil : i' < len := by omega
        have HN := Lib.hid (scanUp_go (fun x => !lt8 dk[a]! x) dk j i' hle (by show (!lt8 dk[a]! dk[i']!) = true; rw [← HG.out, ← HG.out, HRR.out]; rfl))
        go_wp2
        go_quiet (first | (go_at_call 96; refine Calls.quiet_of_same (q _)))
        go_wp2
        go_roundw
        case rel => exact ⟨i' + 1, by go_num, by omega, by omega, SK.out.drewN nq, by rw [← HN.out, HSC.out]⟩
        case measure => simp [intOf]; omega
      · have HI : Hid (i' = scanUp (fun x => !lt8 dk[a]! x) dk j i) := Lib.hid (by
          rw [← HSC.out, scanUp_end]
          rcases hcase with ⟨_, rfl⟩ | h
          · exact .inr (by show (!lt8 dk[a]! dk[i']!) = false; rw [← HG.out, ← HG.out, HRR.out]; rfl)
          · exact .inl h)
        clear HSC HRR
        rcases hcase with ⟨hle, rfl⟩ | hle
        all_goals
          try have hil : i' < len := by omega
          go_wp2
          go_quiet (first | (go_at_call 96; refine Calls.quiet_of_same (q _)))
          have SK2 := Lib.hid (SK.out.drewN nq)
          generalize wr.drewN nq = w2 at SK2 ⊢
          clear SK hcw q
          go_wp2
          go_loopw [10] (fun v wr => ∃ j' : Nat, v = .int .i64 j' ∧ j' ≤ j ∧ i' ≤ j' + 1 ∧ S8 w0 blk dk wr ∧ scanDown (fun x => lt8 dk[a]! x) dk i' j' = scanDown (fun x => lt8 dk[a]! x) dk i' j) (fun v _ => (intOf v).toNat)
          case atStart => exact ⟨j, rfl, Nat.le_refl _, hij', SK2.out, rfl⟩
          case round =>
            clear SK2
            obtain ⟨j', rfl, hjj, hij2, Sk, hsc⟩ := hrel
            have hcw : ∀ t, t < len → wr.cell? ⟨blk, t, none⟩ = some (.int .u8 ((G t).toNat : Int)) := fun t ht => by rw [HG.out]; exact Sk.cells t (by have := HSK.out; omega)
            have hfw : ∀ t, t < len → wr.frozen? ⟨blk, t, none⟩ = false := fun t ht => Sk.free t (by have := HSK.out; omega)
            have SK := Lib.hid Sk
            have HSC := Lib.hid hsc
            clear hsc Sk
            have hjl' : j' < len := by omega
            obtain ⟨r, hr⟩ : ∃ r, lt8 (G a) (G j') = r := ⟨_, rfl⟩
            have q := less8 (G a) (G j')
            rw [hr] at q
            have hcase : (i' ≤ j' ∧ r = true) ∨ (i' ≤ j' ∧ r = false) ∨ ¬ i' ≤ j' := by
              cases r
              · rcases Nat.lt_or_ge j' i' with h | h
                · exact .inr (.inr (by omega))
                · exact .inr (.inl ⟨h, rfl⟩)
              · rcases Nat.lt_or_ge j' i' with h | h
                · exact .inr (.inr (by omega))
                · exact .inl ⟨h, rfl⟩
            have HRR := Lib.hid hr
            clear hr
            rcases hcase with ⟨hle2, rfl⟩ | hcase
            · have HN := Lib.hid (scanDown_go (fun x => lt8 dk[a]! x) dk i' j' hle2 (by omega) (by show lt8 dk[a]! dk[j']! = true; rw [← HG.out, ← HG.out, HRR.out]))
              clear hfw
              go_wp2
              go_quiet (first | (go_at_call 96; refine Calls.quiet_of_same (q _)))
              go_wp2
              go_roundw
              case rel => exact ⟨j' - 1, by congr 1; omega, by omega, by omega, SK.out.drewN nq, by rw [← HN.out, HSC.out]⟩
              case measure => simp [intOf]; omega
            · have HJ : Hid (j' = scanDown (fun x => lt8 dk[a]! x) dk i' j) := Lib.hid (by
                rw [← HSC.out, scanDown_end]
                rcases hcase with ⟨_, rfl⟩ | h
                · exact .inr (by show lt8 dk[a]! dk[j']! = false; rw [← HG.out, ← HG.out, HRR.out])
                · exact .inl h)
              clear HSC HRR
              rcases hcase with ⟨hle2, rfl⟩ | hle2
              · first
                | (exfalso; omega)
                | (
                  have hil2 : i' < len := by omega
                  have hlt2 : i' < j' := scans_lt lt8 a i j dk (by omega) HI.out HJ.out (by omega)
                  have HE := Lib.hid (partEq_go lt8 a i j dk HI.out HJ.out (by omega))
                  go_wp2
                  go_quiet (first | (go_at_call 96; refine Calls.quiet_of_same (q _)))
                  have hcw3 : ∀ t, t < len → (wr.drewN nq).cell? ⟨blk, t, none⟩ = some (.int .u8 ((G t).toNat : Int)) := hcw
                  have hfw3 : ∀ t, t < len → (wr.drewN nq).frozen? ⟨blk, t, none⟩ = false := hfw
                  have HW3 := Lib.hid (((SK.out.drewN nq).swapped i' j' (by have := HSK.out; omega) (by have := HSK.out; omega)).drew)
                  rw [← HG.out, ← HG.out] at HW3
                  clear hcw hfw SK q
                  generalize wr.drewN nq = w3 at HW3 hcw3 hfw3 ⊢
                  obtain ⟨v', hy'⟩ := cell?_setCell_some (w := w3) (p := ⟨blk, i', none⟩) (x := .int .u8 ((G j').toNat : Int)) (q := ⟨blk, j', none⟩) (hcw3 j' (by omega))
                  go_wp2
                  go_region
                  go_wp2
                  go_roundw
                  case rel => exact ⟨i' + 1, j' - 1, _, by go_num, by congr 1; omega, by omega, by omega, by omega, by rw [size_swp]; exact HSK.out, HW3.out, by rw [← HR.out, HE.out]⟩
                  case measure => simp [intOf]; omega)
              · have HE := Lib.hid (partEq_break lt8 a i j dk HI.out HJ.out (by omega))
                clear hfw
                go_wp2
                go_quiet (fail)
                have SK2 := Lib.hid (SK.out.drewN nq)
                generalize wr.drewN nq = w2 at SK2 ⊢
                go_wp2
                go_ret
                exact ⟨by rw [← HR.out, HE.out]; rfl, by rw [← HR.out, HE.out]; exact SK2.out⟩
end Go.Proofs.Ythgdanbkngnckaa

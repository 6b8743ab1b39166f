/-
  The library's sort at bytes: the heap sort.
-/
import Derived.Test.YthgdanbkngnckaaT12
import Derived.Sort.WalkB2
import Derived.Sort.WalkB3
set_option linter.unusedVariables false
set_option linter.unusedSimpArgs false
namespace Go.Proofs.Ythgdanbkngnckaa
open Go.RowKit Go.Sort

set_option maxHeartbeats 2000000 in
theorem sift8 (blk len cap lo hi first : Nat) (d : Array UInt8) (w0 w : World) (hlen : d.size = len) (S : S8 w0 blk d w) (hlo : lo ≤ hi) (hb : first + hi ≤ d.size) (hsz : d.size < 4611686018427387904) :
    Calls Try.prog 101 #[.slice (some ⟨blk, 0, none⟩) len cap, .int .i64 lo, .int .i64 hi, .int .i64 first] w fun e w' => e = .returned (.tuple #[]) ∧ S8 w0 blk (Sort.siftDown lt8 hi first lo d) w' := by
  have S0 := Lib.hid S
  have HLEN := Lib.hid hlen
  have hfl : first + hi ≤ len := by omega
  have hls : len < 4611686018427387904 := by omega
  clear S hlen hb hsz
  go_enter Try.func101, Try.ntmps101
  go_wp2
  go_loopw [8] (fun vi wr => ∃ (root : Nat) (dk : Array UInt8), vi = .int .i64 root ∧ root ≤ hi ∧ dk.size = len ∧ S8 w0 blk dk wr ∧ Sort.siftDown lt8 hi first root dk = Sort.siftDown lt8 hi first lo d) (fun vi _ => hi - (intOf vi).toNat)
  case atStart => exact ⟨lo, d, rfl, hlo, HLEN.out, S0.out, rfl⟩
  case round =>
    clear S0
    obtain ⟨root, dk, rfl, hrh, hsk, Sk, hR⟩ := hrel
    obtain ⟨G, hG⟩ : ∃ G : Nat → UInt8, ∀ t, G t = dk[t]! := ⟨fun t => dk[t]!, fun _ => rfl⟩
    have hcw : ∀ t, t < len → wr.cell? ⟨blk, t, none⟩ = some (.int .u8 ((G t).toNat : Int)) := fun t ht => by rw [hG]; exact Sk.cells t (by omega)
    have hfw : ∀ t, t < len → wr.frozen? ⟨blk, t, none⟩ = false := fun t ht => Sk.free t (by omega)
    have HW := Lib.hid Sk
    have HG := Lib.hid hG
    have HR := Lib.hid hR
    have HSK := Lib.hid hsk
    clear Sk hG hR hsk
    obtain ⟨c, hc⟩ : ∃ c, c = 2 * root + 1 := ⟨_, rfl⟩
    have ec : (2 : Int) * (root : Int) + 1 = (c : Int) := by omega
    by_cases h0 : c < hi
    · obtain ⟨i0, hi0⟩ : ∃ i0, i0 = first + root := ⟨_, rfl⟩
      obtain ⟨i1, hi1⟩ : ∃ i1, i1 = first + c := ⟨_, rfl⟩
      obtain ⟨i2, hi2⟩ : ∃ i2, i2 = first + c + 1 := ⟨_, rfl⟩
      have w0' : IntKind.i64.wrap ((first : Int) + (root : Int)) = (i0 : Int) := by rw [IntKind.wrap_i64]; omega
      have w1' : IntKind.i64.wrap ((first : Int) + (c : Int)) = (i1 : Int) := by rw [IntKind.wrap_i64]; omega
      have w2' : IntKind.i64.wrap ((i1 : Int) + 1) = (i2 : Int) := by rw [IntKind.wrap_i64]; omega
      obtain ⟨c2, hc2⟩ : ∃ c2, c2 = c + 1 := ⟨_, rfl⟩
      have w3' : IntKind.i64.wrap ((c : Int) + 1) = (c2 : Int) := by rw [IntKind.wrap_i64]; omega
      have w4' : (c : Int) + 1 = (c2 : Int) := by omega
      have l0 : i0 < len := by omega
      have l1 : i1 < len := by omega
      have hch0 : root < c := by omega
      by_cases h2 : c2 < hi
      · have l2 : i2 < len := by omega
        have d2 : decide ((c2 : Int) < (hi : Int)) = true := decide_eq_true (by omega)
        obtain ⟨r2, hr2⟩ : ∃ r2, lt8 (G i1) (G i2) = r2 := ⟨_, rfl⟩
        have q2 := less8 (G i1) (G i2)
        rw [hr2] at q2
        have hr2' : lt8 dk[first + (2 * root + 1)]! dk[first + (2 * root + 2)]! = r2 := by
          rw [← HG.out, ← HG.out, show first + (2 * root + 1) = i1 by omega, show first + (2 * root + 2) = i2 by omega]; exact hr2
        have e0 : first + root = i0 := hi0.symm
        have e1 : first + (2 * root + 1) = i1 := by omega
        have e2 : first + (2 * root + 2) = i2 := by omega
        have e3 : 2 * root + 2 = c2 := by omega
        cases r2
        · have HST := Lib.hid (show lt8 dk[i0]! dk[i1]! = false → Sort.siftDown lt8 hi first root dk = dk from fun h => by
            refine sd_left_stop lt8 dk (by omega) (fun _ => hr2') ?_
            rw [e0, e1]; exact h)
          have HGO := Lib.hid (show lt8 dk[i0]! dk[i1]! = true → Sort.siftDown lt8 hi first root dk = Sort.siftDown lt8 hi first c (swp dk i0 i1) from fun h => by
            rw [sd_left_go lt8 dk (by omega) (fun _ => hr2') (by rw [e0, e1]; exact h), e0, e1, hc])
          clear hc hc2 hi0 hi1 hi2 hr2 hr2' e0 e1 e2 e3
          obtain ⟨ch, hch⟩ : ∃ ch, ch = c := ⟨_, rfl⟩
          subst hch
          obtain ⟨ich, hich⟩ : ∃ ich, ich = i1 := ⟨_, rfl⟩
          subst hich
          go_wp2
          go_quiet (first | (go_at_call 96; refine Calls.quiet_of_same (q2 _)))
          have HW2 := Lib.hid (HW.out.drewN nq)
          have hcw2 : ∀ t, t < len → (wr.drewN nq).cell? ⟨blk, t, none⟩ = some (.int .u8 ((G t).toNat : Int)) := hcw
          have hfw2 : ∀ t, t < len → (wr.drewN nq).frozen? ⟨blk, t, none⟩ = false := hfw
          clear hcw hfw HW
          generalize wr.drewN nq = w2 at HW2 hcw2 hfw2 ⊢
          go_wp2
          have HC := Lib.hid (show (dk[i0]!, dk[ich]!) = (G i0, G ich) by rw [HG.out, HG.out])
          obtain ⟨r, hr⟩ : ∃ r, lt8 (G i0) (G ich) = r := ⟨_, rfl⟩
          have HL := Lib.hid hr
          have q := less8 (G i0) (G ich)
          rw [hr] at q
          clear hr
          cases r
          · go_quiet (first | (go_at_call 96; refine Calls.quiet_of_same (q _)))
            have HW3 := Lib.hid (HW2.out.drewN nq)
            generalize w2.drewN nq = w3 at HW3 ⊢
            clear hcw2 hfw2
            go_wp2
            exact bodyPost_ret (v := .tuple #[]) (by simp [results, Try.results101, go_sem]) rfl ⟨rfl, by rw [← HR.out, HST.out (by rw [← HG.out, ← HG.out]; exact HL.out)]; exact HW3.out⟩
          · go_quiet (first | (go_at_call 96; refine Calls.quiet_of_same (q _)))
            have hcw3 : ∀ t, t < len → (w2.drewN nq).cell? ⟨blk, t, none⟩ = some (.int .u8 ((G t).toNat : Int)) := hcw2
            have hfw3 : ∀ t, t < len → (w2.drewN nq).frozen? ⟨blk, t, none⟩ = false := hfw2
            have HW3 := Lib.hid ((HW2.out.drewN nq).drew.swapped i0 ich (by have := HSK.out; omega) (by have := HSK.out; omega))
            rw [← HG.out, ← HG.out] at HW3
            clear hcw2 hfw2 HW2
            generalize w2.drewN nq = w3 at HW3 hcw3 hfw3 ⊢
            obtain ⟨v', hy'⟩ := cell?_setCell_some (w := w3) (p := ⟨blk, i0, none⟩) (x := .int .u8 ((G ich).toNat : Int)) (q := ⟨blk, ich, none⟩) (hcw3 ich (by omega))
            go_wp2
            go_region
            all_goals go_wp2
            go_roundw
            case rel => exact ⟨ch, swp dk i0 ich, rfl, by omega, by rw [size_swp]; exact HSK.out, HW3.out, by rw [← HR.out, HGO.out (by rw [← HG.out, ← HG.out]; exact HL.out)]⟩
            case measure => simp [intOf]; omega

        · have hch1 : root < c2 := by omega
          have HST := Lib.hid (show lt8 dk[i0]! dk[i2]! = false → Sort.siftDown lt8 hi first root dk = dk from fun h => by
            refine sd_right_stop lt8 dk (by omega) hr2' ?_
            rw [e0, e2]; exact h)
          have HGO := Lib.hid (show lt8 dk[i0]! dk[i2]! = true → Sort.siftDown lt8 hi first root dk = Sort.siftDown lt8 hi first c2 (swp dk i0 i2) from fun h => by
            rw [sd_right_go lt8 dk (by omega) hr2' (by rw [e0, e2]; exact h), e0, e2, e3])
          have w5' : IntKind.i64.wrap ((first : Int) + (c2 : Int)) = (i2 : Int) := by rw [IntKind.wrap_i64]; omega
          clear hr2 hr2' e0 e1 e2 e3
          clear hc hc2 hi0 hi1 hi2
          obtain ⟨ch, hch⟩ : ∃ ch, ch = c2 := ⟨_, rfl⟩
          subst hch
          obtain ⟨ich, hich⟩ : ∃ ich, ich = i2 := ⟨_, rfl⟩
          subst hich
          go_wp2
          go_quiet (first | (go_at_call 96; refine Calls.quiet_of_same (q2 _)))
          have HW2 := Lib.hid (HW.out.drewN nq)
          have hcw2 : ∀ t, t < len → (wr.drewN nq).cell? ⟨blk, t, none⟩ = some (.int .u8 ((G t).toNat : Int)) := hcw
          have hfw2 : ∀ t, t < len → (wr.drewN nq).frozen? ⟨blk, t, none⟩ = false := hfw
          clear hcw hfw HW
          generalize wr.drewN nq = w2 at HW2 hcw2 hfw2 ⊢
          go_wp2
          have HC := Lib.hid (show (dk[i0]!, dk[ich]!) = (G i0, G ich) by rw [HG.out, HG.out])
          obtain ⟨r, hr⟩ : ∃ r, lt8 (G i0) (G ich) = r := ⟨_, rfl⟩
          have HL := Lib.hid hr
          have q := less8 (G i0) (G ich)
          rw [hr] at q
          clear hr
          cases r
          · go_quiet (first | (go_at_call 96; refine Calls.quiet_of_same (q _)))
            have HW3 := Lib.hid (HW2.out.drewN nq)
            generalize w2.drewN nq = w3 at HW3 ⊢
            clear hcw2 hfw2
            go_wp2
            exact bodyPost_ret (v := .tuple #[]) (by simp [results, Try.results101, go_sem]) rfl ⟨rfl, by rw [← HR.out, HST.out (by rw [← HG.out, ← HG.out]; exact HL.out)]; exact HW3.out⟩
          · go_quiet (first | (go_at_call 96; refine Calls.quiet_of_same (q _)))
            have hcw3 : ∀ t, t < len → (w2.drewN nq).cell? ⟨blk, t, none⟩ = some (.int .u8 ((G t).toNat : Int)) := hcw2
            have hfw3 : ∀ t, t < len → (w2.drewN nq).frozen? ⟨blk, t, none⟩ = false := hfw2
            have HW3 := Lib.hid ((HW2.out.drewN nq).drew.swapped i0 ich (by have := HSK.out; omega) (by have := HSK.out; omega))
            rw [← HG.out, ← HG.out] at HW3
            clear hcw2 hfw2 HW2
            generalize w2.drewN nq = w3 at HW3 hcw3 hfw3 ⊢
            obtain ⟨v', hy'⟩ := cell?_setCell_some (w := w3) (p := ⟨blk, i0, none⟩) (x := .int .u8 ((G ich).toNat : Int)) (q := ⟨blk, ich, none⟩) (hcw3 ich (by omega))
            go_wp2
            go_region
            all_goals go_wp2
            go_roundw
            case rel => exact ⟨ch, swp dk i0 ich, rfl, by omega, by rw [size_swp]; exact HSK.out, HW3.out, by rw [← HR.out, HGO.out (by rw [← HG.out, ← HG.out]; exact HL.out)]⟩
            case measure => simp [intOf]; omega

      · have d2 : decide ((c2 : Int) < (hi : Int)) = false := decide_eq_false (by omega)
        have e0 : first + root = i0 := hi0.symm
        have e1 : first + (2 * root + 1) = i1 := by omega
        have HST := Lib.hid (show lt8 dk[i0]! dk[i1]! = false → Sort.siftDown lt8 hi first root dk = dk from fun h => by
          refine sd_left_stop lt8 dk (by omega) (fun h => by omega) ?_
          rw [e0, e1]; exact h)
        have HGO := Lib.hid (show lt8 dk[i0]! dk[i1]! = true → Sort.siftDown lt8 hi first root dk = Sort.siftDown lt8 hi first c (swp dk i0 i1) from fun h => by
          rw [sd_left_go lt8 dk (by omega) (fun h => by omega) (by rw [e0, e1]; exact h), e0, e1, hc])
        clear hc hc2 hi0 hi1 hi2 e0 e1
        obtain ⟨ch, hch⟩ : ∃ ch, ch = c := ⟨_, rfl⟩
        subst hch
        obtain ⟨ich, hich⟩ : ∃ ich, ich = i1 := ⟨_, rfl⟩
        subst hich
        go_wp2
        go_quiet (fail)
        have HW2 := Lib.hid (HW.out.drewN nq)
        have hcw2 : ∀ t, t < len → (wr.drewN nq).cell? ⟨blk, t, none⟩ = some (.int .u8 ((G t).toNat : Int)) := hcw
        have hfw2 : ∀ t, t < len → (wr.drewN nq).frozen? ⟨blk, t, none⟩ = false := hfw
        clear hcw hfw HW
        generalize wr.drewN nq = w2 at HW2 hcw2 hfw2 ⊢
        go_wp2
        have HC := Lib.hid (show (dk[i0]!, dk[ich]!) = (G i0, G ich) by rw [HG.out, HG.out])
        obtain ⟨r, hr⟩ : ∃ r, lt8 (G i0) (G ich) = r := ⟨_, rfl⟩
        have HL := Lib.hid hr
        have q := less8 (G i0) (G ich)
        rw [hr] at q
        clear hr
        cases r
        · go_quiet (first | (go_at_call 96; refine Calls.quiet_of_same (q _)))
          have HW3 := Lib.hid (HW2.out.drewN nq)
          generalize w2.drewN nq = w3 at HW3 ⊢
          clear hcw2 hfw2
          go_wp2
          exact bodyPost_ret (v := .tuple #[]) (by simp [results, Try.results101, go_sem]) rfl ⟨rfl, by rw [← HR.out, HST.out (by rw [← HG.out, ← HG.out]; exact HL.out)]; exact HW3.out⟩
        · go_quiet (first | (go_at_call 96; refine Calls.quiet_of_same (q _)))
          have hcw3 : ∀ t, t < len → (w2.drewN nq).cell? ⟨blk, t, none⟩ = some (.int .u8 ((G t).toNat : Int)) := hcw2
          have hfw3 : ∀ t, t < len → (w2.drewN nq).frozen? ⟨blk, t, none⟩ = false := hfw2
          have HW3 := Lib.hid ((HW2.out.drewN nq).drew.swapped i0 ich (by have := HSK.out; omega) (by have := HSK.out; omega))
          rw [← HG.out, ← HG.out] at HW3
          clear hcw2 hfw2 HW2
          generalize w2.drewN nq = w3 at HW3 hcw3 hfw3 ⊢
          obtain ⟨v', hy'⟩ := cell?_setCell_some (w := w3) (p := ⟨blk, i0, none⟩) (x := .int .u8 ((G ich).toNat : Int)) (q := ⟨blk, ich, none⟩) (hcw3 ich (by omega))
          go_wp2
          go_region
          all_goals go_wp2
          go_roundw
          case rel => exact ⟨ch, swp dk i0 ich, rfl, by omega, by rw [size_swp]; exact HSK.out, HW3.out, by rw [← HR.out, HGO.out (by rw [← HG.out, ← HG.out]; exact HL.out)]⟩
          case measure => simp [intOf]; omega

    · have HE := Lib.hid (sd_end (lt := lt8) (F := first) dk (show hi ≤ 2 * root + 1 by omega))
      clear hc
      go_wp2
      go_end0
      exact ⟨rfl, by rw [← HR.out, HE.out]; exact HW.out⟩
end Go.Proofs.Ythgdanbkngnckaa

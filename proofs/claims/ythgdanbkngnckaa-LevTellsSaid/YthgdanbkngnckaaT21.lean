/-
  The library's sort at bytes, of fifty elements and more: the partial insertion sort.
-/
import Derived.Test.YthgdanbkngnckaaT12
import Derived.Sort.WalkA6
import Derived.Sort.LotA
import Derived.Deep.CutRange
import Derived.Deep.DeepCutAuto
set_option linter.unusedVariables false
set_option linter.unusedSimpArgs false
namespace Go.Proofs.Ythgdanbkngnckaa
open Go.RowKit Go.Sort

set_option maxHeartbeats 4000000 in
set_option maxRecDepth 100000 in
theorem partial8b (blk len cap a b : Nat) (d : Array UInt8) (w0 w : World) (hlen : d.size = len) (S : S8 w0 blk d w) (hab : a < b) (h50 : a + 50 ≤ b) (hb : b ≤ len) (hsz : len < 4611686018427387904) :
    Calls Try.prog 95 #[.slice (some ⟨blk, 0, none⟩) len cap, .int .i64 a, .int .i64 b] w fun e w' => ∃ R : Array UInt8 × Bool, Sort.partialInsertionSort lt8 d a b = R ∧ e = .returned (.bool R.2) ∧ S8 w0 blk R.1 w' := by
  have SK := Lib.hid S
  have HL := Lib.hid hlen
  obtain ⟨R, hR⟩ : ∃ R, Sort.partialInsertionSort lt8 d a b = R := ⟨_, rfl⟩
  have HR : Hid (partialIns lt8 a b 5 (a + 1) d = R) := Lib.hid hR
  rw [hR]
  clear S hlen hR
  have e50 : decide ((b : Int) - (a : Int) < 50) = false := decide_eq_false (by omega)
  have f50 : ¬ ((b : Int) - (a : Int) < 50) := by omega
  go_enter Try.func95, Try.ntmps95
  go_wp2
  go_loopw [7, 8] (fun v7 v8 wr => ∃ (i s : Nat) (dk : Array UInt8), v7 = .int .i64 (i : Int) ∧ v8 = .int .i64 (s : Int) ∧ s ≤ 5 ∧ a < i ∧ i ≤ b ∧ Hid (dk.size = len) ∧ Hid (S8 w0 blk dk wr) ∧ Hid (partialIns lt8 a b (5 - s) i dk = R)) (fun _ v8 _ => 5 - (intOf v8).toNat)
  case atStart => exact ⟨a + 1, 0, d, by go_num, rfl, by omega, by omega, by omega, HL, SK, HR⟩
  case round =>
    clear SK HL HR
    obtain ⟨i, s, dk, rfl, rfl, hs5, hai, hib, HL, SK, HO⟩ := hrel
    by_cases hs : s < 5
    · have s1 : decide ((s : Int) < 5) = true := decide_eq_true (by omega)
      have s2 : decide (s < 5) = true := decide_eq_true hs
      have HSs := Lib.hid hs
      clear hs
      go_wp2
      go_loopw [7] (fun v wr => ∃ k : Nat, v = .int .i64 (k : Int) ∧ i ≤ k ∧ k ≤ b ∧ Hid (S8 w0 blk dk wr) ∧ Hid (scanSorted lt8 dk b k = scanSorted lt8 dk b i)) (fun v _ => b - (intOf v).toNat)
      case atStart => exact ⟨i, rfl, Nat.le_refl _, hib, SK, Lib.hid rfl⟩
      case round =>
        clear SK
        obtain ⟨k, rfl, hik, hkb, SK, HSC⟩ := hrel
        obtain ⟨G, hG⟩ : ∃ G : Nat → UInt8, ∀ t, G t = dk[t]! := ⟨fun t => dk[t]!, fun _ => rfl⟩
        have hcw : ∀ t, t < len → wr.cell? ⟨blk, t, none⟩ = some (.int .u8 ((G t).toNat : Int)) := fun t ht => by rw [hG]; exact SK.out.cells t (by have := HL.out; omega)
        have hfw : ∀ t, t < len → wr.frozen? ⟨blk, t, none⟩ = false := fun t ht => SK.out.free t (by have := HL.out; omega)
        have HG := Lib.hid hG
        clear hG
        by_cases hlt : k < b
        · obtain ⟨ip, hip⟩ : ∃ ip, k = ip + 1 := ⟨k - 1, by omega⟩
          have hil : k < len := by omega
          have hipl : ip < len := by omega
          have hw1 : IntKind.i64.wrap ((k : Int) - 1) = (ip : Int) := by rw [IntKind.wrap_i64]; omega
          have HIP := Lib.hid (show k - 1 = ip by omega)
          have hn1 : k ≠ ip := by omega
          have hn2 : ip ≠ k := by omega
          clear hip
          obtain ⟨r, hr⟩ : ∃ r, lt8 (G k) (G ip) = r := ⟨_, rfl⟩
          have q := less8 (G k) (G ip)
          rw [hr] at q
          have HRR := Lib.hid (show lt8 dk[k]! dk[k - 1]! = r by rw [HIP.out, ← HG.out, ← HG.out]; exact hr)
          clear hr
          cases r
          · have HN := Lib.hid (scanSorted_go lt8 dk b k hlt HRR.out)
            go_wp2
            go_quiet (first | (go_at_call 96; refine Calls.quiet_of_same (q _)))
            have SK2 := Lib.hid (SK.out.drewN nq)
            go_wp2
            go_roundw
            case rel => exact ⟨k + 1, by go_num, by omega, by omega, SK2, Lib.hid (by rw [← HN.out, HSC.out])⟩
            case measure => simp [intOf]; omega
          · have HK : Hid (scanSorted lt8 dk b i = k) := Lib.hid (by rw [← HSC.out, scanSorted_stop lt8 dk b k (.inr HRR.out)])
            have hne : ((k : Int) == (b : Int)) = false := by rw [beq_eq_false_iff_ne]; omega
            have hne2 : ¬ (k : Int) = (b : Int) := by omega
            go_wp2
            go_quiet (first | (go_at_call 96; refine Calls.quiet_of_same (q _)))
            have SK2 := Lib.hid (SK.out.drewN nq)
            have hcw2 : ∀ t, t < len → (wr.drewN nq).cell? ⟨blk, t, none⟩ = some (.int .u8 ((G t).toNat : Int)) := hcw
            have hfw2 : ∀ t, t < len → (wr.drewN nq).frozen? ⟨blk, t, none⟩ = false := hfw
            clear hcw hfw q
            generalize wr.drewN nq = w2 at SK2 hcw2 hfw2 ⊢
            go_upto_region 11 with fail
            go_region
            have HSw : Hid (S8 w0 blk (swp dk k ip) ((w2.setCell ⟨blk, k, none⟩ (.int .u8 ((G ip).toNat : Int))).setCell ⟨blk, ip, none⟩ (.int .u8 ((G k).toNat : Int))).drew) := Lib.hid (by
              rw [HG.out, HG.out]
              exact (SK2.out.swapped k ip (by have := HL.out; omega) (by have := HL.out; omega)).drew)
            clear hcw2 hfw2 SK2
            generalize ((w2.setCell ⟨blk, k, none⟩ (.int .u8 ((G ip).toNat : Int))).setCell ⟨blk, ip, none⟩ (.int .u8 ((G k).toNat : Int))).drew = w3 at HSw ⊢
            obtain ⟨d1, hd1⟩ : ∃ d1, d1 = swp dk k ip := ⟨_, rfl⟩
            rw [← hd1] at HSw
            have HD1 : Hid (d1 = swp dk k (k - 1) ∧ d1.size = len) := Lib.hid ⟨by rw [HIP.out]; exact hd1, by rw [hd1, size_swp]; exact HL.out⟩
            clear hd1
            go_upto_if 61 with fail
            go_cut [] from 58 to 94 (fun wx => ∃ dj : Array UInt8, fixDown lt8 a k d1 = dj ∧ dj.size = len ∧ S8 w0 blk dj wx)
            case first =>
              by_cases hka : k - a ≥ 2
              · have t1 : decide ((2 : Int) ≤ (k : Int) - (a : Int)) = true := decide_eq_true (by omega)
                have t3 : (2 : Int) ≤ (k : Int) - (a : Int) := by omega
                have HKA := Lib.hid hka
                clear hka
                go_wp2
                go_loopw [9] (fun vj wr => ∃ (j : Nat) (dj : Array UInt8), vj = .int .i64 (j : Int) ∧ j ≤ k - 1 ∧ Hid (dj.size = len) ∧ Hid (S8 w0 blk dj wr) ∧ Hid (shiftDown lt8 j dj = shiftDown lt8 (k - 1) d1)) (fun vj _ => (intOf vj).toNat)
                case atStart => exact ⟨k - 1, d1, by first | (congr 1; omega) | (rw [HIP.out]), Nat.le_refl _, Lib.hid HD1.out.2, HSw, Lib.hid rfl⟩
                case round =>
                  clear HSw
                  obtain ⟨j, dj, rfl, hjk, HLj, SKj, HEj⟩ := hrel
                  obtain ⟨F, hF⟩ : ∃ F : Nat → UInt8, ∀ t, F t = dj[t]! := ⟨fun t => dj[t]!, fun _ => rfl⟩
                  have hcw : ∀ t, t < len → wr.cell? ⟨blk, t, none⟩ = some (.int .u8 ((F t).toNat : Int)) := fun t ht => by rw [hF]; exact SKj.out.cells t (by have := HLj.out; omega)
                  have hfw : ∀ t, t < len → wr.frozen? ⟨blk, t, none⟩ = false := fun t ht => SKj.out.free t (by have := HLj.out; omega)
                  have HFd := Lib.hid hF
                  clear hF
                  by_cases hj1 : 1 ≤ j
                  · have t1 : decide ((1 : Int) ≤ (j : Int)) = true := decide_eq_true (by omega)
                    have t2 : decide (1 ≤ j) = true := decide_eq_true hj1
                    obtain ⟨jp, hjp⟩ : ∃ jp, j = jp + 1 := ⟨j - 1, by omega⟩
                    have hjl : j < len := by omega
                    have hjpl : jp < len := by omega
                    have hjw : IntKind.i64.wrap ((j : Int) - 1) = (jp : Int) := by rw [IntKind.wrap_i64]; omega
                    have HJP := Lib.hid (show j - 1 = jp by omega)
                    have hm1 : j ≠ jp := by omega
                    have hm2 : jp ≠ j := by omega
                    clear hjp
                    obtain ⟨r, hr⟩ : ∃ r, lt8 (F j) (F jp) = r := ⟨_, rfl⟩
                    have q := less8 (F j) (F jp)
                    rw [hr] at q
                    have HRj := Lib.hid (show lt8 dj[j]! dj[j - 1]! = r by rw [HJP.out, ← HFd.out, ← HFd.out]; exact hr)
                    clear hr
                    cases r
                    · have HFix : Hid (fixDown lt8 a k d1 = dj) := Lib.hid (by unfold fixDown; rw [if_pos HKA.out, ← HEj.out, shiftDown_stop lt8 j dj (.inr HRj.out)])
                      go_wp2
                      go_quiet (first | (go_at_call 96; refine Calls.quiet_of_same (q _)))
                      have SK9 := Lib.hid (SKj.out.drewN nq)
                      go_wp2
                      go_meet
                      exact ⟨dj, HFix.out, HLj.out, SK9.out⟩
                    · go_wp2
                      go_quiet (first | (go_at_call 96; refine Calls.quiet_of_same (q _)))
                      have SK9 := Lib.hid (SKj.out.drewN nq)
                      have hcw2 : ∀ t, t < len → (wr.drewN nq).cell? ⟨blk, t, none⟩ = some (.int .u8 ((F t).toNat : Int)) := hcw
                      have hfw2 : ∀ t, t < len → (wr.drewN nq).frozen? ⟨blk, t, none⟩ = false := hfw
                      clear hcw hfw q
                      generalize wr.drewN nq = w7 at SK9 hcw2 hfw2 ⊢
                      go_upto_region 17 with fail
                      go_region
                      have HS9 : Hid (S8 w0 blk (swp dj j jp) ((w7.setCell ⟨blk, j, none⟩ (.int .u8 ((F jp).toNat : Int))).setCell ⟨blk, jp, none⟩ (.int .u8 ((F j).toNat : Int))).drew) := Lib.hid (by
                        rw [HFd.out, HFd.out]
                        exact (SK9.out.swapped j jp (by have := HLj.out; omega) (by have := HLj.out; omega)).drew)
                      have HE9 : Hid (shiftDown lt8 (j - 1) (swp dj j jp) = shiftDown lt8 (k - 1) d1) := Lib.hid (by rw [← HEj.out, shiftDown_go lt8 j dj (by omega) HRj.out, HJP.out])
                      have HL9 : Hid ((swp dj j jp).size = len) := Lib.hid (by rw [size_swp]; exact HLj.out)
                      clear hcw2 hfw2 SK9
                      go_wp2
                      go_roundw
                      case rel => exact ⟨j - 1, swp dj j jp, by first | (congr 1; omega) | (rw [HJP.out]), by omega, HL9, HS9, HE9⟩
                      case measure => have := HJP.out; simp [intOf]; omega
                  · have t1 : decide ((1 : Int) ≤ (j : Int)) = false := decide_eq_false (by omega)
                    have t2 : decide (1 ≤ j) = false := decide_eq_false hj1
                    have HFix : Hid (fixDown lt8 a k d1 = dj) := Lib.hid (by unfold fixDown; rw [if_pos HKA.out, ← HEj.out, shiftDown_stop lt8 j dj (.inl (by omega))])
                    clear hj1
                    go_wp2
                    go_meet
                    exact ⟨dj, HFix.out, HLj.out, SKj.out⟩
              · have t1 : decide ((2 : Int) ≤ (k : Int) - (a : Int)) = false := decide_eq_false (by omega)
                have t3 : ¬ (2 : Int) ≤ (k : Int) - (a : Int) := by omega
                have HFix : Hid (fixDown lt8 a k d1 = d1) := Lib.hid (by unfold fixDown; rw [if_neg hka])
                clear hka
                go_wp2
                go_meet
                exact ⟨d1, HFix.out, HD1.out.2, HSw.out⟩
            obtain ⟨d2, hfd, hl2, S2⟩ := hcut
            have HSw2 := Lib.hid S2
            have HD2 : Hid (fixDown lt8 a k d1 = d2 ∧ d2.size = len) := Lib.hid ⟨hfd, hl2⟩
            clear hfd hl2 S2 HSw
            obtain ⟨w4, hw4⟩ : ∃ w4, w4 = wc := ⟨_, rfl⟩
            subst hw4
            by_cases hkb2 : b - k ≥ 2
            · have t1 : decide ((2 : Int) ≤ (b : Int) - (k : Int)) = true := decide_eq_true (by omega)
              have t3 : (2 : Int) ≤ (b : Int) - (k : Int) := by omega
              have HKA := Lib.hid hkb2
              clear hkb2
              go_wp2
              go_loopw [10] (fun vj wr => ∃ (j : Nat) (dj : Array UInt8), vj = .int .i64 (j : Int) ∧ k + 1 ≤ j ∧ j ≤ b ∧ Hid (dj.size = len) ∧ Hid (S8 w0 blk dj wr) ∧ Hid (shiftUp lt8 b j dj = shiftUp lt8 b (k + 1) d2)) (fun vj _ => b - (intOf vj).toNat)
              case atStart => exact ⟨k + 1, d2, by go_num, Nat.le_refl _, by omega, Lib.hid HD2.out.2, HSw2, Lib.hid rfl⟩
              case round =>
                clear HSw2
                obtain ⟨j, dj, rfl, hkj, hjb, HLj, SKj, HEj⟩ := hrel
                obtain ⟨F, hF⟩ : ∃ F : Nat → UInt8, ∀ t, F t = dj[t]! := ⟨fun t => dj[t]!, fun _ => rfl⟩
                have hcw : ∀ t, t < len → wr.cell? ⟨blk, t, none⟩ = some (.int .u8 ((F t).toNat : Int)) := fun t ht => by rw [hF]; exact SKj.out.cells t (by have := HLj.out; omega)
                have hfw : ∀ t, t < len → wr.frozen? ⟨blk, t, none⟩ = false := fun t ht => SKj.out.free t (by have := HLj.out; omega)
                have HFd := Lib.hid hF
                clear hF
                by_cases hj1 : j < b
                · have t1 : decide ((j : Int) < (b : Int)) = true := decide_eq_true (by omega)
                  have t2 : decide (j < b) = true := decide_eq_true hj1
                  obtain ⟨jp, hjp⟩ : ∃ jp, j = jp + 1 := ⟨j - 1, by omega⟩
                  have hjl : j < len := by omega
                  have hjpl : jp < len := by omega
                  have hjw : IntKind.i64.wrap ((j : Int) - 1) = (jp : Int) := by rw [IntKind.wrap_i64]; omega
                  have HJP := Lib.hid (show j - 1 = jp by omega)
                  have hm1 : j ≠ jp := by omega
                  have hm2 : jp ≠ j := by omega
                  clear hjp
                  obtain ⟨r, hr⟩ : ∃ r, lt8 (F j) (F jp) = r := ⟨_, rfl⟩
                  have q := less8 (F j) (F jp)
                  rw [hr] at q
                  have HRj := Lib.hid (show lt8 dj[j]! dj[j - 1]! = r by rw [HJP.out, ← HFd.out, ← HFd.out]; exact hr)
                  clear hr
                  cases r
                  · have HFix : Hid (fixUp lt8 b k d2 = dj) := Lib.hid (by unfold fixUp; rw [if_pos HKA.out, ← HEj.out, shiftUp_stop lt8 b j dj (.inr HRj.out)])
                    go_wp2
                    go_quiet (first | (go_at_call 96; refine Calls.quiet_of_same (q _)))
                    have SK9 := Lib.hid (SKj.out.drewN nq)
                    go_wp2
                    have HO3 : Hid (partialIns lt8 a b (5 - (s + 1)) k dj = R) := Lib.hid (by rw [← HO.out, pi_go lt8 a b s i k dk HSs.out HK.out (by omega) (by omega), ← HD1.out.1, HD2.out.1, HFix.out])
                    go_roundw
                    case rel => exact ⟨k, s + 1, dj, rfl, by go_num, by have := HSs.out; omega, by omega, by omega, Lib.hid HLj.out, Lib.hid SK9.out, HO3⟩
                    case measure => have := HSs.out; simp [intOf]; omega
                  · go_wp2
                    go_quiet (first | (go_at_call 96; refine Calls.quiet_of_same (q _)))
                    have SK9 := Lib.hid (SKj.out.drewN nq)
                    have hcw2 : ∀ t, t < len → (wr.drewN nq).cell? ⟨blk, t, none⟩ = some (.int .u8 ((F t).toNat : Int)) := hcw
                    have hfw2 : ∀ t, t < len → (wr.drewN nq).frozen? ⟨blk, t, none⟩ = false := hfw
                    clear hcw hfw q
                    generalize wr.drewN nq = w7 at SK9 hcw2 hfw2 ⊢
                    go_upto_region 23 with fail
                    go_region
                    have HS9 : Hid (S8 w0 blk (swp dj j jp) ((w7.setCell ⟨blk, j, none⟩ (.int .u8 ((F jp).toNat : Int))).setCell ⟨blk, jp, none⟩ (.int .u8 ((F j).toNat : Int))).drew) := Lib.hid (by
                      rw [HFd.out, HFd.out]
                      exact (SK9.out.swapped j jp (by have := HLj.out; omega) (by have := HLj.out; omega)).drew)
                    have HE9 : Hid (shiftUp lt8 b (j + 1) (swp dj j jp) = shiftUp lt8 b (k + 1) d2) := Lib.hid (by rw [← HEj.out, shiftUp_go lt8 b j dj (by omega) HRj.out, HJP.out])
                    have HL9 : Hid ((swp dj j jp).size = len) := Lib.hid (by rw [size_swp]; exact HLj.out)
                    clear hcw2 hfw2 SK9
                    go_wp2
                    go_roundw
                    case rel => exact ⟨j + 1, swp dj j jp, by go_num, by omega, by omega, HL9, HS9, HE9⟩
                    case measure => simp [intOf]; omega
                · have t1 : decide ((j : Int) < (b : Int)) = false := decide_eq_false (by omega)
                  have t2 : decide (j < b) = false := decide_eq_false hj1
                  have HFix : Hid (fixUp lt8 b k d2 = dj) := Lib.hid (by unfold fixUp; rw [if_pos HKA.out, ← HEj.out, shiftUp_stop lt8 b j dj (.inl (by omega))])
                  clear hj1
                  go_wp2
                  have HO3 : Hid (partialIns lt8 a b (5 - (s + 1)) k dj = R) := Lib.hid (by rw [← HO.out, pi_go lt8 a b s i k dk HSs.out HK.out (by omega) (by omega), ← HD1.out.1, HD2.out.1, HFix.out])
                  go_roundw
                  case rel => exact ⟨k, s + 1, dj, rfl, by go_num, by have := HSs.out; omega, by omega, by omega, Lib.hid HLj.out, Lib.hid SKj.out, HO3⟩
                  case measure => have := HSs.out; simp [intOf]; omega
            · have t1 : decide ((2 : Int) ≤ (b : Int) - (k : Int)) = false := decide_eq_false (by omega)
              have t3 : ¬ (2 : Int) ≤ (b : Int) - (k : Int) := by omega
              have HFix : Hid (fixUp lt8 b k d2 = d2) := Lib.hid (by unfold fixUp; rw [if_neg hkb2])
              clear hkb2
              go_wp2
              have HO3 : Hid (partialIns lt8 a b (5 - (s + 1)) k d2 = R) := Lib.hid (by rw [← HO.out, pi_go lt8 a b s i k dk HSs.out HK.out (by omega) (by omega), ← HD1.out.1, HD2.out.1, HFix.out])
              go_roundw
              case rel => exact ⟨k, s + 1, d2, rfl, by go_num, by have := HSs.out; omega, by omega, by omega, Lib.hid HD2.out.2, Lib.hid HSw2.out, HO3⟩
              case measure => have := HSs.out; simp [intOf]; omega
        · obtain rfl : k = b := by omega
          have HE : Hid (R = (dk, true)) := Lib.hid (by rw [← HO.out]; exact pi_true lt8 a k s i dk HSs.out (by rw [← HSC.out, scanSorted_stop lt8 dk k k (.inl (by omega))]))
          go_wp2
          go_quiet (fail)
          have SK2 := Lib.hid (SK.out.drewN nq)
          generalize wr.drewN nq = w2 at SK2 ⊢
          go_wp2
          go_ret
          exact ⟨R, rfl, by rw [HE.out]; rfl, by rw [HE.out]; exact SK2.out⟩
    · have hs6 : s = 5 := by omega
      have s1 : decide ((s : Int) < 5) = false := decide_eq_false (by omega)
      have s2 : decide (s < 5) = false := decide_eq_false hs
      have HE : Hid (R = (dk, false)) := Lib.hid (by rw [← HO.out, hs6]; exact pi_end lt8 a b i dk)
      clear hs hs6
      go_wp2
      go_ret
      exact ⟨R, rfl, by rw [HE.out]; rfl, by rw [HE.out]; exact SK.out⟩
end Go.Proofs.Ythgdanbkngnckaa

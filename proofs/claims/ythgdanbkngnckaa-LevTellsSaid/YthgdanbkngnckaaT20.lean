/-
  The library's sort at bytes: of few (fewer than fifty) elements, are they sorted.
-/
import Derived.Test.YthgdanbkngnckaaT12
import Derived.Sort.WalkA6
set_option linter.unusedVariables false
set_option linter.unusedSimpArgs false
namespace Go.Proofs.Ythgdanbkngnckaa
open Go.RowKit Go.Sort

set_option maxHeartbeats 2000000 in
theorem partial8 (blk len cap a b : Nat) (d : Array UInt8) (w0 w : World) (hlen : d.size = len) (S : S8 w0 blk d w) (hab : a < b) (h50 : b < a + 50) (hb : b ≤ len) (hsz : len < 4611686018427387904) :
    Calls Try.prog 95 #[.slice (some ⟨blk, 0, none⟩) len cap, .int .i64 a, .int .i64 b] w fun e w' => ∃ r : Bool, e = .returned (.bool r) ∧ Sort.partialInsertionSort lt8 d a b = (d, r) ∧ S8 w0 blk d w' := by
  have SK := Lib.hid S
  have HL := Lib.hid hlen
  obtain ⟨G, hG⟩ : ∃ G : Nat → UInt8, ∀ t, G t = d[t]! := ⟨fun t => d[t]!, fun _ => rfl⟩
  have HG := Lib.hid hG
  obtain ⟨R, hR⟩ : ∃ R, R = Sort.partialInsertionSort lt8 d a b := ⟨_, rfl⟩
  rw [← hR]
  have HT : Hid (scanSorted lt8 d b (a + 1) = b → R = (d, true)) := Lib.hid (fun h => by rw [hR]; exact pi_true lt8 a b 0 (a + 1) d (by omega) h)
  have HF : Hid (scanSorted lt8 d b (a + 1) ≠ b → R = (d, false)) := Lib.hid (fun h => by rw [hR]; exact pi_short lt8 a b 0 (a + 1) d (by omega) h (by omega))
  clear S hlen hG hR
  go_enter Try.func95, Try.ntmps95
  go_wp2
  go_loopw [7, 8] (fun v7 v8 wr => v7 = .int .i64 ((a : Int) + 1) ∧ v8 = .int .i64 0 ∧ S8 w0 blk d wr) (fun _ _ _ => 0)
  case atStart => exact ⟨rfl, rfl, SK.out⟩
  case round =>
    clear SK
    obtain ⟨rfl, rfl, Sk⟩ := hrel
    have SK := Lib.hid Sk
    clear Sk
    go_wp2
    go_loopw [7] (fun v wr => ∃ i : Nat, v = .int .i64 i ∧ a < i ∧ i ≤ b ∧ S8 w0 blk d wr ∧ scanSorted lt8 d b i = scanSorted lt8 d b (a + 1)) (fun v _ => b - (intOf v).toNat)
    case atStart => exact ⟨a + 1, by go_num, by omega, by omega, SK.out, rfl⟩
    case round =>
      clear SK
      obtain ⟨i, rfl, hai, hib, Sk, hsc⟩ := hrel
      have hcw : ∀ t, t < len → wr.cell? ⟨blk, t, none⟩ = some (.int .u8 ((G t).toNat : Int)) := fun t ht => by rw [HG.out]; exact Sk.cells t (by have := HL.out; omega)
      have SK := Lib.hid Sk
      have HSC := Lib.hid hsc
      clear hsc Sk
      by_cases hlt : i < b
      · obtain ⟨ip, hip⟩ : ∃ ip, i = ip + 1 := ⟨i - 1, by omega⟩
        have hil : i < len := by omega
        have hipl : ip < len := by omega
        have hw1 : IntKind.i64.wrap ((i : Int) - 1) = (ip : Int) := by rw [IntKind.wrap_i64]; omega
        have HIP := Lib.hid (show i - 1 = ip by omega)
        clear hip
        obtain ⟨r, hr⟩ : ∃ r, lt8 (G i) (G ip) = r := ⟨_, rfl⟩
        have q := less8 (G i) (G ip)
        rw [hr] at q
        have HRR := Lib.hid (show lt8 d[i]! d[i - 1]! = r by rw [HIP.out, ← HG.out, ← HG.out]; exact hr)
        clear hr
        cases r
        · have HN := Lib.hid (scanSorted_go lt8 d b i hlt HRR.out)
          go_wp2
          go_quiet (first | (go_at_call 96; refine Calls.quiet_of_same (q _)))
          go_wp2
          go_roundw
          case rel => exact ⟨i + 1, by go_num, by omega, by omega, SK.out.drewN nq, by rw [← HN.out, HSC.out]⟩
          case measure => simp [intOf]; omega
        · have HE : Hid (R = (d, false)) := Lib.hid (HF.out (by rw [← HSC.out, scanSorted_stop lt8 d b i (.inr HRR.out)]; omega))
          have hne : ((i : Int) == (b : Int)) = false := by rw [beq_eq_false_iff_ne]; omega
          have hne2 : ¬ (i : Int) = (b : Int) := by omega
          go_wp2
          go_quiet (first | (go_at_call 96; refine Calls.quiet_of_same (q _)))
          have SK2 := Lib.hid (SK.out.drewN nq)
          generalize wr.drewN nq = w2 at SK2 ⊢
          go_wp2
          go_ret
          exact ⟨false, rfl, HE.out, SK2.out⟩
      · obtain rfl : i = b := by omega
        have HE : Hid (R = (d, true)) := Lib.hid (HT.out (by rw [← HSC.out, scanSorted_stop lt8 d i i (.inl (by omega))]))
        go_wp2
        go_quiet (fail)
        have SK2 := Lib.hid (SK.out.drewN nq)
        generalize wr.drewN nq = w2 at SK2 ⊢
        go_wp2
        go_ret
        exact ⟨true, rfl, HE.out, SK2.out⟩
end Go.Proofs.Ythgdanbkngnckaa

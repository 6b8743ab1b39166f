/-
  The library's sort at bytes: what turns a part around.
-/
import Derived.Test.YthgdanbkngnckaaT12
import Derived.Sort.LotB
set_option linter.unusedVariables false
set_option linter.unusedSimpArgs false
namespace Go.Proofs.Ythgdanbkngnckaa
open Go.RowKit Go.Sort

set_option maxHeartbeats 2000000 in
theorem reverse8 (blk len cap a b : Nat) (d : Array UInt8) (w0 w : World) (hlen : d.size = len) (S : S8 w0 blk d w) (hab : a < b) (hb : b ≤ d.size) (hsz : d.size < 4611686018427387904) :
    Calls Try.prog 94 #[.slice (some ⟨blk, 0, none⟩) len cap, .int .i64 a, .int .i64 b] w fun e w' => e = .returned (.tuple #[]) ∧ S8 w0 blk (Sort.reverseRange d a b) w' := by
  have S0 := Lib.hid S
  have HLEN := Lib.hid hlen
  have hbl : b ≤ len := by omega
  have hls : len < 4611686018427387904 := by omega
  obtain ⟨b1, hb1⟩ : ∃ b1, b1 = b - 1 := ⟨_, rfl⟩
  have e1 : (b : Int) - 1 = (b1 : Int) := by omega
  have hb1l : b1 < len := by omega
  obtain ⟨R, hR⟩ : ∃ R, R = Sort.reverseRange d a b := ⟨_, rfl⟩
  rw [← hR]
  have HR : Hid (reverseLoop a b1 d = R) := Lib.hid (by rw [hR, hb1]; rfl)
  clear S hlen hb hsz hb1 hR hbl
  go_enter Try.func94, Try.ntmps94
  go_wp2
  go_loopw [6, 7] (fun v6 v7 wr => ∃ (i j : Nat) (dk : Array UInt8), v6 = .int .i64 i ∧ v7 = .int .i64 j ∧ i ≤ len ∧ j < len ∧ dk.size = len ∧ S8 w0 blk dk wr ∧ reverseLoop i j dk = R) (fun _ v _ => (intOf v).toNat)
  case atStart => exact ⟨a, b1, d, rfl, rfl, by omega, hb1l, HLEN.out, S0.out, HR.out⟩
  case round =>
    clear S0 HR HLEN
    obtain ⟨i, j, dk, rfl, rfl, hi, hj, hsk, Sk, hR⟩ := hrel
    have HR := Lib.hid hR
    have HSK := Lib.hid hsk
    by_cases hij : i < j
    · obtain ⟨G, hG⟩ : ∃ G : Nat → UInt8, ∀ t, G t = dk[t]! := ⟨fun t => dk[t]!, fun _ => rfl⟩
      have hcw : ∀ t, t < len → wr.cell? ⟨blk, t, none⟩ = some (.int .u8 ((G t).toNat : Int)) := fun t ht => by rw [hG]; exact Sk.cells t (by omega)
      have hfw : ∀ t, t < len → wr.frozen? ⟨blk, t, none⟩ = false := fun t ht => Sk.free t (by omega)
      have HW3 := Lib.hid (Sk.drew.swapped i j (by omega) (by omega))
      rw [← hG, ← hG] at HW3
      have hil : i < len := by omega
      have HE : Hid (reverseLoop i j dk = reverseLoop (i + 1) (j - 1) (swp dk i j)) := Lib.hid (by rw [reverseLoop, if_pos hij])
      obtain ⟨v', hy'⟩ := cell?_setCell_some (w := wr) (p := ⟨blk, i, none⟩) (x := .int .u8 ((G j).toNat : Int)) (q := ⟨blk, j, none⟩) (hcw j (by omega))
      clear hR Sk hsk hG
      go_wp2
      go_region
      all_goals go_wp2
      go_roundw
      case rel => exact ⟨i + 1, j - 1, _, by go_num, by congr 1; omega, by omega, by omega, by rw [size_swp]; exact HSK.out, HW3.out, by rw [← HR.out, HE.out]⟩
      case measure => simp [intOf]; omega
    · have HS1 := Lib.hid (show S8 w0 blk R wr by rw [← hR, reverseLoop, if_neg hij]; exact Sk)
      clear hR Sk hsk HR
      go_wp2
      go_end0
      exact ⟨rfl, HS1.out⟩
end Go.Proofs.Ythgdanbkngnckaa

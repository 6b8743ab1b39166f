/-
  The library's sort at bytes: the heap sort, whole; what turns a part around.
-/
import Derived.Test.YthgdanbkngnckaaT13
import Derived.Sort.LotB
set_option linter.unusedVariables false
set_option linter.unusedSimpArgs false
namespace Go.Proofs.Ythgdanbkngnckaa
open Go.RowKit Go.Sort

theorem cast0 : ((0 : Nat) : Int) = 0 := rfl

set_option maxHeartbeats 2000000 in
theorem heap8 (blk len cap a b : Nat) (d : Array UInt8) (w0 w : World) (hlen : d.size = len) (S : S8 w0 blk d w) (hab : a ≤ b) (hb : b ≤ d.size) (hsz : d.size < 4611686018427387904) :
    Calls Try.prog 91 #[.slice (some ⟨blk, 0, none⟩) len cap, .int .i64 a, .int .i64 b] w fun e w' => e = .returned (.tuple #[]) ∧ S8 w0 blk (Sort.heapSort lt8 d a b) w' := by
  have S0 := Lib.hid S
  have HLEN := Lib.hid hlen
  have hbl : b ≤ len := by omega
  have hls : len < 4611686018427387904 := by omega
  obtain ⟨hi, hhi⟩ : ∃ hi, hi = b - a := ⟨_, rfl⟩
  have e1 : (b : Int) - (a : Int) = (hi : Int) := by omega
  obtain ⟨k0, hk0⟩ : ∃ k0, k0 = (hi - 1) / 2 + 1 := ⟨_, rfl⟩
  have hs : ((hi : Int) - 1).tdiv 2 = (k0 : Int) - 1 := by
    have := half_start hab
    rw [show (b : Int) - (a : Int) = (hi : Int) by omega, show b - a = hi by omega, ← hk0] at this
    exact this
  have hkh : k0 ≤ hi + 1 := by omega
  have hah : a + hi ≤ len := by omega
  obtain ⟨R, hR⟩ : ∃ R, R = Sort.heapSort lt8 d a b := ⟨_, rfl⟩
  have hR2 : R = heapPop lt8 a hi (heapBuild lt8 hi a k0 d) := by rw [hR, hk0, hhi]; rfl
  rw [← hR]
  have HR := Lib.hid hR2
  have q1 := Lib.hid (fun (lo h : Nat) (dk : Array UInt8) (W : World) (h1 : dk.size = len) (h2 : lo ≤ h) (h3 : a + h ≤ len) (s : S8 w0 blk dk W) => sift8 blk len cap lo h a dk w0 W h1 s h2 (by omega) (by omega))
  clear S hlen hb hsz hhi hk0 hR hR2 hab
  go_enter Try.func91, Try.ntmps91
  go_wp2
  go_loopw [9] (fun v wr => ∃ (z : Int) (k : Nat) (dk : Array UInt8), v = .int .i64 z ∧ z = (k : Int) - 1 ∧ k ≤ k0 ∧ dk.size = len ∧ S8 w0 blk dk wr ∧ heapBuild lt8 hi a k dk = heapBuild lt8 hi a k0 d) (fun v _ => (intOf v + 1).toNat)
  case atStart => exact ⟨(k0 : Int) - 1, k0, d, rfl, rfl, Nat.le_refl _, HLEN.out, S0.out, rfl⟩
  case round =>
    clear S0
    obtain ⟨z, k, dk, rfl, hz, hkk, hsk, Sk, hB⟩ := hrel
    have HB := Lib.hid hB
    have HSK := Lib.hid hsk
    cases k with
    | succ k =>
      obtain rfl : z = (k : Int) := by omega
      have q := q1.out k hi dk wr hsk (by omega) hah Sk
      clear hB hz Sk hsk
      go_wp2_with (go_at_call 101; (with_reducible refine q.mono ?_); rintro e w1 ⟨rfl, S1⟩; have HS1 := Lib.hid S1; clear S1 q)
      go_roundw
      case rel => exact ⟨(k : Int) - 1, k, _, rfl, rfl, by omega, by rw [size_siftDown lt8 hi a (hi - k) k dk (Nat.le_refl _)]; exact HSK.out, HS1.out, by rw [← HB.out]; rfl⟩
      case measure => simp [intOf]
    | zero =>
      obtain rfl : z = -1 := by omega
      have HB2 : Hid (dk = heapBuild lt8 hi a k0 d) := Lib.hid (by rw [← HB.out]; rfl)
      have SK := Lib.hid Sk
      clear hz hB HB Sk hsk hs
      go_wp2
      go_loopw [10] (fun v wr => ∃ (z : Int) (k : Nat) (dj : Array UInt8), v = .int .i64 z ∧ z = (k : Int) - 1 ∧ k ≤ hi ∧ dj.size = len ∧ S8 w0 blk dj wr ∧ heapPop lt8 a k dj = R) (fun v _ => (intOf v + 1).toNat)
      case atStart => exact ⟨(hi : Int) - 1, hi, dk, rfl, rfl, Nat.le_refl _, HSK.out, SK.out, by rw [HR.out, HB2.out]⟩
      case round =>
        clear SK HB2 HSK
        obtain ⟨z, k, dj, rfl, hz, hkk, hsk, Sk, hP⟩ := hrel
        have HP := Lib.hid hP
        have HSK := Lib.hid hsk
        cases k with
        | succ k =>
          obtain rfl : z = (k : Int) := by omega
          obtain ⟨ik, hik⟩ : ∃ ik, ik = a + k := ⟨_, rfl⟩
          have w1' : IntKind.i64.wrap ((a : Int) + (k : Int)) = (ik : Int) := by rw [IntKind.wrap_i64]; omega
          have w2' : (a : Int) + (k : Int) = (ik : Int) := by omega
          have hikl : ik < len := by omega
          have hal : a < len := by omega
          obtain ⟨G, hG⟩ : ∃ G : Nat → UInt8, ∀ t, G t = dj[t]! := ⟨fun t => dj[t]!, fun _ => rfl⟩
          have hcw : ∀ t, t < len → wr.cell? ⟨blk, t, none⟩ = some (.int .u8 ((G t).toNat : Int)) := fun t ht => by rw [hG]; exact Sk.cells t (by omega)
          have hfw : ∀ t, t < len → wr.frozen? ⟨blk, t, none⟩ = false := fun t ht => Sk.free t (by omega)
          have HW3 := Lib.hid ((Sk.swapped a ik (by omega) (by omega)).drew)
          rw [← hG, ← hG] at HW3
          have q := fun W h => q1.out 0 k (swp dj a ik) W (by rw [size_swp]; exact hsk) (Nat.zero_le _) (by omega) h
          rw [cast0] at q
          have HQ := Lib.hid q
          have HE : Hid (heapPop lt8 a (k + 1) dj = heapPop lt8 a k (Sort.siftDown lt8 k a 0 (swp dj a ik))) := Lib.hid (by rw [hik]; rfl)
          obtain ⟨v', hy'⟩ := cell?_setCell_some (w := wr) (p := ⟨blk, a, none⟩) (x := .int .u8 ((G ik).toNat : Int)) (q := ⟨blk, ik, none⟩) (hcw ik (by omega))
          clear hP hz Sk hsk hik hG q
          go_wp2
          go_region
          have q := HQ.out _ HW3.out
          all_goals go_wp2_with (go_at_call 101; (with_reducible refine q.mono ?_); rintro e w1 ⟨rfl, S1⟩; have HS1 := Lib.hid S1; clear S1 q)
          go_roundw
          case rel => exact ⟨(k : Int) - 1, k, _, rfl, rfl, by omega, by rw [size_siftDown lt8 k a (k - 0) 0 _ (Nat.le_refl _), size_swp]; exact HSK.out, HS1.out, by rw [← HP.out, HE.out]⟩
          case measure => simp [intOf]
        | zero =>
          obtain rfl : z = -1 := by omega
          have HS1 := Lib.hid (show S8 w0 blk R wr by rw [← hP]; exact Sk)
          clear hz hP Sk HP
          go_wp2
          go_end0
          exact ⟨rfl, HS1.out⟩
end Go.Proofs.Ythgdanbkngnckaa

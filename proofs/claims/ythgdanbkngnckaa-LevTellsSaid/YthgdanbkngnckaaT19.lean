/-
  The library's sort at bytes: what breaks a pattern, of fewer than a thousand elements: some exchange of the part's elements.
-/
import Derived.Test.YthgdanbkngnckaaT12
import Derived.Test.YthgdanbkngnckaaT18
import Derived.Sort.LotD5
import Derived.Sort.Walk7a
import Derived.Sort.WalkA14
set_option linter.unusedVariables false
set_option linter.unusedSimpArgs false
namespace Go.Proofs.Ythgdanbkngnckaa
open Go.RowKit Go.Sort

set_option maxHeartbeats 1000000 in
theorem next8 (rb X : Nat) (hX : X < 18446744073709551616) (w : World) (hc : w.cell? ⟨rb, 0, none⟩ = some (.int .u64 X)) (hf : w.frozen? ⟨rb, 0, none⟩ = false) :
    Calls Try.prog 103 #[.pointer (some ⟨rb, 0, none⟩)] w fun e w' => e = .returned (.int .u64 (xorNextN X : Nat)) ∧ w' = (w.setCell ⟨rb, 0, none⟩ (.int .u64 (xorNextN X : Nat))).drewN 3 := by
  obtain ⟨A, hA⟩ : ∃ A : Nat, A = X ^^^ (X * 8192 % 18446744073709551616) := ⟨_, rfl⟩
  obtain ⟨B, hB⟩ : ∃ B : Nat, B = A ^^^ (A / 128) := ⟨_, rfl⟩
  obtain ⟨C, hC⟩ : ∃ C : Nat, C = B ^^^ (B * 131072 % 18446744073709551616) := ⟨_, rfl⟩
  have lA : A < 18446744073709551616 := by rw [hA]; exact Nat.xor_lt_two_pow (n := 64) (by omega) (by omega)
  have lB : B < 18446744073709551616 := by rw [hB]; exact Nat.xor_lt_two_pow (n := 64) (by omega) (by omega)
  have e1 : bits .xor .u64 (X : Int) (IntKind.u64.wrap ((X : Int) * 8192)) = (A : Int) := by
    rw [IntKind.wrap_u64, show ((X : Int) * 8192 % 18446744073709551616) = ((X * 8192 % 18446744073709551616 : Nat) : Int) by omega, bits_xor_u64_nat _ _ hX (by omega), hA]
  have e2 : bits .xor .u64 (A : Int) ((A : Int) / 128) = (B : Int) := by
    rw [show ((A : Int) / 128) = ((A / 128 : Nat) : Int) by omega, bits_xor_u64_nat _ _ lA (by omega), hB]
  have e3 : bits .xor .u64 (B : Int) (IntKind.u64.wrap ((B : Int) * 131072)) = (C : Int) := by
    rw [IntKind.wrap_u64, show ((B : Int) * 131072 % 18446744073709551616) = ((B * 131072 % 18446744073709551616 : Nat) : Int) by omega, bits_xor_u64_nat _ _ lB (by omega), hC]
  have hv : xorNextN X = C := by unfold xorNextN; simp only []; rw [← hA, ← hB, ← hC]
  rw [hv]
  clear hA hB hC hv
  have hss : ∀ v v', (w.setCell ⟨rb, 0, none⟩ v).setCell ⟨rb, 0, none⟩ v' = w.setCell ⟨rb, 0, none⟩ v' := setCell_setCell w rb 0
  go_enter Try.func103, Try.ntmps103
  go_wp2
  go_region
  all_goals go_wp2
  all_goals go_region
  all_goals go_wp2
  all_goals go_region
  all_goals go_wp2
  go_ret
  exact ⟨rfl, rfl⟩

theorem pow8 (n : Nat) (hn : n < 4611686018427387904) (w : World) :
    Calls Try.prog 102 #[.int .i64 n] w fun e w' => e = .returned (.int .u64 ((1 <<< bitsLen n : Nat) : Int)) ∧ w' = w := by
  have hLen : ∀ w, Calls Try.prog 87 #[.int .u64 (n : Int)] w fun e w' => e = .returned (.int .i64 (bitsLen n : Nat)) ∧ w' = w := fun w => by
    have h := Try.bits_Len (n : Int) w (by omega) (by omega)
    rwa [Int.toNat_natCast, bitLen_eq _ (by omega)] at h
  have hk : bitsLen n ≤ 62 := (bitsLen_le_iff n 62).2 (by omega)
  have hp := wrap_two_pow (bitsLen n) hk
  go_enter Try.func102, Try.ntmps102
  go_wp2_with (first | (go_at_call 87; refine (hLen _).mono ?_; rintro e w' ⟨rfl, rfl⟩))
  go_ret
  exact ⟨rfl, rfl⟩

/-- A generator's number, in a block that was made since the sort began. -/
structure X8 (w0 : World) (c X : Nat) (W : World) : Prop where
  cell : W.heap[c]? = some (.cells #[.int .u64 (X : Int)] 128 (0, 0))
  new : w0.heap.size ≤ c
  lt : X < 18446744073709551616

theorem X8.cell? {w0 W : World} {c s : Nat} (h : X8 w0 c s W) : W.cell? ⟨c, 0, none⟩ = some (.int .u64 (s : Int)) ∧ W.frozen? ⟨c, 0, none⟩ = false := by
  simp [World.cell?, World.frozen?, h.cell]
theorem X8.set {w0 W : World} {c s : Nat} (h : X8 w0 c s W) (t : Nat) (ht : t < 18446744073709551616) : X8 w0 c t (W.setCell ⟨c, 0, none⟩ (.int .u64 (t : Int))) := by
  refine ⟨?_, h.new, ht⟩
  rw [cells_setCell h.cell]; rfl
theorem X8.drewN {w0 W : World} {c s : Nat} (h : X8 w0 c s W) (n : Nat) : X8 w0 c s (W.drewN n) := ⟨h.cell, h.new, h.lt⟩
theorem X8.other {w0 W : World} {c s : Nat} (h : X8 w0 c s W) (b i : Nat) (v : Value) (hb : b < w0.heap.size) : X8 w0 c s (W.setCell ⟨b, i, none⟩ v) := by
  refine ⟨?_, h.new, h.lt⟩
  rw [Go.RowKit.Below.heap_setCell _ _ _ _ (by have := h.new; show c ≠ b; omega)]
  exact h.cell

theorem and_lt (X L : Nat) (hL : 0 < L) : X &&& ((1 <<< bitsLen L) - 1) < 2 * L := by
  have h1 := two_pow_bitsLen_le hL
  have h2 : X &&& ((1 <<< bitsLen L) - 1) ≤ (1 <<< bitsLen L) - 1 := Nat.and_le_right
  rw [Nat.one_shiftLeft] at h2 ⊢
  have h3 : 0 < 2 ^ bitsLen L := Nat.two_pow_pos _
  omega

set_option maxHeartbeats 2000000 in
theorem break8 (blk len cap a b : Nat) (d : Array UInt8) (w0 w : World) (hlen : d.size = len) (S : S8 w0 blk d w) (h12 : a + 12 < b) (h50 : b < a + 1000) (hb : b ≤ len) (hsz : len < 4611686018427387904) :
    Calls Try.prog 92 #[.slice (some ⟨blk, 0, none⟩) len cap, .int .i64 a, .int .i64 b] w fun e w' => e = .returned (.tuple #[]) ∧ ∃ d' : Array UInt8, PermIn a b d d' ∧ S8 w0 blk d' w' := by
  obtain ⟨l, hl⟩ : ∃ l, l = b - a := ⟨_, rfl⟩
  have el : (b : Int) - (a : Int) = (l : Int) := by omega
  have l8 : (8 : Int) ≤ (l : Int) := by omega
  obtain ⟨M, hM⟩ : ∃ M, M = 1 <<< bitsLen l := ⟨_, rfl⟩
  have hMl : M ≤ 2 * l ∧ 0 < M := by
    rw [hM, Nat.one_shiftLeft]; exact ⟨two_pow_bitsLen_le (by omega), Nat.two_pow_pos _⟩
  have qp := pow8 l (by omega)
  rw [← hM] at qp
  obtain ⟨i0, hi0⟩ : ∃ i0, i0 = a + l / 4 * 2 - 1 := ⟨_, rfl⟩
  obtain ⟨i9, hi9⟩ : ∃ i9, i9 = a + l / 4 * 2 + 1 := ⟨_, rfl⟩
  have e1 : (a : Int) + (l : Int) / 4 * 2 - 1 = (i0 : Int) := by omega
  have e2 : (a : Int) + (l : Int) / 4 * 2 + 1 = (i9 : Int) := by omega
  have hq4 : (l : Int) / 4 ≤ 250 := by omega
  have hi0a : a ≤ i0 := by omega
  have hi9b : i9 < b := by omega
  have hi09 : i0 ≤ i9 + 1 := by omega
  have hal : a + l ≤ len := by omega
  have SK := Lib.hid (S.alloc (.cells #[.int .u64 (l : Int)] 128))
  have XK : Hid (X8 w0 w.heap.size l (w.alloc (.cells #[.int .u64 (l : Int)] 128))) := Lib.hid ⟨World.alloc_heap_new _ _, S.size, by omega⟩
  have HB := Lib.hid S.lt
  have HL := Lib.hid hlen
  have HLL := Lib.hid hl
  obtain ⟨M1, hM1⟩ : ∃ M1, M1 = M - 1 := ⟨_, rfl⟩
  have hMM : (M : Int) - 1 = (M1 : Int) := by omega
  have HM : Hid (∀ X, X &&& M1 < 2 * l) := Lib.hid (fun X => by rw [hM1, hM]; exact and_lt X l (by omega))
  have hM64 : M1 < 18446744073709551616 := by omega
  have hMw : IntKind.u64.wrap ((M : Int) - 1) = (M1 : Int) := by rw [IntKind.wrap_u64]; omega
  clear S hM hM1 hi0 hi9 hlen hl
  go_enter Try.func92, Try.ntmps92
  go_wp2_with (go_at_call 102; (with_reducible refine (qp _).mono ?_); rintro e w1 ⟨rfl, rfl⟩)
  clear e1 qp hMw
  go_loopw [9] (fun v9 wr => ∃ (i X : Nat) (dk : Array UInt8), v9 = .int .i64 i ∧ i0 ≤ i ∧ i ≤ i9 + 1 ∧ PermIn a b d dk ∧ S8 w0 blk dk wr ∧ X8 w0 w.heap.size X wr) (fun v _ => i9 + 1 - (intOf v).toNat)
  case atStart => exact ⟨i0, l, d, rfl, Nat.le_refl _, hi09, permIn_refl d a b, SK.out, XK.out⟩
  case round =>
    clear SK XK
    obtain ⟨i, X, dk, rfl, hi1, hi2, hP, Sk, Xk⟩ := hrel
    by_cases hle : i ≤ i9
    · obtain ⟨X', hX'⟩ : ∃ X', X' = xorNextN X := ⟨_, rfl⟩
      have hX64 : X' < 18446744073709551616 := by rw [hX']; exact xorNextN_lt X Xk.lt
      have q := next8 w.heap.size X Xk.lt wr Xk.cell?.1 Xk.cell?.2
      rw [← hX'] at q
      have hsz' : dk.size = len := by rw [hP.1]; exact HL.out
      have SK := Lib.hid ((Sk.setNew w.heap.size 0 (.int .u64 (X' : Int)) Xk.new).drewN 3)
      have XK := Lib.hid ((Xk.set X' hX64).drewN 3)
      have HS := Lib.hid hsz'
      have HP := Lib.hid hP
      clear hX' Sk Xk hsz' hP
      obtain ⟨o, ho⟩ : ∃ o, o = X' &&& M1 := ⟨_, rfl⟩
      have eo : bits .and .u64 (X' : Int) (M1 : Int) = (o : Int) := by rw [bits_and_u64_nat X' M1 hX64 hM64, ho]
      have ho2 : o < 2 * l := by rw [ho]; exact HM.out X'
      have eow : IntKind.i64.wrap (o : Int) = (o : Int) := by rw [IntKind.wrap_i64]; omega
      clear ho
      generalize (wr.setCell ⟨w.heap.size, 0, none⟩ (.int .u64 (X' : Int))).drewN 3 = w2 at SK XK q
      obtain ⟨G, hG⟩ : ∃ G : Nat → UInt8, ∀ t, G t = dk[t]! := ⟨fun t => dk[t]!, fun _ => rfl⟩
      have hcw : ∀ t, t < len → w2.cell? ⟨blk, t, none⟩ = some (.int .u8 ((G t).toNat : Int)) := fun t ht => by rw [hG]; exact SK.out.cells t (by have := HS.out; omega)
      have hfw : ∀ t, t < len → w2.frozen? ⟨blk, t, none⟩ = false := fun t ht => SK.out.free t (by have := HS.out; omega)
      have HG := Lib.hid hG
      clear hG
      have hil : i < len := by omega
      obtain ⟨o2, ho2e⟩ : ∃ o2, o2 = if l ≤ o then o - l else o := ⟨_, rfl⟩
      have ho2l : o2 < l := by rw [ho2e]; split <;> omega
      obtain ⟨io, hio⟩ : ∃ io, io = a + o2 := ⟨_, rfl⟩
      have hiol : io < len := by omega
      have ew1 : IntKind.i64.wrap ((a : Int) + (o2 : Int)) = (io : Int) := by rw [IntKind.wrap_i64]; omega
      have ew2 : (a : Int) + (o2 : Int) = (io : Int) := by omega
      have HIO := Lib.hid (show a ≤ io ∧ io < b from by have := HLL.out; omega)
      have HW3 := Lib.hid ((SK.out.swapped i io (by have := HS.out; omega) (by have := HS.out; omega)).drew)
      have HX3 := Lib.hid (((XK.out.other blk i (enc8 dk[io]!) HB.out).other blk io (enc8 dk[i]!) HB.out).drewN 1)
      rw [← HG.out, ← HG.out] at HW3 HX3
      obtain ⟨v', hy'⟩ := cell?_setCell_some (w := w2) (p := ⟨blk, i, none⟩) (x := .int .u8 ((G io).toNat : Int)) (q := ⟨blk, io, none⟩) (hcw io hiol)
      have HPN : Hid (PermIn a b d (swp dk i io)) := Lib.hid (permIn_trans _ _ _ a b HP.out (swp_permIn _ a b i io (by omega) (by omega) HIO.out.1 HIO.out.2 (by have := HS.out; omega)))
      have HT : Hid (∃ (i' X : Nat) (dk : Array UInt8), Value.int .i64 ((i : Int) + 1) = .int .i64 (i' : Nat) ∧ i0 ≤ i' ∧ i' ≤ i9 + 1 ∧ PermIn a b d dk ∧ S8 w0 blk dk (((w2.setCell ⟨blk, i, none⟩ (.int .u8 ((G io).toNat : Int))).setCell ⟨blk, io, none⟩ (.int .u8 ((G i).toNat : Int))).drew) ∧ X8 w0 w.heap.size X (((w2.setCell ⟨blk, i, none⟩ (.int .u8 ((G io).toNat : Int))).setCell ⟨blk, io, none⟩ (.int .u8 ((G i).toNat : Int))).drew)) :=
        Lib.hid ⟨i + 1, X', _, by go_num, by omega, by omega, HPN.out, HW3.out, HX3.out⟩
      clear HW3 HX3 HPN HIO SK XK HP hio
      by_cases hlo : l ≤ o
      · have e3 : (o : Int) - (l : Int) = (o2 : Int) := by rw [ho2e, if_pos hlo]; omega
        clear ho2e
        go_wp2_with (go_at_call 103; (with_reducible refine q.mono ?_); rintro e w1 ⟨rfl, rfl⟩)
        go_region
        go_wp2
        go_roundw
        case rel => exact HT.out
        case measure => simp [intOf]; omega
      · have e3 : o2 = o := by rw [ho2e, if_neg hlo]
        clear ho2e
        subst e3
        go_wp2_with (go_at_call 103; (with_reducible refine q.mono ?_); rintro e w1 ⟨rfl, rfl⟩)
        go_region
        go_wp2
        go_roundw
        case rel => exact HT.out
        case measure => simp [intOf]; omega
    · have SK := Lib.hid Sk
      have HP := Lib.hid hP
      clear Sk hP
      go_wp2
      go_end0
      exact ⟨rfl, dk, HP.out, SK.out⟩
end Go.Proofs.Ythgdanbkngnckaa

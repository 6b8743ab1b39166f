/-
  The statements' made: a script read from the front.
-/
import Derived.Test.YtbdbcfidbapioaaG11
set_option linter.unusedVariables false
set_option linter.unusedSimpArgs false
namespace Go.Proofs.Ytbdbcfidbapioaa
open Go.RowKit Go.Shelf

theorem goM_some {a b : List UInt8} {x y : Nat × Nat × Nat} {c : UInt8} (h : goM a b x c = some y) :
    (c = 61 ∧ x.1 < a.length ∧ x.2.1 < b.length ∧ a.getD x.1 0 = b.getD x.2.1 0 ∧ y = (x.1 + 1, x.2.1 + 1, x.2.2)) ∨
    (c = 120 ∧ x.1 < a.length ∧ x.2.1 < b.length ∧ a.getD x.1 0 ≠ b.getD x.2.1 0 ∧ y = (x.1 + 1, x.2.1 + 1, x.2.2 + 1)) ∨
    (c = 45 ∧ x.1 < a.length ∧ x.2.1 ≤ b.length ∧ y = (x.1 + 1, x.2.1, x.2.2 + 1)) ∨
    (c = 43 ∧ x.1 ≤ a.length ∧ x.2.1 < b.length ∧ y = (x.1, x.2.1 + 1, x.2.2 + 1)) := by
  unfold goM at h
  simp only at h
  by_cases c1 : c = 61
  · subst c1
    simp only [show (61 : UInt8) = 43 ↔ False by decide, show (61 : UInt8) = 45 ↔ False by decide, if_false, if_true, Nat.add_sub_cancel] at h
    split at h
    · cases h
    · rename_i h1
      split at h
      · rename_i h2
        injection h with h
        exact .inl ⟨rfl, by omega, by omega, h2, h.symm⟩
      · cases h
  · by_cases c2 : c = 120
    · subst c2
      simp only [show (120 : UInt8) = 43 ↔ False by decide, show (120 : UInt8) = 45 ↔ False by decide, show (120 : UInt8) = 61 ↔ False by decide, if_false, if_true, Nat.add_sub_cancel] at h
      split at h
      · cases h
      · rename_i h1
        split at h
        · cases h
        · rename_i h2
          injection h with h
          exact .inr (.inl ⟨rfl, by omega, by omega, h2, h.symm⟩)
    · by_cases c3 : c = 45
      · subst c3
        simp only [show (45 : UInt8) = 43 ↔ False by decide, show (45 : UInt8) = 120 ↔ False by decide, show (45 : UInt8) = 61 ↔ False by decide, if_false, if_true, true_or] at h
        split at h
        · cases h
        · rename_i h1
          injection h with h
          exact .inr (.inr (.inl ⟨rfl, by omega, by omega, h.symm⟩))
      · by_cases c4 : c = 43
        · subst c4
          simp only [show (43 : UInt8) = 45 ↔ False by decide, show (43 : UInt8) = 120 ↔ False by decide, show (43 : UInt8) = 61 ↔ False by decide, if_false, if_true, or_true] at h
          split at h
          · cases h
          · rename_i h1
            injection h with h
            exact .inr (.inr (.inr ⟨rfl, by omega, by omega, h.symm⟩))
        · simp only [c1, c2, c3, c4, if_false, or_self] at h
          split at h <;> cases h

set_option maxHeartbeats 4000000 in
set_option maxRecDepth 100000 in
theorem made_any (a b s : ByteArray) (N : Nat) (w : World) (ha : a.size ≤ 1000) (hb : b.size ≤ 1000) (hs : s.size ≤ 10000) (h : goAll a.data.toList b.data.toList (0, 0, 0) s.data.toList = some (a.size, b.size, N)) :
    Calls Try.prog 18 #[.string a, .string b, .string s] w fun e w' => e = .returned (.tuple #[.int .i64 (N : Int), .bool true]) ∧ Below w.heap.size w w' := by
  have H := Lib.hid h
  clear h
  go_enter Try.func18, Try.ntmps18
  go_wp2
  go_loopw [8, 9, 10, 11] (fun s8 s9 s10 s11 wr => ∃ (n i k ch : Nat), n ≤ s.size ∧ s11 = .int .i64 (n : Int) ∧ s8 = .int .i64 (i : Int) ∧ s9 = .int .i64 (k : Int) ∧ s10 = .int .i64 (ch : Int) ∧ Hid (goAll a.data.toList b.data.toList (0, 0, 0) (s.data.toList.take n) = some (i, k, ch)) ∧ i ≤ a.size ∧ k ≤ b.size ∧ ch ≤ n ∧ Hid (Below w.heap.size w wr)) (fun _ _ _ s11 _ => s.size - (intOf s11).toNat)
  case atStart => exact ⟨0, 0, 0, 0, Nat.zero_le _, rfl, rfl, rfl, rfl, Lib.hid rfl, Nat.zero_le _, Nat.zero_le _, Nat.le_refl _, Lib.hid (Below.refl _ _)⟩
  case round =>
    obtain ⟨n, i, k, ch, hn, rfl, rfl, rfl, rfl, HG, hi, hk, hch, HB⟩ := hrel
    by_cases hlt : n < s.size
    · have e1 : decide ((n : Int) < (s.size : Int)) = true := decide_eq_true (by omega)
      have e2 : decide (n < s.size) = true := decide_eq_true hlt
      have il : (n : Int) < (s.size : Int) := by omega
      obtain ⟨x, y, hx, hy, hny⟩ := goes_at H.out n (by rw [ba_length]; exact hlt)
      rw [HG.out] at hx
      injection hx with hx
      subst hx
      rw [byte_getD s n hlt] at hy
      have hcs := goM_some hy
      simp only [ba_length] at hcs
      have HNY := Lib.hid hny
      clear hy hny HG
      rcases hcs with ⟨hc, h1, h2, h3, rfl⟩ | ⟨hc, h1, h2, h3, rfl⟩ | ⟨hc, h1, h2, rfl⟩ | ⟨hc, h1, h2, rfl⟩
      · rw [byte_getD a i h1, byte_getD b k h2] at h3
        have es : (s[n].toNat : Int) = 61 := by rw [hc]; rfl
        have d1 : decide ((a.size : Int) < (i : Int) + 1) = false := decide_eq_false (by omega)
        have d2 : decide ((b.size : Int) < (k : Int) + 1) = false := decide_eq_false (by omega)
        have d1' : decide (a.size < i + 1) = false := decide_eq_false (by omega)
        have d2' : decide (b.size < k + 1) = false := decide_eq_false (by omega)
        have w1 : IntKind.i64.wrap (i : Int) = (i : Int) := IntWalk.i64_in _ (by omega)
        have w2 : IntKind.i64.wrap (k : Int) = (k : Int) := IntWalk.i64_in _ (by omega)
        have w3 : IntKind.i64.wrap ((i : Int) + 1 - 1) = (i : Int) := by rw [show (i : Int) + 1 - 1 = i by omega]; exact w1
        have w4 : IntKind.i64.wrap ((k : Int) + 1 - 1) = (k : Int) := by rw [show (k : Int) + 1 - 1 = k by omega]; exact w2
        have ia : (i : Int) < (a.size : Int) := by omega
        have ib : (k : Int) < (b.size : Int) := by omega
        have f1 : ((a[i].toNat : Int) == (b[k].toNat : Int)) = true := by rw [h3]; simp
        have f2 : ((a[i].toNat : Int) != (b[k].toNat : Int)) = false := by rw [h3]; simp
        have f3 : (a[i].toNat == b[k].toNat) = true := by rw [h3]; simp
        clear hc h3
        go_wp2
        go_region
        go_wp2
        exact ⟨⟨n + 1, i + 1, k + 1, ch, by omega, by go_num, by go_num, by go_num, rfl, HNY, by omega, by omega, by omega, Lib.hid (Below.drew HB.out)⟩, by simp [intOf]; omega⟩
      · rw [byte_getD a i h1, byte_getD b k h2] at h3
        have h3' : a[i].toNat ≠ b[k].toNat := fun e => h3 (UInt8.toNat_inj.1 e)
        have es : (s[n].toNat : Int) = 120 := by rw [hc]; rfl
        have d1 : decide ((a.size : Int) < (i : Int) + 1) = false := decide_eq_false (by omega)
        have d2 : decide ((b.size : Int) < (k : Int) + 1) = false := decide_eq_false (by omega)
        have d1' : decide (a.size < i + 1) = false := decide_eq_false (by omega)
        have d2' : decide (b.size < k + 1) = false := decide_eq_false (by omega)
        have w1 : IntKind.i64.wrap (i : Int) = (i : Int) := IntWalk.i64_in _ (by omega)
        have w2 : IntKind.i64.wrap (k : Int) = (k : Int) := IntWalk.i64_in _ (by omega)
        have w3 : IntKind.i64.wrap ((i : Int) + 1 - 1) = (i : Int) := by rw [show (i : Int) + 1 - 1 = i by omega]; exact w1
        have w4 : IntKind.i64.wrap ((k : Int) + 1 - 1) = (k : Int) := by rw [show (k : Int) + 1 - 1 = k by omega]; exact w2
        have ia : (i : Int) < (a.size : Int) := by omega
        have ib : (k : Int) < (b.size : Int) := by omega
        have f1 : ((a[i].toNat : Int) == (b[k].toNat : Int)) = false := by simp; omega
        have f2 : ((a[i].toNat : Int) != (b[k].toNat : Int)) = true := by simp; omega
        have f3 : (a[i].toNat == b[k].toNat) = false := by simp; omega
        clear hc h3 h3'
        go_wp2
        go_region
        go_wp2
        exact ⟨⟨n + 1, i + 1, k + 1, ch + 1, by omega, by go_num, by go_num, by go_num, by go_num, HNY, by omega, by omega, by omega, Lib.hid (Below.drew HB.out)⟩, by simp [intOf]; omega⟩
      · have es : (s[n].toNat : Int) = 45 := by rw [hc]; rfl
        have d1 : decide ((a.size : Int) < (i : Int) + 1) = false := decide_eq_false (by omega)
        have d2 : decide ((b.size : Int) < (k : Int)) = false := decide_eq_false (by omega)
        have d1' : decide (a.size < i + 1) = false := decide_eq_false (by omega)
        have d2' : decide (b.size < k) = false := decide_eq_false (by omega)
        clear hc
        go_wp2
        exact ⟨⟨n + 1, i + 1, k, ch + 1, by omega, by go_num, by go_num, rfl, by go_num, HNY, by omega, by omega, by omega, HB⟩, by simp [intOf]; omega⟩
      · have es : (s[n].toNat : Int) = 43 := by rw [hc]; rfl
        have d1 : decide ((a.size : Int) < (i : Int)) = false := decide_eq_false (by omega)
        have d2 : decide ((b.size : Int) < (k : Int) + 1) = false := decide_eq_false (by omega)
        have d1' : decide (a.size < i) = false := decide_eq_false (by omega)
        have d2' : decide (b.size < k + 1) = false := decide_eq_false (by omega)
        clear hc
        go_wp2
        exact ⟨⟨n + 1, i, k + 1, ch + 1, by omega, by go_num, rfl, by go_num, by go_num, HNY, by omega, by omega, by omega, HB⟩, by simp [intOf]; omega⟩
    · have hns : n = s.size := by omega
      have e1 : decide ((n : Int) < (s.size : Int)) = false := decide_eq_false (by omega)
      have e2 : decide (n < s.size) = false := decide_eq_false hlt
      have hz := HG.out
      rw [List.take_of_length_le (by rw [ba_length]; omega), H.out] at hz
      injection hz with hz
      injection hz with z1 hz
      injection hz with z2 z3
      have f1 : ((i : Int) == (a.size : Int)) = true := by rw [z1]; simp
      have f2 : ((k : Int) == (b.size : Int)) = true := by rw [z2]; simp
      have f3 : (i == a.size) = true := by rw [z1]; simp
      have f4 : (k == b.size) = true := by rw [z2]; simp
      have HZ := Lib.hid z3
      clear z1 z2 z3 hns hlt
      go_wp2
      go_ret2
      exact ⟨by rw [HZ.out]; rfl, HB.out⟩
end Go.Proofs.Ytbdbcfidbapioaa

/-
  The walk of vary.Get.
-/
import Derived.Test.YtfnmmnbndfdpiaaVSize
namespace Go.Proofs.Ytfnmmnbndfdpiaa
open Go.RowKit

/-- What Get answers, as the program's value. -/
def gotten (r : Nat × Int × Nat) : Value := .tuple #[.int .u64 (r.1 : Int), .int .i64 r.2.1, .int .i64 (r.2.2 : Int)]

theorem get_below (s : ByteArray) (a : Int) (w : World) (ha : a < 0) :
    Calls Try.prog 35 #[.string s, .int .i64 a] w fun e w' => e = .returned (.tuple #[.int .u64 0, .int .i64 a, .int .i64 3]) ∧ w = w' := by
  go_enter Try.func35, Try.ntmps35
  go_wp2
  go_ret3
  exact ⟨rfl, rfl⟩

theorem get_behind (s : ByteArray) (a : Int) (w : World) (ha : 0 ≤ a) (h : (s.size : Int) ≤ a) :
    Calls Try.prog 35 #[.string s, .int .i64 a] w fun e w' => e = .returned (.tuple #[.int .u64 0, .int .i64 a, .int .i64 3]) ∧ w = w' := by
  go_enter Try.func35, Try.ntmps35
  go_wp2
  go_ret3
  exact ⟨rfl, rfl⟩

theorem get_one (s : ByteArray) (k : Nat) (w : World) (hs : s.size ≤ maxLen) (hk : k < s.size) (hb : s[k].toNat ≤ 247) :
    Calls Try.prog 35 #[.string s, .int .i64 k] w fun e w' => e = .returned (.tuple #[.int .u64 s[k].toNat, .int .i64 (k + 1), .int .i64 0]) ∧ w = w' := by
  unfold maxLen at hs
  have hb' : (s[k].toNat : Int) ≤ 247 := by omega
  go_enter Try.func35, Try.ntmps35
  go_wp2
  go_ret3
  exact ⟨rfl, rfl⟩

theorem or_step (x j b : Nat) (hx : x < 256 ^ j) (hj : j < 8) (hb : b < 256) :
    bits .or .u64 (x : Int) (IntKind.u64.wrap (IntKind.u64.wrap (b : Int) * 2 ^ (8 * j))) = ((x + 256 ^ j * b : Nat) : Int) := by
  have hp : (2 : Nat) ^ (8 * j) = 256 ^ j := by rw [Nat.pow_mul]
  have h1 : 256 ^ j * b + x < 18446744073709551616 := by
    have : 256 ^ j * (b + 1) ≤ 256 ^ j * 256 := Nat.mul_le_mul_left _ (by omega)
    have h8 : 256 ^ (j + 1) ≤ 18446744073709551616 := Plain.pow_le8 (by omega)
    rw [Nat.pow_succ] at h8
    rw [Nat.mul_add] at this
    omega
  have e1 : IntKind.u64.wrap (b : Int) = (b : Int) := by simp [IntKind.wrap, IntKind.bits, IntKind.signed]; omega
  have hpi : (2 : Int) ^ (8 * j) = ((256 ^ j : Nat) : Int) := by rw [← hp]; simp
  have e2 : IntKind.u64.wrap ((b : Int) * 2 ^ (8 * j)) = ((256 ^ j * b : Nat) : Int) := by
    rw [hpi, Int.mul_comm, ← Int.natCast_mul]
    obtain ⟨q, hq⟩ : ∃ q, q = 256 ^ j * b := ⟨_, rfl⟩
    rw [← hq] at h1 ⊢
    simp [IntKind.wrap, IntKind.bits, IntKind.signed]
    omega
  rw [e1, e2, u64_or_nat _ _ (by omega) (by omega), ← hp, Nat.or_comm, ← Nat.two_pow_add_eq_or_of_lt (by rw [hp]; exact hx) b, Nat.add_comm]

set_option maxHeartbeats 400000 in
theorem get_short (s : ByteArray) (k m : Nat) (T : ByteArray) (w : World) (hs : s.size ≤ 9223372036854775807) (hk : k < s.size) (hb : ¬ (s[k].toNat : Int) ≤ 247) (hm : (s[k].toNat : Int) - 247 = (m : Int)) (hm9 : m ≤ 8) (hT : s.extract (k + 1) s.size = T) (ht : T.size < m) :
    Calls Try.prog 35 #[.string s, .int .i64 k] w fun e w' => e = .returned (.tuple #[.int .u64 0, .int .i64 k, .int .i64 3]) ∧ w = w' := by
  go_enter Try.func35, Try.ntmps35
  go_wp2
  go_ret3
  exact ⟨rfl, rfl⟩

set_option maxHeartbeats 400000 in
theorem get_long (s : ByteArray) (k m : Nat) (T : ByteArray) (w : World) (hs : s.size ≤ 9223372036854775807) (hk : k < s.size) (hb : ¬ (s[k].toNat : Int) ≤ 247) (hm : (s[k].toNat : Int) - 247 = (m : Int)) (hm9 : m ≤ 8) (hT : s.extract (k + 1) s.size = T) (ht : ¬ T.size < m) (hkm : k + 1 + m ≤ s.size)
    (v sz : Nat) (hv : Plain.val (T.data.toList.take m) = v) (hv64 : v < 18446744073709551616) (hsz : Plain.size v = sz) (_hsz9 : sz ≤ 9) (r : Value) (hr : r = if sz = 1 + m then .tuple #[.int .u64 v, .int .i64 (k + 1 + m), .int .i64 0] else .tuple #[.int .u64 0, .int .i64 k, .int .i64 5]) :
    Calls Try.prog 35 #[.string s, .int .i64 k] w fun e w' => e = .returned r ∧ w = w' := by
  have q11 : ∀ w0, Calls Try.prog 55 #[.int .u64 v] w0 fun e w' => e = .returned (.int .i64 (sz : Int)) ∧ w0 = w' := fun w0 => hsz ▸ size_any v w0 hv64
  have HV := Lib.hid hv; clear hv hsz
  have HR := Lib.hid hr; clear hr
  have ht' : m ≤ T.size := by omega
  go_enter Try.func35, Try.ntmps35
  go_wp2
  go_loop [4, 44] (fun n i => ∃ j x : Nat, j ≤ m ∧ i = .int .i64 j ∧ n = .int .u64 x ∧ Plain.val (T.data.toList.take j) = x ∧ x < 256 ^ j) (fun _ i => m - (intOf i).toNat)
  case atStart => exact ⟨0, 0, Nat.zero_le _, rfl, rfl, rfl, by simp⟩
  case round =>
    obtain ⟨j, x, hj, rfl, rfl, hx, hxl⟩ := hrel
    have HX := Lib.hid hx; clear hx
    have HL := Lib.hid hxl; clear hxl
    by_cases hlt : j < m
    · have hjT : j < T.size := by omega
      go_wp2
      have hbt : T[j].toNat < 256 := T[j].toNat_lt
      have e : Plain.val (T.data.toList.take (j + 1)) = x + 256 ^ j * T[j].toNat := by
        rw [Plain.val_take_succ (by simpa using hjT), HX.out, byte_getD T j hjT]
      refine ⟨⟨j + 1, _, by omega, by go_num, ?_, e, ?_⟩, by simp [intOf]; omega⟩
      · rw [or_step x j _ HL.out (by omega) hbt]
      · rw [← e]
        refine Nat.lt_of_lt_of_le (Plain.val_lt _) ?_
        rw [List.length_take]
        exact Nat.pow_le_pow_right (by omega) (by omega)
    · obtain rfl : j = m := by omega
      obtain rfl : x = v := by rw [← HX.out, HV.out]
      by_cases h : sz = 1 + j
      · have h' : ((sz : Int) != 1 + (j : Int)) = false := by simp; omega
        go_wp2_with (go_at_call 55; go_must (refine (q11 _).mono ?_); rintro e w' ⟨rfl, rfl⟩)
        go_ret3
        exact ⟨(congrArg Ending.returned (HR.out.trans (if_pos h))).symm, rfl⟩
      · have h' : ((sz : Int) != 1 + (j : Int)) = true := by simp; omega
        go_wp2_with (go_at_call 55; go_must (refine (q11 _).mono ?_); rintro e w' ⟨rfl, rfl⟩)
        go_ret3
        exact ⟨(congrArg Ending.returned (HR.out.trans (if_neg h))).symm, rfl⟩

theorem getL_cons (b : UInt8) (r : List UInt8) : Plain.getL (b :: r) = if b.toNat ≤ 247 then (b.toNat, 1, 0) else if r.length < b.toNat - 247 then (0, 0, 3) else
    if Plain.size (Plain.val (r.take (b.toNat - 247))) = 1 + (b.toNat - 247) then (Plain.val (r.take (b.toNat - 247)), 1 + (b.toNat - 247), 0) else (0, 0, 5) := rfl

theorem get_any (s : ByteArray) (a : Int) (w : World) (hs : s.size ≤ maxLen) :
    Calls Try.prog 35 #[.string s, .int .i64 a] w fun e w' => e = .returned (gotten (Plain.get s.data.toList a)) ∧ w = w' := by
  have hs' : s.size ≤ 9223372036854775807 := hs
  have hL : s.data.toList.length = s.size := ba_length s
  unfold gotten Plain.get
  rw [hL]
  by_cases h : a < 0 ∨ (s.size : Int) ≤ a
  · rw [if_pos h]
    by_cases ha : a < 0
    · exact get_below s a w ha
    · exact get_behind s a w (by omega) (by omega)
  · rw [if_neg h]
    obtain ⟨k, rfl⟩ : ∃ k : Nat, a = (k : Int) := ⟨a.toNat, by omega⟩
    have hk : k < s.size := by omega
    have h256 : s[k].toNat < 256 := s[k].toNat_lt
    have hd : s.data.toList.drop k = s[k] :: s.data.toList.drop (k + 1) := by
      rw [List.drop_eq_getElem_cons (by rw [hL]; exact hk)]; rfl
    rw [Int.toNat_natCast, hd]
    have hdl : (s.data.toList.drop (k + 1)).length = s.size - (k + 1) := by rw [List.length_drop, hL]
    rw [getL_cons]
    by_cases hb : s[k].toNat ≤ 247
    · rw [if_pos hb]
      exact get_one s k w hs hk hb
    · rw [if_neg hb]
      have hT : (s.extract (k + 1) s.size).data.toList = s.data.toList.drop (k + 1) := by
        rw [ba_extract, List.take_of_length_le (by rw [hdl]; exact Nat.le_refl _)]
      have hTs : (s.extract (k + 1) s.size).size = s.size - (k + 1) := by rw [← ba_length, hT, hdl]
      rw [hdl]
      generalize hme : s[k].toNat - 247 = m
      have hmi : (s[k].toNat : Int) - 247 = (m : Int) := by omega
      have hm8 : m ≤ 8 := by omega
      have hbi : ¬ (s[k].toNat : Int) ≤ 247 := by omega
      obtain ⟨T, hTe⟩ : ∃ T, s.extract (k + 1) s.size = T := ⟨_, rfl⟩
      rw [hTe] at hT hTs
      by_cases hm : s.size - (k + 1) < m
      · rw [if_pos hm]
        refine (get_short s k m T w hs' hk hbi hmi hm8 hTe (by omega)).mono ?_
        rintro e w' ⟨rfl, rfl⟩
        exact ⟨by simp, rfl⟩
      · rw [if_neg hm]
        obtain ⟨v, hv⟩ : ∃ v, Plain.val ((s.data.toList.drop (k + 1)).take m) = v := ⟨_, rfl⟩
        have hvl : v < 18446744073709551616 := hv ▸ Plain.val_lt64 (by rw [List.length_take]; omega)
        rw [hv]
        refine (get_long s k m T w hs' hk hbi hmi hm8 hTe (by omega) (by omega) v (Plain.size v) (by rw [hT, hv]) hvl rfl (Plain.size_bounds hvl).2 _ rfl).mono ?_
        rintro e w' ⟨rfl, rfl⟩
        refine ⟨?_, rfl⟩
        split <;> simp
        omega

end Go.Proofs.Ytfnmmnbndfdpiaa

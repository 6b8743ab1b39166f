/-
  Contracts of what looks at texts alone: which one is less, how many bytes two share, what is a word; the program's and the document's.
-/
import Derived.Test.YtmciflpabnfeiaaKit
import Derived.Test.YtmciflpabnfeiaaWMath
namespace Go.Proofs.Ytmciflpabnfeiaa
open Go.RowKit

/-- Is the first text less? -/
def lessT (a b : ByteArray) : Bool := Plain.less a.data.toList b.data.toList
/-- How many bytes two texts share. -/
def sharedT (a b : ByteArray) : Nat := Plain.shared a.data.toList b.data.toList
/-- Is it a word? -/
def wordT (a : ByteArray) : Bool := Plain.isWord a.data.toList

theorem bytesLess_less : ∀ x y : List UInt8, Op.bytesLess x y = Plain.less x y
  | [], [] => by simp [Plain.less, Op.bytesLess]
  | [], _ :: _ => by simp [Plain.less, Op.bytesLess]
  | _ :: _, [] => by simp [Plain.less, Op.bytesLess]
  | a :: x, b :: y => by
    unfold Plain.less Op.bytesLess
    rw [bytesLess_less x y]
    by_cases h : a = b
    · subst h
      simp
    · rw [if_neg h, Bool.eq_iff_iff]
      simp [h, UInt8.lt_iff_toNat_lt]

theorem less_any (a b : ByteArray) (w : World) : Calls Try.prog 18 #[.string a, .string b] w fun e w' => e = .returned (.bool (lessT a b)) ∧ w = w' := by
  go_enter Try.func18, Try.ntmps18
  go_wp2
  go_ret
  refine ⟨?_, rfl⟩
  unfold lessT
  rw [← bytesLess_less, ByteArray.toList_eq, ByteArray.toList_eq]
  rfl

theorem sharedT_le_left (a b : ByteArray) : sharedT a b ≤ a.size := by rw [← ba_length]; exact Plain.shared_le_left _ _
theorem sharedT_le_right (a b : ByteArray) : sharedT a b ≤ b.size := by rw [← ba_length]; exact Plain.shared_le_right _ _

theorem sharedT_step {a b : ByteArray} {k : Nat} (h1 : k < a.size) (h2 : k < b.size) (h3 : k ≤ sharedT a b) (h4 : a[k] = b[k]) : k + 1 ≤ sharedT a b := by
  refine Plain.shared_step _ _ k (by rw [ba_length]; exact h1) (by rw [ba_length]; exact h2) h3 ?_
  rw [byte_getD a k h1, byte_getD b k h2, h4]

theorem sharedT_stop {a b : ByteArray} {k : Nat} (h1 : k < a.size) (h2 : k < b.size) (h3 : k ≤ sharedT a b) (h4 : a[k] ≠ b[k]) : k = sharedT a b := by
  rcases Nat.lt_or_ge k (sharedT a b) with h | h
  · exfalso
    unfold sharedT at h
    have e := Plain.shared_take a.data.toList b.data.toList
    have e1 := congrArg (fun l => l.getD k 0) e
    rw [take_getD _ _ _ h, take_getD _ _ _ h, byte_getD a k h1, byte_getD b k h2] at e1
    exact h4 e1
  · omega

theorem sharedT_end {a b : ByteArray} {k : Nat} (h : a.size ≤ k ∨ b.size ≤ k) (h3 : k ≤ sharedT a b) : k = sharedT a b := by
  have := sharedT_le_left a b
  have := sharedT_le_right a b
  omega

theorem byte_ne {x y : UInt8} (h : x ≠ y) : (((x.toNat : Int)) != (y.toNat : Int)) = true := by
  rw [bne_iff_ne]
  intro e
  exact h (UInt8.toNat_inj.1 (by omega))
theorem byte_nbeq {x y : UInt8} (h : x ≠ y) : (((x.toNat : Int)) == (y.toNat : Int)) = false := by
  rw [beq_eq_false_iff_ne]
  intro e
  exact h (UInt8.toNat_inj.1 (by omega))

set_option maxHeartbeats 400000 in
theorem alike_le (a b : ByteArray) (w : World) (_ha : a.size ≤ 9223372036854775807) (hb : b.size ≤ 9223372036854775807) (hm : a.size ≤ b.size) :
    Calls Try.prog 29 #[.string a, .string b] w fun e w' => e = .returned (.int .i64 (sharedT a b)) ∧ Below w.heap.size w w' := by
  go_enter Try.func29, Try.ntmps29
  go_wp2
  go_loopw [6, 13] (fun _ i wr => ∃ k : Nat, k ≤ a.size ∧ i = .int .i64 k ∧ k ≤ sharedT a b ∧ Below w.heap.size w wr) (fun _ i _ => a.size - (intOf i).toNat)
  case atStart => exact ⟨0, Nat.zero_le _, rfl, Nat.zero_le _, Below.refl _ _⟩
  case round =>
    obtain ⟨k, hk, rfl, hs, hbw⟩ := hrel
    by_cases hlt : k < a.size
    · have ka : k < a.size := by omega
      have kb : k < b.size := by omega
      by_cases he : a[k] = b[k]
      · have HS := Lib.hid (sharedT_step ka kb hs he)
        have he1 : (((a[k]).toNat : Int) != ((b[k]).toNat : Int)) = false := by rw [he]; simp
        clear he
        go_wp2
        go_quiet (fail)
        replace hbw := below_drewN hbw nq
        generalize wr.drewN nq = w2 at hbw ⊢
        go_wp2
        exact ⟨⟨k + 1, by omega, by go_num, HS.out, hbw⟩, by simp [intOf]; omega⟩
      · have HS := Lib.hid (sharedT_stop ka kb hs he)
        have he1 := byte_ne he
        clear he
        go_wp2
        go_quiet (fail)
        replace hbw := below_drewN hbw nq
        generalize wr.drewN nq = w2 at hbw ⊢
        go_wp2
        go_ret
        exact ⟨ret_nat HS.out, hbw⟩
    · obtain rfl : k = a.size := by omega
      have hend := sharedT_end (a := a) (b := b) (k := a.size) (by omega) hs
      have HE := Lib.hid hend
      clear hend
      go_wp2
      go_ret
      exact ⟨ret_nat HE.out, hbw⟩

set_option maxHeartbeats 400000 in
theorem alike_gt (a b : ByteArray) (w : World) (ha : a.size ≤ 9223372036854775807) (_hb : b.size ≤ 9223372036854775807) (hm : b.size < a.size) :
    Calls Try.prog 29 #[.string a, .string b] w fun e w' => e = .returned (.int .i64 (sharedT a b)) ∧ Below w.heap.size w w' := by
  go_enter Try.func29, Try.ntmps29
  go_wp2
  go_loopw [6, 13] (fun _ i wr => ∃ k : Nat, k ≤ b.size ∧ i = .int .i64 k ∧ k ≤ sharedT a b ∧ Below w.heap.size w wr) (fun _ i _ => b.size - (intOf i).toNat)
  case atStart => exact ⟨0, Nat.zero_le _, rfl, Nat.zero_le _, Below.refl _ _⟩
  case round =>
    obtain ⟨k, hk, rfl, hs, hbw⟩ := hrel
    by_cases hlt : k < b.size
    · have ka : k < a.size := by omega
      have kb : k < b.size := by omega
      by_cases he : a[k] = b[k]
      · have HS := Lib.hid (sharedT_step ka kb hs he)
        have he1 : (((a[k]).toNat : Int) != ((b[k]).toNat : Int)) = false := by rw [he]; simp
        clear he
        go_wp2
        go_quiet (fail)
        replace hbw := below_drewN hbw nq
        generalize wr.drewN nq = w2 at hbw ⊢
        go_wp2
        exact ⟨⟨k + 1, by omega, by go_num, HS.out, hbw⟩, by simp [intOf]; omega⟩
      · have HS := Lib.hid (sharedT_stop ka kb hs he)
        have he1 := byte_ne he
        clear he
        go_wp2
        go_quiet (fail)
        replace hbw := below_drewN hbw nq
        generalize wr.drewN nq = w2 at hbw ⊢
        go_wp2
        go_ret
        exact ⟨ret_nat HS.out, hbw⟩
    · obtain rfl : k = b.size := by omega
      have hend := sharedT_end (a := a) (b := b) (k := b.size) (by omega) hs
      have HE := Lib.hid hend
      clear hend
      go_wp2
      go_ret
      exact ⟨ret_nat HE.out, hbw⟩

theorem alike_any (a b : ByteArray) (w : World) (ha : a.size ≤ 9223372036854775807) (hb : b.size ≤ 9223372036854775807) :
    Calls Try.prog 29 #[.string a, .string b] w fun e w' => e = .returned (.int .i64 (sharedT a b)) ∧ Below w.heap.size w w' := by
  rcases Nat.lt_or_ge b.size a.size with h | h
  · exact alike_gt a b w ha hb h
  · exact alike_le a b w ha hb h

set_option maxHeartbeats 400000 in
theorem refShared_any (a b : ByteArray) (w : World) (ha : a.size ≤ 9223372036854775807) (_hb : b.size ≤ 9223372036854775807) :
    Calls Try.prog 20 #[.string a, .string b] w fun e w' => e = .returned (.int .i64 (sharedT a b)) ∧ Below w.heap.size w w' := by
  go_enter Try.func20, Try.ntmps20
  go_wp2
  go_loopw [5] (fun i wr => ∃ k : Nat, k ≤ a.size ∧ k ≤ b.size ∧ i = .int .i64 k ∧ k ≤ sharedT a b ∧ Below w.heap.size w wr) (fun i _ => a.size - (intOf i).toNat)
  case atStart => exact ⟨0, Nat.zero_le _, Nat.zero_le _, rfl, Nat.zero_le _, Below.refl _ _⟩
  case round =>
    obtain ⟨k, hka, hkb, rfl, hs, hbw⟩ := hrel
    by_cases hla : k < a.size
    · have d1 : decide ((k : Int) < (a.size : Int)) = true := decide_eq_true (by omega)
      by_cases hlb : k < b.size
      · have d2 : decide ((k : Int) < (b.size : Int)) = true := decide_eq_true (by omega)
        by_cases he : a[k] = b[k]
        · have HS := Lib.hid (sharedT_step hla hlb hs he)
          have he1 : (((a[k]).toNat : Int) == ((b[k]).toNat : Int)) = true := by rw [he]; simp
          clear he
          go_wp2
          go_quiet (fail)
          replace hbw := below_drewN hbw nq
          generalize wr.drewN nq = w2 at hbw ⊢
          go_wp2
          exact ⟨⟨k + 1, by omega, by omega, by go_num, HS.out, hbw⟩, by simp [intOf]; omega⟩
        · have HS := Lib.hid (sharedT_stop hla hlb hs he)
          have he1 := byte_nbeq he
          clear he
          go_wp2
          go_quiet (fail)
          replace hbw := below_drewN hbw nq
          generalize wr.drewN nq = w2 at hbw ⊢
          go_wp2
          go_ret
          exact ⟨ret_nat HS.out, hbw⟩
      · have d2 : decide ((k : Int) < (b.size : Int)) = false := decide_eq_false (by omega)
        have HS := Lib.hid (sharedT_end (a := a) (b := b) (k := k) (by omega) hs)
        go_wp2
        go_quiet (fail)
        replace hbw := below_drewN hbw nq
        generalize wr.drewN nq = w2 at hbw ⊢
        go_wp2
        go_ret
        exact ⟨ret_nat HS.out, hbw⟩
    · have d1 : decide ((k : Int) < (a.size : Int)) = false := decide_eq_false (by omega)
      have HS := Lib.hid (sharedT_end (a := a) (b := b) (k := k) (by omega) hs)
      go_wp2
      go_quiet (fail)
      replace hbw := below_drewN hbw nq
      generalize wr.drewN nq = w2 at hbw ⊢
      go_wp2
      go_ret
      exact ⟨ret_nat HS.out, hbw⟩

theorem lessT_eq (a b : ByteArray) : lessT a b = if sharedT a b = a.size then decide (sharedT a b < b.size) else decide (sharedT a b < b.size) && decide ((a.data.toList.getD (sharedT a b) 0).toNat < (b.data.toList.getD (sharedT a b) 0).toNat) := by
  unfold lessT sharedT
  rw [Plain.less_eq, ba_length, ba_length]

set_option maxHeartbeats 400000 in
theorem refLess_any (a b : ByteArray) (w : World) (ha : a.size ≤ 9223372036854775807) (hb : b.size ≤ 9223372036854775807) :
    Calls Try.prog 19 #[.string a, .string b] w fun e w' => e = .returned (.bool (lessT a b)) ∧ Below w.heap.size w w' := by
  have q20 := refShared_any a b w ha hb
  have hl := lessT_eq a b
  have h1 := sharedT_le_left a b
  have h2 := sharedT_le_right a b
  obtain ⟨n, hn⟩ : ∃ n, sharedT a b = n := ⟨_, rfl⟩
  obtain ⟨r, hr⟩ : ∃ r, lessT a b = r := ⟨_, rfl⟩
  rw [hn] at q20 hl h1 h2
  rw [hr] at hl ⊢
  clear hn hr
  by_cases he : n = a.size
  · have g1 : ((n : Int) == (a.size : Int)) = true := by rw [beq_iff_eq]; omega
    rw [if_pos he] at hl
    by_cases hb' : n < b.size
    · have HL := Lib.hid (hl.trans (decide_eq_true hb'))
      have d1 : decide ((n : Int) < (b.size : Int)) = true := decide_eq_true (by omega)
      clear hl he
      go_enter Try.func19, Try.ntmps19
      go_wp2_with (go_at_call 20; go_must (refine q20.mono ?_); rintro e w1 ⟨rfl, hb1⟩)
      go_ret
      exact ⟨by rw [HL.out]; rfl, hb1⟩
    · have HL := Lib.hid (hl.trans (decide_eq_false hb'))
      have d1 : decide ((n : Int) < (b.size : Int)) = false := decide_eq_false (by omega)
      clear hl he
      go_enter Try.func19, Try.ntmps19
      go_wp2_with (go_at_call 20; go_must (refine q20.mono ?_); rintro e w1 ⟨rfl, hb1⟩)
      go_ret
      exact ⟨by rw [HL.out]; rfl, hb1⟩
  · have g1 : ((n : Int) == (a.size : Int)) = false := by rw [beq_eq_false_iff_ne]; omega
    have hna : n < a.size := by omega
    rw [if_neg he] at hl
    by_cases hb' : n < b.size
    · rw [decide_eq_true hb', Bool.true_and, byte_getD a n hna, byte_getD b n hb'] at hl
      have d1 : decide ((n : Int) < (b.size : Int)) = true := decide_eq_true (by omega)
      by_cases hc : a[n].toNat < b[n].toNat
      · have HL := Lib.hid (hl.trans (decide_eq_true hc))
        have d2 : decide ((a[n].toNat : Int) < (b[n].toNat : Int)) = true := decide_eq_true (by omega)
        clear hl he
        go_enter Try.func19, Try.ntmps19
        go_wp2_with (go_at_call 20; go_must (refine q20.mono ?_); rintro e w1 ⟨rfl, hb1⟩)
        go_quiet (fail)
        replace hb1 := below_drewN hb1 nq
        generalize w1.drewN nq = w2 at hb1 ⊢
        go_wp2
        go_ret
        exact ⟨by rw [HL.out]; rfl, hb1⟩
      · have HL := Lib.hid (hl.trans (decide_eq_false hc))
        have d2 : decide ((a[n].toNat : Int) < (b[n].toNat : Int)) = false := decide_eq_false (by omega)
        clear hl he
        go_enter Try.func19, Try.ntmps19
        go_wp2_with (go_at_call 20; go_must (refine q20.mono ?_); rintro e w1 ⟨rfl, hb1⟩)
        go_quiet (fail)
        replace hb1 := below_drewN hb1 nq
        generalize w1.drewN nq = w2 at hb1 ⊢
        go_wp2
        go_ret
        exact ⟨by rw [HL.out]; rfl, hb1⟩
    · rw [decide_eq_false hb', Bool.false_and] at hl
      have HL := Lib.hid hl
      have d1 : decide ((n : Int) < (b.size : Int)) = false := decide_eq_false (by omega)
      clear hl he
      go_enter Try.func19, Try.ntmps19
      go_wp2_with (go_at_call 20; go_must (refine q20.mono ?_); rintro e w1 ⟨rfl, hb1⟩)
      go_quiet (fail)
      replace hb1 := below_drewN hb1 nq
      generalize w1.drewN nq = w2 at hb1 ⊢
      go_wp2
      go_ret
      exact ⟨by rw [HL.out]; rfl, hb1⟩

/-! ### Words -/

theorem wordT_true {a : ByteArray} (h : wordT a = true) : 1 ≤ a.size ∧ a.size ≤ 255 := by
  unfold wordT Plain.isWord at h
  have := of_decide_eq_true h
  rw [ba_length] at this
  exact this
theorem wordT_false {a : ByteArray} (h : wordT a = false) : a.size = 0 ∨ 255 < a.size := by
  unfold wordT Plain.isWord at h
  have := of_decide_eq_false h
  rw [ba_length] at this
  omega

theorem mayBe_any (a : ByteArray) (w : World) (ha : a.size ≤ 9223372036854775807) : Calls Try.prog 26 #[.string a] w fun e w' => e = .returned (.bool (wordT a)) ∧ w = w' := by
  obtain ⟨r, hr⟩ : ∃ r, wordT a = r := ⟨_, rfl⟩
  rw [hr]
  cases r
  · rcases wordT_false hr with h | h
    · have d1 : ¬ 1 ≤ (a.size : Int) := by omega
      clear hr h
      go_enter Try.func26, Try.ntmps26
      go_wp2
      go_ret
      exact ⟨rfl, rfl⟩
    · have d1 : 1 ≤ (a.size : Int) := by omega
      have d2 : ¬ (a.size : Int) ≤ 255 := by omega
      clear hr h
      go_enter Try.func26, Try.ntmps26
      go_wp2
      go_ret
      exact ⟨rfl, rfl⟩
  · obtain ⟨h1, h2⟩ := wordT_true hr
    have d2 : decide ((a.size : Int) ≤ 255) = true := decide_eq_true (by omega)
    clear hr
    go_enter Try.func26, Try.ntmps26
    go_wp2
    go_ret
    exact ⟨rfl, rfl⟩

theorem refIs_any (a : ByteArray) (w : World) (ha : a.size ≤ 9223372036854775807) : Calls Try.prog 25 #[.string a] w fun e w' => e = .returned (.bool (wordT a)) ∧ w = w' := by
  obtain ⟨r, hr⟩ : ∃ r, wordT a = r := ⟨_, rfl⟩
  rw [hr]
  cases r
  · rcases wordT_false hr with h | h
    · have d1 : ¬ 1 ≤ (a.size : Int) := by omega
      clear hr h
      go_enter Try.func25, Try.ntmps25
      go_wp2
      go_ret
      exact ⟨rfl, rfl⟩
    · have d1 : 1 ≤ (a.size : Int) := by omega
      have d2 : ¬ (a.size : Int) ≤ 255 := by omega
      clear hr h
      go_enter Try.func25, Try.ntmps25
      go_wp2
      go_ret
      exact ⟨rfl, rfl⟩
  · obtain ⟨h1, h2⟩ := wordT_true hr
    have d2 : decide ((a.size : Int) ≤ 255) = true := decide_eq_true (by omega)
    clear hr
    go_enter Try.func25, Try.ntmps25
    go_wp2
    go_ret
    exact ⟨rfl, rfl⟩

theorem refCheck_any (a : ByteArray) (w : World) (ha : a.size ≤ 9223372036854775807) : Calls Try.prog 11 #[.string a] w fun e w' => e = .returned (.int .i64 (if wordT a = true then 0 else 7)) ∧ w = w' := by
  have q25 := fun w0 => refIs_any a w0 ha
  obtain ⟨r, hr⟩ : ∃ r, wordT a = r := ⟨_, rfl⟩
  rw [hr] at q25 ⊢
  clear hr
  cases r
  all_goals
    go_enter Try.func11, Try.ntmps11
    go_wp2_with (go_at_call 25; go_must (refine (q25 _).mono ?_); rintro e w1 ⟨rfl, rfl⟩)
    go_ret
    exact ⟨rfl, rfl⟩
end Go.Proofs.Ytmciflpabnfeiaa

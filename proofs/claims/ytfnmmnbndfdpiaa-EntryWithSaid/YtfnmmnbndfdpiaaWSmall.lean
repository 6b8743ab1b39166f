/-
  Contracts of what looks at texts alone: which one is less, what is a word; the program's and the document's.
-/
import Derived.Test.YtfnmmnbndfdpiaaKit
import Derived.Test.YtfnmmnbndfdpiaaWMath
namespace Go.Proofs.Ytfnmmnbndfdpiaa
open Go.RowKit

/-- Is the first text less? -/
def lessT (a b : ByteArray) : Bool := Plain.less a.data.toList b.data.toList
/-- How many bytes two texts share. -/
def sharedT (a b : ByteArray) : Nat := Plain.shared a.data.toList b.data.toList
/-- Is it a word? -/
def wordT (a : ByteArray) : Bool := Plain.isWord a.data.toList

theorem bytesLess_less : ∀ x y : List UInt8, Op.bytesLess x y = Plain.less x y
  | [], [] => by simp [Plain.less, Op.bytesLess]
  | [], _ :: _ => by simp [Plain.less, Op.bytesLess]
  | _ :: _, [] => by simp [Plain.less, Op.bytesLess]
  | a :: x, b :: y => by
    unfold Plain.less Op.bytesLess
    rw [bytesLess_less x y]
    by_cases h : a = b
    · subst h
      simp
    · rw [if_neg h, Bool.eq_iff_iff]
      simp [h, UInt8.lt_iff_toNat_lt]

theorem less_any (a b : ByteArray) (w : World) : Calls Try.prog 38 #[.string a, .string b] w fun e w' => e = .returned (.bool (lessT a b)) ∧ w = w' := by
  go_enter Try.func38, Try.ntmps38
  go_wp2
  go_ret
  refine ⟨?_, rfl⟩
  unfold lessT
  rw [← bytesLess_less, ByteArray.toList_eq, ByteArray.toList_eq]
  rfl

theorem sharedT_le_left (a b : ByteArray) : sharedT a b ≤ a.size := by rw [← ba_length]; exact Plain.shared_le_left _ _
theorem sharedT_le_right (a b : ByteArray) : sharedT a b ≤ b.size := by rw [← ba_length]; exact Plain.shared_le_right _ _

theorem sharedT_step {a b : ByteArray} {k : Nat} (h1 : k < a.size) (h2 : k < b.size) (h3 : k ≤ sharedT a b) (h4 : a[k] = b[k]) : k + 1 ≤ sharedT a b := by
  refine Plain.shared_step _ _ k (by rw [ba_length]; exact h1) (by rw [ba_length]; exact h2) h3 ?_
  rw [byte_getD a k h1, byte_getD b k h2, h4]

theorem sharedT_stop {a b : ByteArray} {k : Nat} (h1 : k < a.size) (h2 : k < b.size) (h3 : k ≤ sharedT a b) (h4 : a[k] ≠ b[k]) : k = sharedT a b := by
  rcases Nat.lt_or_ge k (sharedT a b) with h | h
  · exfalso
    unfold sharedT at h
    have e := Plain.shared_take a.data.toList b.data.toList
    have e1 := congrArg (fun l => l.getD k 0) e
    rw [take_getD _ _ _ h, take_getD _ _ _ h, byte_getD a k h1, byte_getD b k h2] at e1
    exact h4 e1
  · omega

theorem sharedT_end {a b : ByteArray} {k : Nat} (h : a.size ≤ k ∨ b.size ≤ k) (h3 : k ≤ sharedT a b) : k = sharedT a b := by
  have := sharedT_le_left a b
  have := sharedT_le_right a b
  omega

theorem byte_ne {x y : UInt8} (h : x ≠ y) : (((x.toNat : Int)) != (y.toNat : Int)) = true := by
  rw [bne_iff_ne]
  intro e
  exact h (UInt8.toNat_inj.1 (by omega))
theorem byte_nbeq {x y : UInt8} (h : x ≠ y) : (((x.toNat : Int)) == (y.toNat : Int)) = false := by
  rw [beq_eq_false_iff_ne]
  intro e
  exact h (UInt8.toNat_inj.1 (by omega))

set_option maxHeartbeats 400000 in
theorem lessT_eq (a b : ByteArray) : lessT a b = if sharedT a b = a.size then decide (sharedT a b < b.size) else decide (sharedT a b < b.size) && decide ((a.data.toList.getD (sharedT a b) 0).toNat < (b.data.toList.getD (sharedT a b) 0).toNat) := by
  unfold lessT sharedT
  rw [Plain.less_eq, ba_length, ba_length]

/-! ### Words -/

theorem wordT_true {a : ByteArray} (h : wordT a = true) : 1 ≤ a.size ∧ a.size ≤ 255 := by
  unfold wordT Plain.isWord at h
  have := of_decide_eq_true h
  rw [ba_length] at this
  exact this
theorem wordT_false {a : ByteArray} (h : wordT a = false) : a.size = 0 ∨ 255 < a.size := by
  unfold wordT Plain.isWord at h
  have := of_decide_eq_false h
  rw [ba_length] at this
  omega

theorem mayBe_any (a : ByteArray) (w : World) (ha : a.size ≤ 9223372036854775807) : Calls Try.prog 51 #[.string a] w fun e w' => e = .returned (.bool (wordT a)) ∧ w = w' := by
  obtain ⟨r, hr⟩ : ∃ r, wordT a = r := ⟨_, rfl⟩
  rw [hr]
  cases r
  · rcases wordT_false hr with h | h
    · have d1 : ¬ 1 ≤ (a.size : Int) := by omega
      clear hr h
      go_enter Try.func51, Try.ntmps51
      go_wp2
      go_ret
      exact ⟨rfl, rfl⟩
    · have d1 : 1 ≤ (a.size : Int) := by omega
      have d2 : ¬ (a.size : Int) ≤ 255 := by omega
      clear hr h
      go_enter Try.func51, Try.ntmps51
      go_wp2
      go_ret
      exact ⟨rfl, rfl⟩
  · obtain ⟨h1, h2⟩ := wordT_true hr
    have d2 : decide ((a.size : Int) ≤ 255) = true := decide_eq_true (by omega)
    clear hr
    go_enter Try.func51, Try.ntmps51
    go_wp2
    go_ret
    exact ⟨rfl, rfl⟩

theorem refIs_any (a : ByteArray) (w : World) (ha : a.size ≤ 9223372036854775807) : Calls Try.prog 56 #[.string a] w fun e w' => e = .returned (.bool (wordT a)) ∧ w = w' := by
  obtain ⟨r, hr⟩ : ∃ r, wordT a = r := ⟨_, rfl⟩
  rw [hr]
  cases r
  · rcases wordT_false hr with h | h
    · have d1 : ¬ 1 ≤ (a.size : Int) := by omega
      clear hr h
      go_enter Try.func56, Try.ntmps56
      go_wp2
      go_ret
      exact ⟨rfl, rfl⟩
    · have d1 : 1 ≤ (a.size : Int) := by omega
      have d2 : ¬ (a.size : Int) ≤ 255 := by omega
      clear hr h
      go_enter Try.func56, Try.ntmps56
      go_wp2
      go_ret
      exact ⟨rfl, rfl⟩
  · obtain ⟨h1, h2⟩ := wordT_true hr
    have d2 : decide ((a.size : Int) ≤ 255) = true := decide_eq_true (by omega)
    clear hr
    go_enter Try.func56, Try.ntmps56
    go_wp2
    go_ret
    exact ⟨rfl, rfl⟩

theorem refCheck_any (a : ByteArray) (w : World) (ha : a.size ≤ 9223372036854775807) : Calls Try.prog 33 #[.string a] w fun e w' => e = .returned (.int .i64 (if wordT a = true then 0 else 7)) ∧ w = w' := by
  have q25 := fun w0 => refIs_any a w0 ha
  obtain ⟨r, hr⟩ : ∃ r, wordT a = r := ⟨_, rfl⟩
  rw [hr] at q25 ⊢
  clear hr
  cases r
  all_goals
    go_enter Try.func33, Try.ntmps33
    go_wp2_with (go_at_call 56; go_must (refine (q25 _).mono ?_); rintro e w1 ⟨rfl, rfl⟩)
    go_ret
    exact ⟨rfl, rfl⟩
end Go.Proofs.Ytfnmmnbndfdpiaa

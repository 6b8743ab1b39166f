/-
  Contracts of what goes through a slice of texts: the program's all and Check.
-/
import Derived.Test.YtfnmmnbndfdpiaaWLMath
namespace Go.Proofs.Ytfnmmnbndfdpiaa
open Go.RowKit

set_option maxHeartbeats 400000 in
theorem all_any (l : List ByteArray) (v : Value) (w : World) (hv : Strs w v l) (hl : Short l) (hlen : l.length ≤ 9223372036854775807) :
    Calls Try.prog 52 #[.func (.func 51) #[] #[], v] w fun e w' => e = .returned (.bool (l.all wordT)) ∧ w = w' := by
  obtain ⟨ad, c, rfl, hc⟩ := strs_cell hv
  go_enter Try.func52, Try.ntmps52
  go_wp2
  go_loop [6, 9] (fun _ i => ∃ k : Nat, k ≤ l.length ∧ i = .int .i64 k ∧ (∀ j, j < k → wordT (at' l j) = true)) (fun _ i => l.length - (intOf i).toNat)
  case atStart => exact ⟨0, Nat.zero_le _, rfl, fun j hj => by omega⟩
  case round =>
    obtain ⟨k, hk, rfl, hs⟩ := hrel
    have HS := Lib.hid hs
    clear hs
    by_cases hlt : k < l.length
    · obtain ⟨b, o, rfl, hcell⟩ := hc k hlt
      have q26 := mayBe_any (at' l k) w (short_at hl k)
      obtain ⟨x, hx⟩ : ∃ x, x = at' l k := ⟨_, rfl⟩
      rw [← hx] at hcell q26
      obtain ⟨r, hr⟩ : ∃ r, wordT x = r := ⟨_, rfl⟩
      rw [hr] at q26
      rw [hx] at hr
      have HR := Lib.hid hr
      clear hr hx hc
      cases r
      · go_wp2_with (go_at_call 51; go_must (refine q26.mono ?_); rintro e w1 ⟨rfl, rfl⟩)
        go_ret
        refine ⟨?_, rfl⟩
        rw [show l.all wordT = false by
          rw [List.all_eq_false]
          exact ⟨_, at_mem hlt, by rw [HR.out]; simp⟩]
        rfl
      · go_wp2_with (go_at_call 51; go_must (refine q26.mono ?_); rintro e w1 ⟨rfl, rfl⟩)
        exact ⟨⟨k + 1, by omega, by go_num, fun j hj => by
          rcases Nat.lt_or_ge j k with h | h
          · exact HS.out j h
          · rw [show j = k by omega]; exact HR.out⟩, by simp [intOf]; omega⟩
    · have HE : Hid (l.all wordT = true) := Lib.hid (by
        rw [List.all_eq_true]
        intro s hsm
        obtain ⟨j, hj, rfl⟩ := List.getElem_of_mem hsm
        have := HS.out j (by omega)
        rwa [at_lt hj] at this)
      clear hc
      go_wp2
      go_ret
      exact ⟨by rw [HE.out]; rfl, rfl⟩
/-- What Check answers. -/
def checkT (l : List ByteArray) : Nat := if l.all wordT = true then 0 else 7

theorem check_any (l : List ByteArray) (v : Value) (w : World) (hv : Strs w v l) (hl : Short l) (hlen : l.length ≤ 9223372036854775807) :
    Calls Try.prog 31 #[v] w fun e w' => e = .returned (.int .i64 (checkT l)) ∧ w = w' := by
  have q27 := all_any l v w hv hl hlen
  unfold checkT
  obtain ⟨r, hr⟩ : ∃ r, l.all wordT = r := ⟨_, rfl⟩
  rw [hr] at q27 ⊢
  clear hr
  cases r
  all_goals
    go_enter Try.func31, Try.ntmps31
    go_wp2_with (go_at_call 52; go_must (refine q27.mono ?_); rintro e w1 ⟨rfl, rfl⟩)
    go_ret
    exact ⟨rfl, rfl⟩

end Go.Proofs.Ytfnmmnbndfdpiaa

/-
  name.Make.
-/
import Derived.Test.YtioilknfjccfeaaDoorNBase
import Derived.Deep.QuietTactic
import Derived.Lib.QuietBelow
namespace Go.Proofs.YtioilknfjccfeaaDoor
open Go.RowKit Go.Sort

theorem str_join (a b : ByteArray) : Value.string (a ++ b) = .string (a ++ b) := rfl

set_option maxRecDepth 100000 in
theorem make_any (k n : Int) (w : World) (hT : Tabs w) : Calls Tryd.prog 11 #[.int .i64 k, .int .i64 n] w fun e w' => e = .returned (.string (Plain.makeT k n)) ∧ Below w.heap.size w w' := by
  by_cases hk : 0 ≤ k ∧ k ≤ 4
  · have hlt : ¬ k < 0 := by omega
    have hgt : ¬ 4 < k := by omega
    have H := Lib.hid (numbered_any k w)
    obtain ⟨j, rfl⟩ : ∃ j : Nat, k = (j : Int) := ⟨k.toNat, by omega⟩
    have hj5 : j < 5 := by omega
    have hc : w.cell? ⟨0, j, none⟩ = some (.string (Plain.headT j)) := hT.texts j hj5
    by_cases h34 : j = 3 ∨ j = 4
    · have hn : numd j = true := by unfold numd; rw [decide_eq_true_eq]; omega
      rw [hn] at H
      clear hn
      by_cases hf : 1 ≤ n ∧ n ≤ 1000000000
      · obtain ⟨m, rfl⟩ : ∃ m : Nat, n = (m : Int) := ⟨n.toNat, by omega⟩
        have hm : Plain.makeT j (m : Int) = Plain.headT j ++ Plain.decs m := by rw [Plain.make_head h34, (Plain.fitN_iff _).2 hf, if_pos rfl, Int.toNat_natCast]
        rw [hm]
        have q23 := quiet_call (w := w) fun w1 hb => itoa_any m (by omega) w1 (hT.below hb)
        have hcat : (Plain.headT j).size + (Plain.decs m).size ≤ 9223372036854775807 := by
          have h1 := Plain.make_size_any (j : Int) (m : Int)
          rw [hm, ba_size_append] at h1
          omega
        have hwj : IntKind.i64.wrap (j : Int) = (j : Int) := IntWalk.i64_in _ (by omega)
        have hj0 : (j : Int) < 5 := by omega
        have hn1 : ¬ (m : Int) < 1 := by omega
        have hn2 : ¬ (1000000000 : Int) < (m : Int) := by omega
        have hcg := fun d os => cell_regrown hc d os
        generalize Plain.headT j = A at hcg hcat ⊢
        generalize Plain.decs m = B at q23 hcat ⊢
        clear hm hf h34 hk hT hc
        go_enter Tryd.func11, Tryd.ntmps11
        go_wp2_with (first
          | (go_at_call 22; refine H.out.mono ?_; rintro e w' ⟨rfl, rfl⟩)
          | fail)
        refine wp_region_quiet_below (by kernel_rfl) (by kernel_rfl) ?_
        repeat (go_big_quiet_step (first | (go_at_call 23; with_reducible exact q23 _ _)))
        refine wpQuiet_nil ?_
        intro _ hw'
        obtain ⟨⟨dq, osq⟩, hw''⟩ := hw'
        subst hw''
        go_wp2
        go_ret
        exact ⟨rfl, below_regrown _ _ _⟩
      · have hm : Plain.makeT j n = Plain.nil := by rw [Plain.make_head h34, if_neg (by rw [Plain.fitN_iff]; exact hf)]
        rw [hm]
        by_cases h1 : n < 1
        · clear hm hf h34 hk
          go_enter Tryd.func11, Tryd.ntmps11
          go_wp2_with (go_at_call 22; refine H.out.mono ?_; rintro e w' ⟨rfl, rfl⟩)
          go_ret
          exact ⟨rfl, Below.refl _ _⟩
        · have h2 : (1000000000 : Int) < n := by omega
          clear hm hf h34 hk
          go_enter Tryd.func11, Tryd.ntmps11
          go_wp2_with (go_at_call 22; refine H.out.mono ?_; rintro e w' ⟨rfl, rfl⟩)
          go_ret
          exact ⟨rfl, Below.refl _ _⟩
    · have hn : numd j = false := by unfold numd; rw [decide_eq_false_iff_not]; omega
      rw [hn] at H
      have hm : Plain.makeT j n = Plain.headT j := by
        rcases (show j = 0 ∨ j = 1 ∨ j = 2 by omega) with rfl | rfl | rfl <;> rfl
      rw [hm]
      clear hn hm h34 hk
      go_enter Tryd.func11, Tryd.ntmps11
      go_wp2_with (go_at_call 22; refine H.out.mono ?_; rintro e w' ⟨rfl, rfl⟩)
      go_ret
      exact ⟨rfl, Below.refl _ _⟩
  · have hm : Plain.makeT k n = Plain.nil := by
      unfold Plain.makeT
      rw [if_neg (by omega), if_neg (by omega), if_neg (by omega), if_neg (by omega)]
    rw [hm]
    by_cases h0 : k < 0
    · clear hm hk
      go_enter Tryd.func11, Tryd.ntmps11
      go_wp2
      go_ret
      exact ⟨rfl, Below.refl _ _⟩
    · have h4 : 4 < k := by omega
      clear hm hk
      go_enter Tryd.func11, Tryd.ntmps11
      go_wp2
      go_ret
      exact ⟨rfl, Below.refl _ _⟩
end Go.Proofs.YtioilknfjccfeaaDoor

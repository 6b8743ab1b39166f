/-
  Contracts of what goes through a slice of texts: the program's all, Check, place, Near; the document's CheckAll, Rising, AllShared, Near.
-/
import Derived.Test.YtmciflpabnfeiaaWLMath
namespace Go.Proofs.Ytmciflpabnfeiaa
open Go.RowKit

set_option maxHeartbeats 400000 in
theorem all_any (l : List ByteArray) (v : Value) (w : World) (hv : Strs w v l) (hl : Short l) (hlen : l.length ≤ 9223372036854775807) :
    Calls Try.prog 27 #[.func (.func 26) #[] #[], v] w fun e w' => e = .returned (.bool (l.all wordT)) ∧ w = w' := by
  obtain ⟨ad, c, rfl, hc⟩ := strs_cell hv
  go_enter Try.func27, Try.ntmps27
  go_wp2
  go_loop [6, 9] (fun _ i => ∃ k : Nat, k ≤ l.length ∧ i = .int .i64 k ∧ (∀ j, j < k → wordT (at' l j) = true)) (fun _ i => l.length - (intOf i).toNat)
  case atStart => exact ⟨0, Nat.zero_le _, rfl, fun j hj => by omega⟩
  case round =>
    obtain ⟨k, hk, rfl, hs⟩ := hrel
    have HS := Lib.hid hs
    clear hs
    by_cases hlt : k < l.length
    · obtain ⟨b, o, rfl, hcell⟩ := hc k hlt
      have q26 := mayBe_any (at' l k) w (short_at hl k)
      obtain ⟨x, hx⟩ : ∃ x, x = at' l k := ⟨_, rfl⟩
      rw [← hx] at hcell q26
      obtain ⟨r, hr⟩ : ∃ r, wordT x = r := ⟨_, rfl⟩
      rw [hr] at q26
      rw [hx] at hr
      have HR := Lib.hid hr
      clear hr hx hc
      cases r
      · go_wp2_with (go_at_call 26; go_must (refine q26.mono ?_); rintro e w1 ⟨rfl, rfl⟩)
        go_ret
        refine ⟨?_, rfl⟩
        rw [show l.all wordT = false by
          rw [List.all_eq_false]
          exact ⟨_, at_mem hlt, by rw [HR.out]; simp⟩]
        rfl
      · go_wp2_with (go_at_call 26; go_must (refine q26.mono ?_); rintro e w1 ⟨rfl, rfl⟩)
        exact ⟨⟨k + 1, by omega, by go_num, fun j hj => by
          rcases Nat.lt_or_ge j k with h | h
          · exact HS.out j h
          · rw [show j = k by omega]; exact HR.out⟩, by simp [intOf]; omega⟩
    · have HE : Hid (l.all wordT = true) := Lib.hid (by
        rw [List.all_eq_true]
        intro s hsm
        obtain ⟨j, hj, rfl⟩ := List.getElem_of_mem hsm
        have := HS.out j (by omega)
        rwa [at_lt hj] at this)
      clear hc
      go_wp2
      go_ret
      exact ⟨by rw [HE.out]; rfl, rfl⟩
/-- What Check answers. -/
def checkT (l : List ByteArray) : Nat := if l.all wordT = true then 0 else 7

theorem check_any (l : List ByteArray) (v : Value) (w : World) (hv : Strs w v l) (hl : Short l) (hlen : l.length ≤ 9223372036854775807) :
    Calls Try.prog 9 #[v] w fun e w' => e = .returned (.int .i64 (checkT l)) ∧ w = w' := by
  have q27 := all_any l v w hv hl hlen
  unfold checkT
  obtain ⟨r, hr⟩ : ∃ r, l.all wordT = r := ⟨_, rfl⟩
  rw [hr] at q27 ⊢
  clear hr
  cases r
  all_goals
    go_enter Try.func9, Try.ntmps9
    go_wp2_with (go_at_call 27; go_must (refine q27.mono ?_); rintro e w1 ⟨rfl, rfl⟩)
    go_ret
    exact ⟨rfl, rfl⟩

set_option maxHeartbeats 400000 in
theorem refCheckAll_any (l : List ByteArray) (v : Value) (w : World) (hv : Strs w v l) (hl : Short l) (hlen : l.length ≤ 9223372036854775807) :
    Calls Try.prog 10 #[v] w fun e w' => e = .returned (.int .i64 (checkT l)) ∧ w = w' := by
  obtain ⟨ad, c, rfl, hc⟩ := strs_cell hv
  go_enter Try.func10, Try.ntmps10
  go_wp2
  go_loop [3] (fun i => ∃ k : Nat, k ≤ l.length ∧ i = .int .i64 k ∧ (∀ j, j < k → wordT (at' l j) = true)) (fun i => l.length - (intOf i).toNat)
  case atStart => exact ⟨0, Nat.zero_le _, rfl, fun j hj => by omega⟩
  case round =>
    obtain ⟨k, hk, rfl, hs⟩ := hrel
    have HS := Lib.hid hs
    clear hs
    by_cases hlt : k < l.length
    · obtain ⟨b, o, rfl, hcell⟩ := hc k hlt
      have q25 := refIs_any (at' l k) w (short_at hl k)
      obtain ⟨x, hx⟩ : ∃ x, x = at' l k := ⟨_, rfl⟩
      rw [← hx] at hcell q25
      obtain ⟨r, hr⟩ : ∃ r, wordT x = r := ⟨_, rfl⟩
      rw [hr] at q25
      rw [hx] at hr
      have HR := Lib.hid hr
      clear hr hx hc
      cases r
      · go_wp2_with (go_at_call 25; go_must (refine q25.mono ?_); rintro e w1 ⟨rfl, rfl⟩)
        go_ret
        refine ⟨?_, rfl⟩
        unfold checkT
        rw [show l.all wordT = false by
          rw [List.all_eq_false]
          exact ⟨_, at_mem hlt, by rw [HR.out]; simp⟩]
        rfl
      · go_wp2_with (go_at_call 25; go_must (refine q25.mono ?_); rintro e w1 ⟨rfl, rfl⟩)
        exact ⟨⟨k + 1, by omega, by go_num, fun j hj => by
          rcases Nat.lt_or_ge j k with h | h
          · exact HS.out j h
          · rw [show j = k by omega]; exact HR.out⟩, by simp [intOf]; omega⟩
    · have HE : Hid (l.all wordT = true) := Lib.hid (by
        rw [List.all_eq_true]
        intro s hsm
        obtain ⟨j, hj, rfl⟩ := List.getElem_of_mem hsm
        have := HS.out j (by omega)
        rwa [at_lt hj] at this)
      clear hc
      go_wp2
      go_ret
      exact ⟨by unfold checkT; rw [HE.out]; rfl, rfl⟩

set_option maxHeartbeats 400000 in
theorem refRising_any (l : List ByteArray) (v : Value) (w : World) (hv : Strs w v l) (hl : Short l) (hlen : l.length ≤ 9223372036854775806) :
    Calls Try.prog 13 #[v] w fun e w' => e = .returned (.bool (risingT l)) ∧ Below w.heap.size w w' := by
  obtain ⟨ad, c, rfl, hc⟩ := strs_cell hv
  go_enter Try.func13, Try.ntmps13
  go_wp2
  go_loopw [3] (fun i wr => ∃ k : Nat, 1 ≤ k ∧ k ≤ l.length + 1 ∧ i = .int .i64 k ∧ (∀ j, j + 1 < k → lessT (at' l j) (at' l (j + 1)) = true) ∧ Below w.heap.size w wr) (fun i _ => l.length - (intOf i).toNat)
  case atStart => exact ⟨1, Nat.le_refl _, by omega, rfl, fun j hj => by omega, Below.refl _ _⟩
  case round =>
    obtain ⟨k, hk1, hk, rfl, hs, hb⟩ := hrel
    have HS := Lib.hid hs
    clear hs
    by_cases hlt : k < l.length
    · obtain ⟨b, o, rfl, hcell⟩ := hc k hlt
      obtain ⟨b', o', he', hcell0⟩ := hc (k - 1) (by omega)
      cases he'
      obtain ⟨j, hj⟩ : ∃ j, k - 1 = j := ⟨_, rfl⟩
      rw [hj] at hcell0
      obtain ⟨x, hx⟩ : ∃ x, x = at' l j := ⟨_, rfl⟩
      obtain ⟨y, hy⟩ : ∃ y, y = at' l k := ⟨_, rfl⟩
      rw [← hx] at hcell0
      rw [← hy] at hcell
      have HK := Lib.hid (show k = j + 1 by omega)
      have e0 : (k : Int) - 1 = (j : Int) := by omega
      have hcg := fun d os => cell_regrown ((hb.cell (p := ⟨b, o + k, none⟩) (block_lt_of_cell hcell)).trans hcell) d os
      have hcg0 := fun d os => cell_regrown ((hb.cell (p := ⟨b, o + j, none⟩) (block_lt_of_cell hcell0)).trans hcell0) d os
      have q19 := quiet_call (w := wr) fun w1 _ => refLess_any x y w1 (by rw [hx]; exact short_at hl _) (by rw [hy]; exact short_at hl _)
      obtain ⟨r, hr⟩ : ∃ r, lessT x y = r := ⟨_, rfl⟩
      rw [hr] at q19
      rw [hx, hy] at hr
      have HR := Lib.hid hr
      have hjl : j < l.length := by omega
      have hew : IntKind.i64.wrap (j : Int) = (j : Int) := IntWalk.i64_in _ (by omega)
      clear hr hx hy hc hcell hcell0 hj
      cases r
      · go_wp2
        refine wp_region_quiet_below (by kernel_rfl) (by kernel_rfl) ?_
        repeat (quiet_step (first | (go_at_call 19; with_reducible exact q19 _ _)))
        refine wpQuiet_nil ?_
        intro _ hw'
        obtain ⟨⟨dq, osq⟩, hw''⟩ := hw'
        subst hw''
        have hb2 := Below.next hb (below_regrown wr dq osq)
        generalize Sort.grow (redrawn wr dq) osq = w2 at hb2 ⊢
        clear q19 hcg hcg0 hew e0
        go_wp2
        go_ret
        exact ⟨by rw [rising_not (i := j) (by have := HK.out; omega) (by rw [← HK.out]; exact HR.out)]; rfl, hb2⟩
      · go_wp2
        refine wp_region_quiet_below (by kernel_rfl) (by kernel_rfl) ?_
        repeat (quiet_step (first | (go_at_call 19; with_reducible exact q19 _ _)))
        refine wpQuiet_nil ?_
        intro _ hw'
        obtain ⟨⟨dq, osq⟩, hw''⟩ := hw'
        subst hw''
        have hb2 := Below.next hb (below_regrown wr dq osq)
        generalize Sort.grow (redrawn wr dq) osq = w2 at hb2 ⊢
        clear q19 hcg hcg0 hew e0
        go_wp2
        exact ⟨⟨k + 1, by omega, by omega, by go_num, fun i hi => by
          have hk := HK.out
          rcases Nat.lt_or_ge i j with h | h
          · exact HS.out i (by omega)
          · rw [show i = j by omega, ← hk]; exact HR.out, hb2⟩, by simp [intOf]; omega⟩
    · have HE : Hid (risingT l = true) := Lib.hid ((rising_iff l).2 fun i hi => HS.out i (by omega))
      clear hc
      go_wp2
      go_ret
      exact ⟨by rw [HE.out]; rfl, hb⟩
end Go.Proofs.Ytmciflpabnfeiaa

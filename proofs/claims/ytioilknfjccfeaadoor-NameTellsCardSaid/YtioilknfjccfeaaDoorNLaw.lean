/-
  The law's ints and known.
-/
import Derived.Test.YtioilknfjccfeaaDoorNNums3
import Derived.Test.YtioilknfjccfeaaDoorNMath3
namespace Go.Proofs.YtioilknfjccfeaaDoor
open Go.RowKit Go.Sort

theorem list_ext_getD {A B : List Nat} (hl : A.length = B.length) (h : ∀ i, i < A.length → A.getD i 0 = B.getD i 0) : A = B := by
  apply List.ext_getElem hl
  intro i h1 h2
  have := h i h1
  simpa [List.getD, h1, h2] using this

set_option maxRecDepth 100000 in
theorem ints_any (A B : List Nat) (u v : Value) (w : World) (hA : Ints w u A) (hB : Ints w v B) (hl : A.length ≤ 1000000) (hl' : B.length ≤ 1000000) :
    Calls Tryd.prog 12 #[u, v] w fun e w' => e = .returned (.bool (decide (A = B))) ∧ Below w.heap.size w w' := by
  obtain ⟨au, cu, rfl, hcu⟩ := ints_cells_of hA
  obtain ⟨av, cv, rfl, hcv⟩ := ints_cells_of hB
  obtain ⟨a, ha⟩ : ∃ a, A.length = a := ⟨_, rfl⟩
  obtain ⟨b, hb⟩ : ∃ b, B.length = b := ⟨_, rfl⟩
  rw [ha] at hcu hl ⊢
  rw [hb] at hcv hl' ⊢
  obtain ⟨r, hr⟩ : ∃ r, decide (A = B) = r := ⟨_, rfl⟩
  rw [hr]
  have HR := Lib.hid hr
  have HA := Lib.hid ha
  have HB := Lib.hid hb
  have HCU := Lib.hid hcu
  have HCV := Lib.hid hcv
  clear hr ha hb hcu hcv hA hB
  by_cases hab : a = b
  · subst hab
    have e10 : ((a : Int) != (a : Int)) = false := by simp
    go_enter Tryd.func12, Tryd.ntmps12
    go_wp2
    go_loopw [5] (fun s5 wr => ∃ k : Nat, k ≤ a ∧ s5 = .int .i64 k ∧ (∀ i, i < k → A.getD i 0 = B.getD i 0) ∧ Below w.heap.size w wr) (fun s5 _ => a - (intOf s5).toNat)
    case atStart => exact ⟨0, by omega, rfl, fun i h => by omega, Below.refl _ _⟩
    case round =>
      obtain ⟨k, hk, rfl, hall, hb⟩ := hrel
      have HALL := Lib.hid hall
      have HBB := Lib.hid hb
      clear hall hb
      by_cases hlt : k < a
      · obtain ⟨b1, o1, rfl, c1⟩ := HCU.out wr HBB.out k hlt
        obtain ⟨b2, o2, rfl, c2⟩ := HCV.out wr HBB.out k hlt
        obtain ⟨x, hx⟩ : ∃ x, A.getD k 0 = x := ⟨_, rfl⟩
        obtain ⟨y, hy⟩ : ∃ y, B.getD k 0 = y := ⟨_, rfl⟩
        rw [hx] at c1
        rw [hy] at c2
        have HX := Lib.hid hx
        have HY := Lib.hid hy
        have e14 : decide ((k : Int) < (a : Int)) = true := decide_eq_true (by omega)
        have hcg1 := fun d os => cell_regrown c1 d os
        have hcg2 := fun d os => cell_regrown c2 d os
        have hwk : IntKind.i64.wrap (k : Int) = (k : Int) := IntWalk.i64_in _ (by omega)
        have hk0 : (k : Int) < (a : Int) := by omega
        have hk1 : ¬ (k : Int) < 0 := by omega
        clear hx hy c1 c2
        by_cases hxy : x = y
        · have e25 : ((x : Int) != (y : Int)) = false := by simp [hxy]
          have HXY := Lib.hid hxy
          clear hxy
          go_wp2_with fail
          refine wp_region_quiet_below (by kernel_rfl) (by kernel_rfl) ?_
          repeat (go_big_quiet_step (fail))
          refine wpQuiet_nil ?_
          intro _ hw'
          obtain ⟨⟨dq, osq⟩, hw''⟩ := hw'
          subst hw''
          go_wp2
          refine ⟨⟨k + 1, by omega, by go_num, fun i hi => ?_, Below.next HBB.out (below_regrown _ _ _)⟩, by simp [intOf]; omega⟩
          by_cases h : i = k
          · subst h; rw [HX.out, HY.out]; exact HXY.out
          · exact HALL.out i (by omega)
        · have e25 : ((x : Int) != (y : Int)) = true := by simp; omega
          have hne : r = false := by
            rw [← HR.out]
            refine decide_eq_false fun e => hxy ?_
            rw [← HX.out, ← HY.out, e]
          subst hne
          clear hxy
          go_wp2_with fail
          refine wp_region_quiet_below (by kernel_rfl) (by kernel_rfl) ?_
          repeat (go_big_quiet_step (fail))
          refine wpQuiet_nil ?_
          intro _ hw'
          obtain ⟨⟨dq, osq⟩, hw''⟩ := hw'
          subst hw''
          go_wp2
          go_ret
          exact ⟨rfl, Below.next HBB.out (below_regrown _ _ _)⟩
      · have e14 : decide ((k : Int) < (a : Int)) = false := decide_eq_false (by omega)
        have hr : r = true := by
          rw [← HR.out]
          refine decide_eq_true (list_ext_getD (by rw [HA.out, HB.out]) fun i hi => HALL.out i (by rw [HA.out] at hi; omega))
        subst hr
        go_wp2
        go_ret
        exact ⟨rfl, HBB.out⟩
  · have e10 : ((a : Int) != (b : Int)) = true := by simp; omega
    have hr : r = false := by
      rw [← HR.out]
      refine decide_eq_false fun e => hab ?_
      rw [← HA.out, ← HB.out, e]
    subst hr
    go_enter Tryd.func12, Tryd.ntmps12
    go_wp2
    go_ret
    exact ⟨rfl, Below.refl _ _⟩

theorem known_any (s : ByteArray) (k n : Int) (hs : s.size ≤ 281474976710656) (w : World) (hT : Tabs w) : Calls Tryd.prog 16 #[.string s, .int .i64 k, .int .i64 n] w fun e w' => e = .returned (.bool (decide (((Plain.parseT s).1 : Int) = k) && decide (((Plain.parseT s).2 : Int) = n))) ∧ Below w.heap.size w w' := by
  have Q9 := Lib.hid (parse_any s hs w hT)
  obtain ⟨⟨x, y⟩, hp⟩ : ∃ p, Plain.parseT s = p := ⟨_, rfl⟩
  rw [hp] at Q9 ⊢
  clear hp
  simp only at Q9 ⊢
  by_cases h1 : (x : Int) = k
  · have e1 : ((x : Int) == k) = true := by simp [h1]
    have d1 : decide ((x : Int) = k) = true := decide_eq_true h1
    rw [d1, Bool.true_and]
    by_cases h2 : (y : Int) = n
    · have d2 : decide ((y : Int) = n) = true := decide_eq_true h2
      rw [d2]
      subst h1 h2
      clear e1 d1 d2
      go_enter Tryd.func16, Tryd.ntmps16
      go_wp2_with (go_at_call 9; (with_reducible refine Q9.out.mono ?_); rintro e w1 ⟨rfl, hb1⟩; have HB1 := Lib.hid hb1; clear hb1)
      go_ret
      exact ⟨rfl, HB1.out⟩
    · have d2 : decide ((y : Int) = n) = false := decide_eq_false h2
      have e2 : ((y : Int) == n) = false := by simp [h2]
      rw [d2]
      subst h1
      clear e1 d1
      go_enter Tryd.func16, Tryd.ntmps16
      go_wp2_with (go_at_call 9; (with_reducible refine Q9.out.mono ?_); rintro e w1 ⟨rfl, hb1⟩; have HB1 := Lib.hid hb1; clear hb1)
      go_ret
      exact ⟨by simp [h2], HB1.out⟩
  · have d1 : decide ((x : Int) = k) = false := decide_eq_false h1
    have e1 : ((x : Int) == k) = false := by simp [h1]
    rw [d1, Bool.false_and]
    go_enter Tryd.func16, Tryd.ntmps16
    go_wp2_with (go_at_call 9; (with_reducible refine Q9.out.mono ?_); rintro e w1 ⟨rfl, hb1⟩; have HB1 := Lib.hid hb1; clear hb1)
    go_ret
    exact ⟨by simp [h1], HB1.out⟩
end Go.Proofs.YtioilknfjccfeaaDoor

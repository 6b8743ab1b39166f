/-
  The document's digits, Make and Parse.
-/
import Derived.Test.YtioilknfjccfeaaDoorNParse
namespace Go.Proofs.YtioilknfjccfeaaDoor
open Go.RowKit Go.Sort

theorem one_row (W : World) (b : UInt8) : RowOf (W.alloc (.cells #[.int .u8 (b.toNat : Int)] 5)) W.heap.size [b] := by
  constructor
  · intro i hi
    have : i = 0 := by simpa using hi
    subst this
    simp [go_sem]
  · intro i hi
    have : i = 0 := by simpa using hi
    subst this
    simp [go_sem]

theorem digit_cell (n : Nat) : ((UInt8.ofNat (48 + n % 10)).toNat : Int) = 48 + (n : Int) % 10 := by
  rw [Plain.dec_byte _ (Nat.mod_lt _ (by decide))]
  omega

theorem decs_one {n : Nat} (h : n < 10) : (⟨#[UInt8.ofNat (48 + n % 10)]⟩ : ByteArray) = Plain.decs n := by
  unfold Plain.decs
  rw [Lib.decDigits, dif_pos h, Nat.mod_eq_of_lt h]
theorem decs_more {n : Nat} (h : ¬ n < 10) : Plain.decs (n / 10) ++ (⟨#[UInt8.ofNat (48 + n % 10)]⟩ : ByteArray) = Plain.decs n := by
  apply ba_ext
  rw [ba_append, Plain.decs_data, Plain.decs_data]
  conv => rhs; rw [Lib.decDigits, dif_neg h]

theorem decs_size {n : Nat} (h : n ≤ 100000000000) : (Plain.decs n).size ≤ 12 := by
  have := Plain.dec_length 11 n (by omega)
  rw [Lib.size_eq, Plain.decs_data]
  exact this

set_option maxRecDepth 100000 in
theorem digits_any (n : Nat) (h : n ≤ 100000000000) (w : World) : Calls Tryd.prog 19 #[.int .i64 (n : Int)] w fun e w' => e = .returned (.string (Plain.decs n)) ∧ Below w.heap.size w w' := by
  induction n using Nat.strongRecOn generalizing w with
  | _ n ih =>
    have H1 : (convert 52 9 (.slice (some ⟨w.heap.size, 0, none⟩) 1 1)).run Tryd.prog (w.alloc (.cells #[.int .u8 (48 + (n : Int) % 10)] 5)) = .ok (.string ⟨#[UInt8.ofNat (48 + n % 10)]⟩) (w.alloc (.cells #[.int .u8 (48 + (n : Int) % 10)] 5)) := by
      have H1 := rowOf_str (c := 1) (one_row w (UInt8.ofNat (48 + n % 10)))
      rw [digit_cell] at H1
      exact H1
    have hb1 : Below w.heap.size w (w.alloc (.cells #[.int .u8 (48 + (n : Int) % 10)] 5)) := (Below.refl _ w).alloc (Nat.le_refl _) _
    have HB := Lib.hid hb1
    by_cases h10 : n < 10
    · have e1 : (n : Int) < 10 := by omega
      rw [← decs_one h10]
      clear ih hb1
      generalize (⟨#[UInt8.ofNat (48 + n % 10)]⟩ : ByteArray) = B at H1 ⊢
      go_enter Tryd.func19, Tryd.ntmps19
      go_wp2
      go_ret
      exact ⟨rfl, HB.out⟩
    · have e1 : ¬ (n : Int) < 10 := by omega
      have Q := Lib.hid (ih (n / 10) (by omega) (by omega) (w.alloc (.cells #[.int .u8 (48 + (n : Int) % 10)] 5)))
      have hq : ((n / 10 : Nat) : Int) = (n : Int) / 10 := by omega
      rw [hq] at Q
      have hcat : (Plain.decs (n / 10)).size + (⟨#[UInt8.ofNat (48 + n % 10)]⟩ : ByteArray).size ≤ 9223372036854775807 := by
        have := decs_size (n := n / 10) (by omega)
        have : (⟨#[UInt8.ofNat (48 + n % 10)]⟩ : ByteArray).size = 1 := rfl
        omega
      rw [← decs_more h10]
      clear ih hb1 hq
      generalize (⟨#[UInt8.ofNat (48 + n % 10)]⟩ : ByteArray) = B at H1 hcat ⊢
      go_enter Tryd.func19, Tryd.ntmps19
      go_wp2_with (go_at_call 19; (with_reducible refine Q.out.mono ?_); rintro e w2 ⟨rfl, hb2⟩; have HB2 := Lib.hid (Below.next HB.out hb2); clear hb2)
      go_ret
      exact ⟨rfl, HB2.out⟩

set_option maxRecDepth 100000 in
theorem refMake_any (k n : Int) (w : World) : Calls Tryd.prog 8 #[.int .i64 k, .int .i64 n] w fun e w' => e = .returned (.string (Plain.makeT k n)) ∧ Below w.heap.size w w' := by
  obtain ⟨M, hM⟩ : ∃ M, Plain.makeT k n = M := ⟨_, rfl⟩
  rw [hM]
  unfold Plain.makeT at hM
  by_cases h1 : k = 1
  · rw [if_pos h1] at hM
    subst hM
    subst h1
    go_enter Tryd.func8, Tryd.ntmps8
    go_wp2
    go_ret
    exact ⟨rfl, Below.refl _ _⟩
  · rw [if_neg h1] at hM
    have d1 : decide (k = 1) = false := decide_eq_false h1
    by_cases h2 : k = 2
    · rw [if_pos h2] at hM
      subst hM
      subst h2
      go_enter Tryd.func8, Tryd.ntmps8
      go_wp2
      go_ret
      exact ⟨rfl, Below.refl _ _⟩
    · rw [if_neg h2] at hM
      have d2 : decide (k = 2) = false := decide_eq_false h2
      by_cases hf : 1 ≤ n ∧ n ≤ 1000000000
      · have hft := (Plain.fitN_iff n).2 hf
        obtain ⟨m, rfl⟩ : ∃ m : Nat, n = (m : Int) := ⟨n.toNat, by omega⟩
        rw [hft, if_pos rfl, if_pos rfl, Int.toNat_natCast] at hM
        have hn1 : ¬ (m : Int) < 1 := by omega
        have hn2 : ¬ (1000000000 : Int) < (m : Int) := by omega
        have Q := Lib.hid (digits_any m (by omega) w)
        have hcat : (4 : Nat) + (Plain.decs m).size ≤ 9223372036854775807 := by
          have := decs_size (n := m) (by omega)
          omega
        by_cases h3 : k = 3
        · rw [if_pos h3] at hM
          subst hM
          subst h3
          have hcat' : (⟨#[119, 97, 108, 45]⟩ : ByteArray).size + (Plain.decs m).size ≤ 9223372036854775807 := hcat
          rw [show Plain.wal = (⟨#[119, 97, 108, 45]⟩ : ByteArray) from rfl]
          clear hft hf d1 d2 h1 h2
          go_enter Tryd.func8, Tryd.ntmps8
          go_wp2_with (go_at_call 19; (with_reducible refine Q.out.mono ?_); rintro e w2 ⟨rfl, hb2⟩; have HB2 := Lib.hid hb2; clear hb2)
          go_ret
          exact ⟨rfl, HB2.out⟩
        · rw [if_neg h3] at hM
          have d3 : decide (k = 3) = false := decide_eq_false h3
          by_cases h4 : k = 4
          · rw [if_pos h4] at hM
            subst hM
            subst h4
            have hcat' : (⟨#[115, 101, 103, 45]⟩ : ByteArray).size + (Plain.decs m).size ≤ 9223372036854775807 := hcat
            rw [show Plain.seg = (⟨#[115, 101, 103, 45]⟩ : ByteArray) from rfl]
            clear hft hf d1 d2 d3 h1 h2 h3
            go_enter Tryd.func8, Tryd.ntmps8
            go_wp2_with (go_at_call 19; (with_reducible refine Q.out.mono ?_); rintro e w2 ⟨rfl, hb2⟩; have HB2 := Lib.hid hb2; clear hb2)
            go_ret
            exact ⟨rfl, HB2.out⟩
          · rw [if_neg h4] at hM
            have d4 : decide (k = 4) = false := decide_eq_false h4
            subst hM
            clear hft hf hcat
            go_enter Tryd.func8, Tryd.ntmps8
            go_wp2
            go_ret
            exact ⟨rfl, Below.refl _ _⟩
      · have hft : Plain.fitN n = false := by rw [← Bool.not_eq_true, Plain.fitN_iff]; exact hf
        have hMn : M = Plain.nil := by
          rw [← hM, hft]
          simp
        subst hMn
        clear hM hft
        by_cases h1' : n < 1
        · clear hf
          go_enter Tryd.func8, Tryd.ntmps8
          go_wp2
          go_ret
          exact ⟨rfl, Below.refl _ _⟩
        · have h2' : (1000000000 : Int) < n := by omega
          clear hf
          go_enter Tryd.func8, Tryd.ntmps8
          go_wp2
          go_ret
          exact ⟨rfl, Below.refl _ _⟩
end Go.Proofs.YtioilknfjccfeaaDoor

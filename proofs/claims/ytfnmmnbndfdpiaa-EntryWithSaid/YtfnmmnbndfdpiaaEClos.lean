/-
  Contracts of the small functions on entries: the order of two words, the functions that are handed to the library, an entry with the weight that it counts as.
-/
import Derived.Test.YtfnmmnbndfdpiaaEMath
import Derived.Test.YtfnmmnbndfdpiaaESorts
import Derived.Test.YtfnmmnbndfdpiaaKit
namespace Go.Proofs.Ytfnmmnbndfdpiaa
open Go.RowKit Go.Sort Go.Lib Go.Shelf

theorem grow_two (w : World) (a b : Obj) : ∃ q os, (w.alloc a).alloc b = grow (w.drewN q) os := ⟨0, #[a] ++ #[b], by rw [alloc_eq_grow, alloc_eq_grow, grow_grow]; rfl⟩

theorem ltOf_cf : ltOf cfE = ltE := by
  funext a b
  exact ordT_neg a.word b.word

theorem order_any (a b : ByteArray) (w : World) : Calls Try.prog 63 #[.string a, .string b] w fun e w' => e = .returned (.int .i64 (ordT a b)) ∧ w = w' := by
  have q1 := fun w0 => less_any a b w0
  have q2 := fun w0 => less_any b a w0
  unfold ordT
  obtain ⟨r, hr⟩ : ∃ r, lessT a b = r := ⟨_, rfl⟩
  obtain ⟨s, hs⟩ : ∃ s, lessT b a = s := ⟨_, rfl⟩
  simp only [hr] at q1 ⊢
  simp only [hs] at q2 ⊢
  clear hr hs
  cases r
  · cases s
    all_goals
      go_enter Try.func63, Try.ntmps63
      go_wp2_with (go_at_call 38; first | ((with_reducible refine (q1 _).mono ?_); rintro e w1 ⟨rfl, rfl⟩) | ((with_reducible refine (q2 _).mono ?_); rintro e w1 ⟨rfl, rfl⟩))
      go_ret
      exact ⟨rfl, rfl⟩
  · go_enter Try.func63, Try.ntmps63
    go_wp2_with (go_at_call 38; first | ((with_reducible refine (q1 _).mono ?_); rintro e w1 ⟨rfl, rfl⟩) | ((with_reducible refine (q2 _).mono ?_); rintro e w1 ⟨rfl, rfl⟩))
    go_ret
    exact ⟨rfl, rfl⟩

theorem cmp_any (a b : Ent) (w : World) : Calls Try.prog 62 #[.agg (enc a).toArray, .agg (enc b).toArray] w fun e w' => e = .returned (.int .i64 (cfE a b)) ∧ ∃ q os, w' = grow (w.drewN q) os := by
  have q1 := fun w0 => order_any a.word b.word w0
  unfold enc
  go_enter Try.func62, Try.ntmps62
  go_wp2_with (go_at_call 63; (with_reducible refine (q1 _).mono ?_); rintro e w1 ⟨rfl, rfl⟩)
  go_ret
  exact ⟨rfl, grow_two _ _ _⟩

/-- What the sort asks of the order. -/
theorem cmpLays (blk off size : Nat) (w : World) : CmpLays Try.prog 62 #[] enc 3 cfE blk off size w := fun _ _ _ _ x y => cmp_any x y _

theorem eq_any (a b : Ent) (w : World) : Calls Try.prog 65 #[.agg (enc a).toArray, .agg (enc b).toArray] w fun e w' => e = .returned (.bool (decide (key a = key b))) ∧ ∃ q os, w' = grow (w.drewN q) os := by
  have q1 : (a.word.toList == b.word.toList) = decide (key a = key b) := by
    rw [toList_beq]
    by_cases h : key a = key b
    · rw [decide_eq_true h, key_word h]; simp
    · rw [decide_eq_false h, decide_eq_false (fun e => h (by unfold key; rw [e]))]
  unfold enc
  obtain ⟨r, hr⟩ : ∃ r, decide (key a = key b) = r := ⟨_, rfl⟩
  rw [hr] at q1 ⊢
  clear hr
  go_enter Try.func65, Try.ntmps65
  go_wp2
  go_ret
  exact ⟨rfl, grow_two _ _ _⟩

theorem pcmp_any (a : Ent) (c : ByteArray) (w : World) : Calls Try.prog 67 #[.agg (enc a).toArray, .string c] w fun e w' => e = .returned (.int .i64 (ordT a.word c)) ∧ RowKit.Below w.heap.size w w' := by
  have q1 := fun w0 => order_any a.word c w0
  unfold enc
  go_enter Try.func67, Try.ntmps67
  go_wp2_with (go_at_call 63; (with_reducible refine (q1 _).mono ?_); rintro e w1 ⟨rfl, rfl⟩)
  go_ret
  exact ⟨rfl, (RowKit.Below.refl _ w).alloc (Nat.le_refl _) _⟩

theorem below_two_allocs (w : World) (a b : Obj) : RowKit.Below w.heap.size w ((w.alloc a).alloc b) := ((RowKit.Below.refl _ w).alloc (Nat.le_refl _) a).alloc (by simp) b

theorem plain_any (a : Ent) (w : World) : Calls Try.prog 42 #[.agg (enc a).toArray] w fun e w' => e = .returned (.agg (enc (bare a)).toArray) ∧ RowKit.Below w.heap.size w w' := by
  obtain ⟨x, n, g⟩ := a
  unfold enc bare
  cases g
  all_goals
    go_enter Try.func42, Try.ntmps42
    go_wp2
  · exact bodyPost_ret (v := .agg #[.string x, .int .u32 n, .bool false]) (by simp [results, Try.results42, go_sem]) rfl ⟨rfl, below_two_allocs _ _ _⟩
  · exact bodyPost_ret (v := .agg #[.string x, .int .u32 0, .bool true]) (by simp [results, Try.results42, go_sem]) rfl ⟨rfl, below_two_allocs _ _ _⟩

theorem refBare_any (a : Ent) (w : World) : Calls Try.prog 44 #[.agg (enc a).toArray] w fun e w' => e = .returned (.agg (enc (bare a)).toArray) ∧ RowKit.Below w.heap.size w w' := by
  obtain ⟨x, n, g⟩ := a
  unfold enc bare
  cases g
  all_goals
    go_enter Try.func44, Try.ntmps44
    go_wp2
  · exact bodyPost_ret (v := .agg #[.string x, .int .u32 n, .bool false]) (by simp [results, Try.results44, go_sem]) rfl ⟨rfl, below_two_allocs _ _ _⟩
  · exact bodyPost_ret (v := .agg #[.string x, .int .u32 0, .bool true]) (by simp [results, Try.results44, go_sem]) rfl ⟨rfl, below_two_allocs _ _ _⟩

end Go.Proofs.Ytfnmmnbndfdpiaa

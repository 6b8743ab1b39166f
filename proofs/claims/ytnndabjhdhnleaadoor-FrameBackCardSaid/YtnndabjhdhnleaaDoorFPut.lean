/-
  The walks of package frame: Put, Size, and what is asked of a frame that is read, one thing after the other.
-/
import Derived.Test.YtnndabjhdhnleaaDoorFMath
import Derived.Test.YtnndabjhdhnleaaDoorVPut
import Derived.RangeFuncBox
namespace Go.Proofs.YtnndabjhdhnleaaDoor
open Go.RowKit

theorem mayBe_any (n : Nat) (w : World) : Calls Tryd.prog 19 #[.int .u64 n] w fun e w' => e = .returned (.bool (fits n)) ∧ w = w' := by
  by_cases h : 1 ≤ n ∧ n ≤ 300
  · rw [show fits n = true by unfold fits; exact decide_eq_true h]
    obtain ⟨h1, h2⟩ := h
    have g1 : 1 ≤ (n : Int) := by omega
    have g2 : (n : Int) ≤ 300 := by omega
    go_enter Tryd.func19, Tryd.ntmps19
    go_wp2
    go_ret
    exact ⟨rfl, rfl⟩
  · rw [show fits n = false by unfold fits; exact decide_eq_false h]
    by_cases h1 : 1 ≤ n
    · have g1 : 1 ≤ (n : Int) := by omega
      have g2 : ¬ (n : Int) ≤ 300 := by omega
      clear h
      go_enter Tryd.func19, Tryd.ntmps19
      go_wp2
      go_ret
      exact ⟨rfl, rfl⟩
    · have g1 : ¬ 1 ≤ (n : Int) := by omega
      clear h
      go_enter Tryd.func19, Tryd.ntmps19
      go_wp2
      go_ret
      exact ⟨rfl, rfl⟩

theorem unless_any (b : Bool) (x : Int) (w : World) : Calls Tryd.prog 30 #[.bool b, .int .i64 x] w fun e w' => e = .returned (.int .i64 (if b = true then 0 else x)) ∧ w = w' := by
  cases b
  · go_enter Tryd.func30, Tryd.ntmps30
    go_wp2
    go_ret
    exact ⟨rfl, rfl⟩
  · go_enter Tryd.func30, Tryd.ntmps30
    go_wp2
    go_ret
    exact ⟨rfl, rfl⟩

theorem put_enc (n : Nat) (hn : n < 18446744073709551616) (B : ByteArray) (hB : B.data.toList = Plain.enc n) (w : World) :
    Calls Tryd.prog 21 #[.slice (some ⟨w.heap.size, 0, none⟩) 1 1] (w.alloc (.cells #[.int .u64 n] 47)) fun e w' => e = .returned (.string B) ∧ Below w.heap.size w w' := by
  refine (put_walk [n] (some ⟨w.heap.size, 0, none⟩) 1 _ (by simpa using hn) (by simp) ?_).mono ?_
  · intro i hi
    obtain rfl : i = 0 := by simp at hi; omega
    exact ⟨_, _, rfl, by simp [go_sem]⟩
  · rintro e w' ⟨rfl, hb⟩
    refine ⟨?_, ((Below.refl _ w).alloc (Nat.le_refl _) _).trans (hb.mono (by simp))⟩
    rw [Plain.encs_cons, ← hB]
    simp [Plain.encs]

theorem enc_bytes_size {n : Nat} (hn : n < 18446744073709551616) (B : ByteArray) (hB : B.data.toList = Plain.enc n) : B.size ≤ 9 := by
  rw [← ba_length, hB, Plain.enc_length]; exact (Plain.size_bounds hn).2

set_option maxHeartbeats 400000 in
theorem fput_any (p : ByteArray) (w : World) (hf : Fours w) (hs : p.size ≤ 1000000) :
    Calls Tryd.prog 8 #[.string p] w fun e w' => e = .returned (.tuple #[.string (if fits p.size = true then frameOf p else ⟨#[]⟩), .int .i64 (if fits p.size = true then 0 else 4)]) ∧ Below w.heap.size w w' := by
  have q19 := mayBe_any p.size
  obtain ⟨b, hb⟩ : ∃ b, fits p.size = b := ⟨_, rfl⟩
  rw [hb] at q19 ⊢
  have hpm : p.size ≤ 9223372036854775807 := by omega
  cases b
  · clear hb
    go_enter Tryd.func8, Tryd.ntmps8
    go_wp2_with (go_at_call 19; go_must (refine (q19 _).mono ?_); rintro e w1 ⟨rfl, rfl⟩)
    go_ret2
    exact ⟨rfl, Below.refl _ _⟩
  · obtain ⟨B, hB⟩ : ∃ B : ByteArray, B = ⟨(Plain.enc p.size).toArray⟩ := ⟨_, rfl⟩
    have hBl : B.data.toList = Plain.enc p.size := by rw [hB]
    have q21 := put_enc p.size (by omega) B hBl
    have hBs := enc_bytes_size (n := p.size) (by omega) B hBl
    have hcat : B.size + p.size ≤ 9223372036854775807 := by omega
    have q20 : ∀ w1, Below w.heap.size w w1 → Calls Tryd.prog 20 #[.string (B ++ p)] w1 fun e w' => e = .returned (.string (frameOf p)) ∧ Below w1.heap.size w1 w' := fun w1 h1 => by
      unfold frameOf headed
      rw [← hB]
      exact seal_any (B ++ p) w1 (hf.below h1) (by rw [ba_size_append]; omega)
    clear hb hB hBl
    go_enter Tryd.func8, Tryd.ntmps8
    go_wp2_with (first
      | (go_at_call 19; go_must (refine (q19 _).mono ?_); rintro e w1 ⟨rfl, rfl⟩)
      | (go_at_call 21; go_must (refine (q21 _).mono ?_); rintro e w2 ⟨rfl, hb2⟩)
      | (go_at_call 20; go_must (refine (q20 _ hb2).mono ?_); rintro e w3 ⟨rfl, hb3⟩))
    go_ret2
    exact ⟨rfl, Below.next hb2 hb3⟩

set_option maxHeartbeats 400000 in
theorem fsize_any (p : ByteArray) (w : World) (hs : p.size ≤ 1000000) :
    Calls Tryd.prog 10 #[.string p] w fun e w' => e = .returned (.int .i64 ((if fits p.size = true then Plain.size p.size + p.size + 4 else 0 : Nat) : Int)) ∧ w = w' := by
  have q19 := mayBe_any p.size
  obtain ⟨b, hb⟩ : ∃ b, fits p.size = b := ⟨_, rfl⟩
  rw [hb] at q19 ⊢
  have hpm : p.size ≤ 9223372036854775807 := by omega
  have hsz := Plain.size_bounds (n := p.size) (by omega)
  have q24 := fun w0 => size_any p.size w0 (by omega)
  obtain ⟨z, hz⟩ : ∃ z, Plain.size p.size = z := ⟨_, rfl⟩
  rw [hz] at q24 hsz ⊢
  clear hb hz
  cases b
  · go_enter Tryd.func10, Tryd.ntmps10
    go_wp2_with (go_at_call 19; go_must (refine (q19 _).mono ?_); rintro e w1 ⟨rfl, rfl⟩)
    go_ret
    exact ⟨rfl, rfl⟩
  · go_enter Tryd.func10, Tryd.ntmps10
    go_wp2_with (first
      | (go_at_call 19; go_must (refine (q19 _).mono ?_); rintro e w1 ⟨rfl, rfl⟩)
      | (go_at_call 24; go_must (refine (q24 _).mono ?_); rintro e w2 ⟨rfl, rfl⟩))
    go_ret
    exact ⟨by simp, rfl⟩

/-! ### What is asked of a frame that is read, one thing after the other -/

/-- Where what the six things share lies: the bytes, the place, the number, the payload's place, the place behind, what was opened. -/
structure Shared (w : World) (bs ba bm bf bh bo : Nat) (s : ByteArray) (a m f h : Int) (o : ByteArray) (W : World) : Prop where
  hs : Boxed W bs 9 (.string s)
  ha : Boxed W ba 3 (.int .i64 a)
  hm : Boxed W bm 47 (.int .u64 m)
  hf : Boxed W bf 3 (.int .i64 f)
  hh : Boxed W bh 3 (.int .i64 h)
  ho : Boxed W bo 9 (.string o)
  hb : Below w.heap.size w W

theorem one_any (bs ba : Nat) (s : ByteArray) (a : Int) (W : World) (hs : Boxed W bs 9 (.string s)) (ha : Boxed W ba 3 (.int .i64 a)) :
    Calls Tryd.prog 29 #[.pointer (some ⟨ba, 0, none⟩), .pointer (some ⟨bs, 0, none⟩)] W fun e w' => e = .returned (.int .i64 (if a < 0 ∨ (s.size : Int) < a then 2 else 0)) ∧ W = w' := by
  have c1 := hs.cell
  have c2 := ha.cell
  have q := unless_any
  clear hs ha
  by_cases h0 : a < 0
  · rw [if_pos (.inl h0)]
    have h0' : ¬ 0 ≤ a := by omega
    clear h0
    go_enter Tryd.func29, Tryd.ntmps29
    go_wp2_with (go_at_call 30; go_must (refine (q _ _ _).mono ?_); rintro e w1 ⟨rfl, rfl⟩)
    go_ret
    exact ⟨rfl, rfl⟩
  · have h0' : 0 ≤ a := by omega
    by_cases h1 : (s.size : Int) < a
    · rw [if_pos (.inr h1)]
      have h1' : ¬ a ≤ (s.size : Int) := by omega
      clear h0 h1
      go_enter Tryd.func29, Tryd.ntmps29
      go_wp2_with (go_at_call 30; go_must (refine (q _ _ _).mono ?_); rintro e w1 ⟨rfl, rfl⟩)
      go_ret
      exact ⟨rfl, rfl⟩
    · rw [if_neg (by omega)]
      have h1' : a ≤ (s.size : Int) := by omega
      clear h0 h1
      go_enter Tryd.func29, Tryd.ntmps29
      go_wp2_with (go_at_call 30; go_must (refine (q _ _ _).mono ?_); rintro e w1 ⟨rfl, rfl⟩)
      go_ret
      exact ⟨rfl, rfl⟩

theorem two_any (bs ba : Nat) (s : ByteArray) (a : Int) (W : World) (hs : Boxed W bs 9 (.string s)) (ha : Boxed W ba 3 (.int .i64 a)) :
    Calls Tryd.prog 31 #[.pointer (some ⟨ba, 0, none⟩), .pointer (some ⟨bs, 0, none⟩)] W fun e w' => e = .returned (.int .i64 (if a < (s.size : Int) then 0 else 9)) ∧ W = w' := by
  have c1 := hs.cell
  have c2 := ha.cell
  have q := unless_any
  clear hs ha
  by_cases h0 : a < (s.size : Int)
  · rw [if_pos h0]
    go_enter Tryd.func31, Tryd.ntmps31
    go_wp2_with (go_at_call 30; go_must (refine (q _ _ _).mono ?_); rintro e w1 ⟨rfl, rfl⟩)
    go_ret
    exact ⟨rfl, rfl⟩
  · rw [if_neg h0]
    go_enter Tryd.func31, Tryd.ntmps31
    go_wp2_with (go_at_call 30; go_must (refine (q _ _ _).mono ?_); rintro e w1 ⟨rfl, rfl⟩)
    go_ret
    exact ⟨rfl, rfl⟩

theorem three_any (bs ba bm bf : Nat) (s : ByteArray) (a : Int) (r : Nat × Int × Nat) (hr : Plain.get s.data.toList a = r) (v1 v2 : Value) (W : World) (hsz : s.size ≤ maxLen) (hs : Boxed W bs 9 (.string s)) (ha : Boxed W ba 3 (.int .i64 a)) (hm : Boxed W bm 47 v1) (hf : Boxed W bf 3 v2) (hne : bm ≠ bf) :
    Calls Tryd.prog 32 #[.pointer (some ⟨bs, 0, none⟩), .pointer (some ⟨ba, 0, none⟩), .pointer (some ⟨bm, 0, none⟩), .pointer (some ⟨bf, 0, none⟩)] W fun e w' =>
      e = .returned (.int .i64 (r.2.2 : Int)) ∧ w' = (W.setCell ⟨bm, 0, none⟩ (.int .u64 (r.1 : Int))).setCell ⟨bf, 0, none⟩ (.int .i64 r.2.1) := by
  have c1 := hs.cell
  have c2 := ha.cell
  have c3 := hm.cell
  have c4 := hf.cell
  have f3 := hm.frozen
  have c5 : ∀ v, (W.setCell ⟨bm, 0, none⟩ v).cell? ⟨bf, 0, none⟩ = some v2 := fun v => by rw [World.cell?_setCell_other (h := fun h => hne (by injection h))]; exact c4
  have f4 : ∀ v, (W.setCell ⟨bm, 0, none⟩ v).frozen? ⟨bf, 0, none⟩ = false := fun v => by rw [World.frozen?_setCell]; exact hf.frozen
  have q := fun w0 => get_any s a w0 hsz
  rw [hr] at q
  unfold gotten at q
  clear hs ha hm hf hr hsz c4 hne
  obtain ⟨n9, p9, e9⟩ := r
  dsimp only at q ⊢
  go_enter Tryd.func32, Tryd.ntmps32
  go_wp2_with (go_at_call 33; go_must (refine (q _).mono ?_); rintro e w1 ⟨rfl, rfl⟩)
  go_ret
  exact ⟨rfl, rfl⟩

theorem four_any' (bm : Nat) (m : Nat) (W : World) (hm : Boxed W bm 47 (.int .u64 (m : Int))) :
    Calls Tryd.prog 34 #[.pointer (some ⟨bm, 0, none⟩)] W fun e w' => e = .returned (.int .i64 (if fits m = true then 0 else 4)) ∧ W = w' := by
  have c1 := hm.cell
  have q := unless_any
  have q2 := mayBe_any m
  obtain ⟨b, hb⟩ : ∃ b, fits m = b := ⟨_, rfl⟩
  rw [hb] at q2 ⊢
  clear hm hb
  cases b
  all_goals
   go_enter Tryd.func34, Tryd.ntmps34
   go_wp2_with (first | (go_at_call 30; go_must (refine (q _ _ _).mono ?_); rintro e w1 ⟨rfl, rfl⟩) | (go_at_call 19; go_must (refine (q2 _).mono ?_); rintro e w1 ⟨rfl, rfl⟩))
   go_ret
   exact ⟨rfl, rfl⟩

theorem five_any (bs bm bf bh : Nat) (s : ByteArray) (m f : Nat) (v : Value) (W : World) (hm300 : m ≤ 300) (hfs : f ≤ 1000000000) (hs : Boxed W bs 9 (.string s)) (hm : Boxed W bm 47 (.int .u64 (m : Int))) (hf : Boxed W bf 3 (.int .i64 (f : Int))) (hh : Boxed W bh 3 v) (hsh : bs ≠ bh) :
    Calls Tryd.prog 35 #[.pointer (some ⟨bf, 0, none⟩), .pointer (some ⟨bm, 0, none⟩), .pointer (some ⟨bh, 0, none⟩), .pointer (some ⟨bs, 0, none⟩)] W fun e w' =>
      e = .returned (.int .i64 (if s.size < f + m + 4 then 3 else 0)) ∧ w' = W.setCell ⟨bh, 0, none⟩ (.int .i64 ((f + m + 4 : Nat) : Int)) := by
  have c1 := hs.cell
  have c2 := hm.cell
  have c3 := hf.cell
  have c4 := hh.cell
  have f4 := hh.frozen
  have q := unless_any
  have hh' := hh
  clear hs hm hf hh
  have e0 : ((f + m + 4 : Nat) : Int) = (f : Int) + (m : Int) + 4 := by omega
  rw [e0]
  clear e0
  by_cases h : s.size < f + m + 4
  · rw [if_pos h]
    have h1 : ¬ (f : Int) + (m : Int) + 4 ≤ (s.size : Int) := by omega
    clear h
    go_enter Tryd.func35, Tryd.ntmps35
    go_wp2_with (go_at_call 30; go_must (refine (q _ _ _).mono ?_); rintro e w1 ⟨rfl, rfl⟩)
    go_ret
    exact ⟨rfl, rfl⟩
  · rw [if_neg h]
    have h1 : (f : Int) + (m : Int) + 4 ≤ (s.size : Int) := by omega
    clear h
    go_enter Tryd.func35, Tryd.ntmps35
    go_wp2_with (go_at_call 30; go_must (refine (q _ _ _).mono ?_); rintro e w1 ⟨rfl, rfl⟩)
    go_ret
    exact ⟨rfl, rfl⟩
end Go.Proofs.YtnndabjhdhnleaaDoor

/-
  EntryBytes: any entry is laid, any bytes are read, any value is told, as the document says.
-/
import Derived.Test.YtfnmmnbndfdpiaaEWorks
import Derived.Test.YtfnmmnbndfdpiaaERefGet
import Derived.Deep.DeepCutAuto
import Derived.Deep.QuietTactic
namespace Go.Proofs.Ytfnmmnbndfdpiaa
open Go.RowKit Go.Sort

theorem cut_small (x : ByteArray) : (x.extract 0 (min (x.size : Int) 300).toNat).size ≤ 300 := by
  rw [ByteArray.size_extract]; omega

/-- The entry's box, whatever has been called since. -/
theorem box_cells {W0 : World} {b : Nat} {e : Ent} (h0 : W0.cell? ⟨b, 0, none⟩ = some (.string e.word)) (h1 : W0.cell? ⟨b, 1, none⟩ = some (.int .u32 (e.weight : Int))) (h2 : W0.cell? ⟨b, 2, none⟩ = some (.bool e.gone)) :
    ∀ W, RowKit.Below W0.heap.size W0 W → W.cell? ⟨b, 0, none⟩ = some (.string e.word) ∧ W.cell? ⟨b, 1, none⟩ = some (.int .u32 (e.weight : Int)) ∧ W.cell? ⟨b, 2, none⟩ = some (.bool e.gone) := fun W hW => by
  have hb := block_lt_of_cell h0
  have hc := (bcell hW).1
  exact ⟨by rw [hc _ _ hb, h0], by rw [hc _ _ hb, h1], by rw [hc _ _ hb, h2]⟩

theorem four_0 (a b c d : Value) (w : World) : (Instr.index 30 (.agg #[a, b, c, d]) (.int .i64 0)).run Try.prog w = .ok a w := by kernel_rfl
theorem four_1 (a b c d : Value) (w : World) : (Instr.index 30 (.agg #[a, b, c, d]) (.int .i64 1)).run Try.prog w = .ok b w := by kernel_rfl
theorem four_2 (a b c d : Value) (w : World) : (Instr.index 30 (.agg #[a, b, c, d]) (.int .i64 2)).run Try.prog w = .ok c w := by kernel_rfl
theorem four_3 (a b c d : Value) (w : World) : (Instr.index 30 (.agg #[a, b, c, d]) (.int .i64 3)).run Try.prog w = .ok d w := by kernel_rfl

set_option maxHeartbeats 4000000 in
set_option maxRecDepth 100000 in
theorem entryBytes_walk (x : ByteArray) (n : Nat) (g : Bool) (s : ByteArray) (v : Nat) (w : World) (hn : n < 4294967296) (hv : v < 18446744073709551616) (hx : x.size ≤ 9223372036854775807) (hs : s.size ≤ 9223372036854775807) :
    Calls Try.prog 3 #[.agg #[.string x, .int .u32 (n : Int), .bool g], .string s, .int .u64 (v : Int)] w fun e w' => e = .returned (.bool true) ∧ RowKit.Below w.heap.size w w' := by
  have hX3 := cut_small x
  have hS3 := cut_small s
  go_enter Try.func3, Try.ntmps3
  go_upto_region 1 with fail
  go_region
  generalize x.extract 0 (min (x.size : Int) 300).toNat = X at hX3 ⊢
  generalize s.extract 0 (min (s.size : Int) 300).toNat = S at hS3 ⊢
  generalize hW0 : (w.alloc (.cells #[.string X, .int .u32 (n : Int), .bool g] 24)).drew = W0
  have hb0 : RowKit.Below w.heap.size w W0 := by rw [← hW0]; exact below_drew' (below_alloc w _)
  have HB := Lib.hid (box_cells (W0 := W0) (b := w.heap.size) (e := ⟨X, n, g⟩) (by rw [← hW0]; simp) (by rw [← hW0]; simp) (by rw [← hW0]; simp))
  obtain ⟨k0, k1, k2⟩ := HB.out W0 (RowKit.Below.refl _ _)
  simp only at k0 k1 k2
  have q8 := fun W => eput_any ⟨X, n, g⟩ W hn (by show X.size ≤ _; omega)
  have q9 := fun W => erefPut_any ⟨X, n, g⟩ W hn (by show X.size ≤ _; omega)
  have q10 := fun W => value_any ⟨X, n, g⟩ W hn
  have q11 := fun W => refValue_any ⟨X, n, g⟩ W hn
  have hPs : (strO (putT ⟨X, n, g⟩).1).size ≤ 400 := by
    rw [← ba_length, strO_key]
    have h1 := (Plain.size_bounds (n := n) (by omega)).2
    have h2 : (key ⟨X, n, g⟩).length ≤ 300 := by unfold key; rw [ba_length]; exact hX3
    unfold putT
    split
    · simp
    · split
      · simp; omega
      · simp [Plain.enc_length]; omega
  unfold putE' at q8 q9
  obtain ⟨P, hP⟩ : ∃ P, strO (putT ⟨X, n, g⟩).1 = P := ⟨_, rfl⟩
  obtain ⟨c, hc⟩ : ∃ c, (putT ⟨X, n, g⟩).2 = c := ⟨_, rfl⟩
  obtain ⟨vv, hvv⟩ : ∃ c, valueT ⟨X, n, g⟩ = c := ⟨_, rfl⟩
  rw [hP, hc] at q8 q9
  rw [hP] at hPs
  rw [hvv] at q10 q11
  unfold enc at q8 q9 q10 q11
  simp only at q8 q9 q10 q11
  clear hP hc hvv hW0
  go_upto_region 4 with (first
    | (go_at_call 8; (with_reducible refine (q8 _).mono ?_); rintro e w1 ⟨rfl, hb1⟩; obtain ⟨k0, k1, k2⟩ := HB.out _ hb1)
    | (go_at_call 9; (with_reducible refine (q9 _).mono ?_); rintro e w2 ⟨rfl, hb2⟩; have hb2 := Below.next hb1 hb2; obtain ⟨k0, k1, k2⟩ := HB.out _ hb2))
  have hq10 := quiet_call (w := w2) fun W _ => q10 W
  have hq11 := quiet_call (w := w2) fun W _ => q11 W
  have k3 : ∀ d os, (Sort.grow (redrawn w2 d) os).cell? ⟨w.heap.size, 0, none⟩ = some (.string X) ∧ (Sort.grow (redrawn w2 d) os).cell? ⟨w.heap.size, 1, none⟩ = some (.int .u32 (n : Int)) ∧ (Sort.grow (redrawn w2 d) os).cell? ⟨w.heap.size, 2, none⟩ = some (.bool g) := fun d os => HB.out _ (Below.next hb2 (below_regrown w2 d os))
  have k4 := fun d os => (k3 d os).1
  have k5 := fun d os => (k3 d os).2.1
  have k6 := fun d os => (k3 d os).2.2
  clear k3 q8 q9 q10 q11
  refine wp_region_quiet_below (by kernel_rfl) (by kernel_rfl) ?_
  repeat (quiet_step (first | (go_at_call 10; with_reducible exact hq10 _ _) | (go_at_call 11; with_reducible exact hq11 _ _)))
  refine wpQuiet_nil ?_
  intro _ hw'
  obtain ⟨⟨dq, osq⟩, hw''⟩ := hw'
  subst hw''
  have hb3 := Below.next hb2 (below_regrown w2 dq osq)
  clear hq10 hq11 k0 k1 k2 k4 k5 k6 hb2
  generalize Sort.grow (redrawn w2 dq) osq = w3 at hb3 ⊢
  have hs1 : ¬ 9223372036854775807 < 1 + S.size := by omega
  have z1 : ((⟨#[1]⟩ : ByteArray) ++ S).size ≤ 1000000 := by rw [ByteArray.size_append]; show 1 + S.size ≤ _; omega
  have z2 : ((⟨#[2]⟩ : ByteArray) ++ S).size ≤ 1000000 := by rw [ByteArray.size_append]; show 1 + S.size ≤ _; omega
  have z3 : S.size ≤ 1000000 := by omega
  have z4 : P.size ≤ 1000000 := by omega
  go_wp2
  generalize (⟨#[1]⟩ : ByteArray) ++ S = A at z1 ⊢
  generalize (⟨#[2]⟩ : ByteArray) ++ S = B at z2 ⊢
  go_loopw [67] (fun s67 wr => ∃ k : Nat, k ≤ 4 ∧ s67 = .int .i64 k ∧ RowKit.Below W0.heap.size W0 wr) (fun s67 _ => 4 - (intOf s67).toNat)
  case atStart => exact ⟨0, by omega, rfl, hb3⟩
  case round =>
    clear hb3
    obtain ⟨k, hk, rfl, hb⟩ := hrel
    by_cases hlt : k < 4
    · have q12 := fun T W (h : T.size ≤ 1000000) => eget_any T W h
      have q13 := fun T W (h : T.size ≤ 1000000) => erefGet_any T W h
      rcases (show k = 0 ∨ k = 1 ∨ k = 2 ∨ k = 3 by omega) with rfl | rfl | rfl | rfl
      · obtain ⟨⟨z, c⟩, hz⟩ : ∃ r, getT S.data.toList = r := ⟨_, rfl⟩
        have p12 := fun W => q12 S W z3
        have p13 := fun W => q13 S W z3
        have x0 := four_0 (.string S) (.string P) (.string A) (.string B)
        rw [hz] at p12 p13
        unfold gotE enc at p12 p13
        simp only at p12 p13
        clear hz q12 q13
        go_wp2_with (first
          | (go_at_call 12; (with_reducible refine (p12 _).mono ?_); rintro e w4 ⟨rfl, hb4⟩; have hb := Below.next hb hb4)
          | (go_at_call 13; (with_reducible refine (p13 _).mono ?_); rintro e w5 ⟨rfl, hb5⟩; have hz5 : w4.heap.size < w5.heap.size := (by have := hb5.size; simp at this; omega); obtain ⟨b0, b1, b2⟩ := box_kept hb5; have hb := Below.next (below_alloc' hb) hb5))
        exact ⟨⟨1, by omega, rfl, below_alloc' hb⟩, by simp [intOf]⟩
      · obtain ⟨⟨z, c⟩, hz⟩ : ∃ r, getT P.data.toList = r := ⟨_, rfl⟩
        have p12 := fun W => q12 P W z4
        have p13 := fun W => q13 P W z4
        have x0 := four_1 (.string S) (.string P) (.string A) (.string B)
        rw [hz] at p12 p13
        unfold gotE enc at p12 p13
        simp only at p12 p13
        clear hz q12 q13
        go_wp2_with (first
          | (go_at_call 12; (with_reducible refine (p12 _).mono ?_); rintro e w4 ⟨rfl, hb4⟩; have hb := Below.next hb hb4)
          | (go_at_call 13; (with_reducible refine (p13 _).mono ?_); rintro e w5 ⟨rfl, hb5⟩; have hz5 : w4.heap.size < w5.heap.size := (by have := hb5.size; simp at this; omega); obtain ⟨b0, b1, b2⟩ := box_kept hb5; have hb := Below.next (below_alloc' hb) hb5))
        exact ⟨⟨2, by omega, rfl, below_alloc' hb⟩, by simp [intOf]⟩
      · obtain ⟨⟨z, c⟩, hz⟩ : ∃ r, getT A.data.toList = r := ⟨_, rfl⟩
        have p12 := fun W => q12 A W z1
        have p13 := fun W => q13 A W z1
        have x0 := four_2 (.string S) (.string P) (.string A) (.string B)
        rw [hz] at p12 p13
        unfold gotE enc at p12 p13
        simp only at p12 p13
        clear hz q12 q13
        go_wp2_with (first
          | (go_at_call 12; (with_reducible refine (p12 _).mono ?_); rintro e w4 ⟨rfl, hb4⟩; have hb := Below.next hb hb4)
          | (go_at_call 13; (with_reducible refine (p13 _).mono ?_); rintro e w5 ⟨rfl, hb5⟩; have hz5 : w4.heap.size < w5.heap.size := (by have := hb5.size; simp at this; omega); obtain ⟨b0, b1, b2⟩ := box_kept hb5; have hb := Below.next (below_alloc' hb) hb5))
        exact ⟨⟨3, by omega, rfl, below_alloc' hb⟩, by simp [intOf]⟩
      · obtain ⟨⟨z, c⟩, hz⟩ : ∃ r, getT B.data.toList = r := ⟨_, rfl⟩
        have p12 := fun W => q12 B W z2
        have p13 := fun W => q13 B W z2
        have x0 := four_3 (.string S) (.string P) (.string A) (.string B)
        rw [hz] at p12 p13
        unfold gotE enc at p12 p13
        simp only at p12 p13
        clear hz q12 q13
        go_wp2_with (first
          | (go_at_call 12; (with_reducible refine (p12 _).mono ?_); rintro e w4 ⟨rfl, hb4⟩; have hb := Below.next hb hb4)
          | (go_at_call 13; (with_reducible refine (p13 _).mono ?_); rintro e w5 ⟨rfl, hb5⟩; have hz5 : w4.heap.size < w5.heap.size := (by have := hb5.size; simp at this; omega); obtain ⟨b0, b1, b2⟩ := box_kept hb5; have hb := Below.next (below_alloc' hb) hb5))
        exact ⟨⟨4, by omega, rfl, below_alloc' hb⟩, by simp [intOf]⟩
    · go_wp2
      go_loopw [17] (fun s17 wr => ∃ k : Nat, k ≤ 10 ∧ s17 = .int .i64 ((7 * k : Nat) : Int) ∧ RowKit.Below W0.heap.size W0 wr) (fun s17 _ => 70 - (intOf s17).toNat)
      case atStart => exact ⟨0, by omega, rfl, hb⟩
      case round =>
        clear hb
        obtain ⟨k, hk, rfl, hb⟩ := hrel
        obtain ⟨j, hj⟩ : ∃ j, 7 * k = j := ⟨_, rfl⟩
        rw [hj]
        by_cases hlt : k < 10
        · have hd : decide ((j : Int) < 64) = true := decide_eq_true (by omega)
          have hj2 : j < 64 := by omega
          have ec : ((v : Int) / 2 ^ j) = ((v / 2 ^ j : Nat) : Int) := by rw [Int.natCast_ediv, Int.natCast_pow]; rfl
          have p14 : ∀ W, Calls Try.prog 14 #[.string S, .int .u64 ((v : Int) / 2 ^ j)] W fun z w' => z = .returned (ofE (ofT S (v / 2 ^ j))) ∧ RowKit.Below W.heap.size W w' := fun W => by rw [ec]; exact of_any S (v / 2 ^ j) W (Nat.lt_of_le_of_lt (Nat.div_le_self _ _) hv)
          have p15 : ∀ W, Calls Try.prog 15 #[.string S, .int .u64 ((v : Int) / 2 ^ j)] W fun z w' => z = .returned (ofE (ofT S (v / 2 ^ j))) ∧ RowKit.Below W.heap.size W w' := fun W => by rw [ec]; exact refOf_any S (v / 2 ^ j) W (Nat.lt_of_le_of_lt (Nat.div_le_self _ _) hv)
          obtain ⟨⟨z, t⟩, hz⟩ : ∃ r, ofT S (v / 2 ^ j) = r := ⟨_, rfl⟩
          rw [hz] at p14 p15
          unfold ofE enc at p14 p15
          simp only at p14 p15
          have HJ := Lib.hid hj
          clear hz ec hj
          go_wp2_with (first
            | (go_at_call 14; (with_reducible refine (p14 _).mono ?_); rintro e w4 ⟨rfl, hb4⟩; have hb := Below.next hb hb4)
            | (go_at_call 15; (with_reducible refine (p15 _).mono ?_); rintro e w5 ⟨rfl, hb5⟩; have hz5 : w4.heap.size < w5.heap.size := (by have := hb5.size; simp at this; omega); obtain ⟨b0, b1, b2⟩ := box_kept hb5; have hb := Below.next (below_alloc' hb) hb5))
          have hj := HJ.out
          exact ⟨⟨k + 1, by omega, congrArg (Value.int .i64) (by omega), below_alloc' hb⟩, by simp [intOf]; omega⟩
        · have hd : decide ((j : Int) < 64) = false := decide_eq_false (by omega)
          go_wp2_with (go_at_call 16; (with_reducible refine (works_any _).mono ?_); rintro e w6 ⟨rfl, hb6⟩)
          go_ret
          exact ⟨rfl, Below.next hb0 (Below.next hb hb6)⟩
end Go.Proofs.Ytfnmmnbndfdpiaa

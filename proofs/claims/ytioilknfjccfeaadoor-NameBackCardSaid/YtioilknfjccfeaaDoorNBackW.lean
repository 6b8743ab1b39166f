/-
  NameBack: the walk.
-/
import Derived.Test.YtioilknfjccfeaaDoorNBackM
namespace Go.Proofs.YtioilknfjccfeaaDoor
open Go.RowKit Go.Sort

theorem three_0 (a b c : Value) (w : World) : (Instr.index 39 (.agg #[a, b, c]) (.int .i64 0)).run Tryd.prog w = .ok a w := by kernel_rfl
theorem three_1 (a b c : Value) (w : World) : (Instr.index 39 (.agg #[a, b, c]) (.int .i64 1)).run Tryd.prog w = .ok b w := by kernel_rfl
theorem three_2 (a b c : Value) (w : World) : (Instr.index 39 (.agg #[a, b, c]) (.int .i64 2)).run Tryd.prog w = .ok c w := by kernel_rfl
theorem three_at (a b c : ByteArray) (j : Nat) (h : j < 3) (w : World) : (Instr.index 39 (.agg #[.string a, .string b, .string c]) (.int .i64 (j : Int))).run Tryd.prog w = .ok (.string ([a, b, c].getD j ⟨#[]⟩)) w := by
  rcases (show j = 0 ∨ j = 1 ∨ j = 2 by omega) with rfl | rfl | rfl
  · exact three_0 _ _ _ w
  · exact three_1 _ _ _ w
  · exact three_2 _ _ _ w

set_option maxHeartbeats 4000000 in
set_option maxRecDepth 100000 in
theorem nameBack_walk (a b : Nat) (s : ByteArray) (w : World) (hT : Tabs w) (ha : a < 4294967296) (hb : b < 4294967296) (hs : s.size ≤ 9223372036854775807) :
    Calls Tryd.prog 4 #[.int .u32 (a : Int), .int .u32 (b : Int), .string s] w fun e w' => e = .returned (.bool true) ∧ Below w.heap.size w w' := by
  have HT := Lib.hid (fun W (hW : Below w.heap.size w W) => hT.below hW)
  have W1 := Lib.hid (works_any w hT)
  obtain ⟨n, hn⟩ : ∃ n : Nat, (1 : Int) + (a : Int) % 1000000000 = (n : Int) := ⟨1 + a % 1000000000, by omega⟩
  obtain ⟨m, hm⟩ : ∃ m : Nat, (1 : Int) + (b : Int) % 1000000000 = (m : Int) := ⟨1 + b % 1000000000, by omega⟩
  have HN : Hid (1 ≤ n ∧ n ≤ 1000000000) := Lib.hid (by omega)
  have HM : Hid (1 ≤ m ∧ m ≤ 1000000000) := Lib.hid (by omega)
  clear hT
  go_enter Tryd.func4, Tryd.ntmps4
  go_wp2_with (go_at_call 15; (with_reducible refine W1.out.mono ?_); rintro e w1 ⟨rfl, hb1⟩; have HB1 := Lib.hid hb1; clear hb1)
  have HB0 := Lib.hid (Below.refl w.heap.size w)
  have C11 : Hid (∀ W, Below w.heap.size w W → ∀ k n : Nat, (k = 3 ∨ k = 4) → Calls Tryd.prog 11 #[.int .i64 (k : Int), .int .i64 (n : Int)] W fun e w' => e = .returned (.string (Plain.makeT k n)) ∧ Below W.heap.size W w') := Lib.hid fun W hW k n _ => make_any k n W (HT.out W hW)
  have C16 : Hid (∀ W, Below w.heap.size w W → ∀ k n : Nat, (k = 3 ∨ k = 4) → (1 ≤ n ∧ n ≤ 1000000000) → Calls Tryd.prog 16 #[.string (Plain.makeT k n), .int .i64 (k : Int), .int .i64 (n : Int)] W fun e w' => e = .returned (.bool true) ∧ Below W.heap.size W w') := Lib.hid fun W hW k n hk hn => by
    have := known_any (Plain.makeT k n) k n (by have := Plain.make_size_any k n; omega) W (HT.out W hW)
    rw [Plain.parse_made hk hn.1 hn.2] at this
    simpa using this
  have C13 : Hid (∀ W, Below w.heap.size w W → ∀ k : Nat, (k = 3 ∨ k = 4) → Calls Tryd.prog 13 #[.int .i64 (k : Int), .slice (some ⟨W.heap.size, 0, none⟩) 4 4] (W.alloc (.cells #[.string (Plain.makeT k n), .string (Plain.makeT k m), .string (Plain.makeT k n), .string ⟨#[109, 97, 110, 105, 102, 101, 115, 116]⟩] 9)) fun e w' => (∃ r, e = .returned r ∧ Ints w' r (Plain.pairT n m)) ∧ Below W.heap.size W w') := Lib.hid fun W hW k hk =>
    numbers_lit k [Plain.makeT k n, Plain.makeT k m, Plain.makeT k n, Plain.man] 4 W 9 (Plain.pairT n m) (HT.out W hW) rfl (by
      intro x hx
      have h1 := Plain.make_size_any k n
      have h2 := Plain.make_size_any k m
      simp only [List.mem_cons, List.not_mem_nil, or_false] at hx
      rcases hx with rfl | rfl | rfl | rfl
      · omega
      · omega
      · omega
      · decide) (by omega) (Plain.pair_nums hk HN.out HM.out)
  have C17 := Lib.hid (fun W => pair_any n m HN.out.2 HM.out.2 W)
  have C12 : Hid (∀ W r r', Ints W r (Plain.pairT n m) → Ints W r' (Plain.pairT n m) → Calls Tryd.prog 12 #[r, r'] W fun e w' => e = .returned (.bool true) ∧ Below W.heap.size W w') := Lib.hid fun W r r' h h' => by
    have hl : (Plain.pairT n m).length ≤ 2 := by unfold Plain.pairT; split <;> simp
    have := ints_any _ _ r r' W h h' (by omega) (by omega)
    simpa using this
  have hnm : n = m ∨ n < m ∨ m < n := by omega
  have HNM := Lib.hid hnm
  have HMAKE := Lib.hid (fun (k : Nat) (hk : k = 3 ∨ k = 4) (h : n < m) => Plain.make_longer hk HN.out HM.out h)
  have HINJ := Lib.hid (fun (k : Nat) (hk : k = 3 ∨ k = 4) (e : Plain.makeT k n = Plain.makeT k m) => Plain.make_inj hk HN.out HM.out e)
  clear hn hm hnm HB0
  go_loopw [9] (fun s9 wr => ∃ k : Nat, 3 ≤ k ∧ k ≤ 5 ∧ s9 = .int .i64 k ∧ Below w.heap.size w wr) (fun s9 _ => 5 - (intOf s9).toNat)
  case atStart => exact ⟨3, by omega, by omega, rfl, HB1.out⟩
  case round =>
    obtain ⟨k, hk3, hk5, rfl, hb⟩ := hrel
    have HB := Lib.hid hb
    clear hb
    by_cases hlt : k < 5
    · have e27 : decide ((k : Int) ≤ 4) = true := decide_eq_true (by omega)
      have hk4 : (k : Int) ≤ 4 := by omega
      have hk : k = 3 ∨ k = 4 := by omega
      have D11 := Lib.hid (fun W (hW : Below w.heap.size w W) (z : Nat) => C11.out W hW k z hk)
      have D16 := Lib.hid (fun W (hW : Below w.heap.size w W) => C16.out W hW k n hk HN.out)
      have D13 := Lib.hid (fun W (hW : Below w.heap.size w W) => C13.out W hW k hk)
      have hX14 : (Plain.makeT k n).size ≤ 14 := Plain.make_size_any k n
      have hlong := HMAKE.out k hk
      have hinj := HINJ.out k hk
      have hbq := toList_beq (Plain.makeT k n) (Plain.makeT k m)
      obtain ⟨X, hX⟩ : ∃ X, Plain.makeT k n = X := ⟨_, rfl⟩
      obtain ⟨Y, hY⟩ : ∃ Y, Plain.makeT k m = Y := ⟨_, rfl⟩
      have E11 : Hid (∀ W, Below w.heap.size w W → Calls Tryd.prog 11 #[.int .i64 (k : Int), .int .i64 (m : Int)] W fun e w' => e = .returned (.string Y) ∧ Below W.heap.size W w') := Lib.hid fun W hW => by have := D11.out W hW m; rw [hY] at this; exact this
      have D11 : Hid (∀ W, Below w.heap.size w W → Calls Tryd.prog 11 #[.int .i64 (k : Int), .int .i64 (n : Int)] W fun e w' => e = .returned (.string X) ∧ Below W.heap.size W w') := Lib.hid fun W hW => by have := D11.out W hW n; rw [hX] at this; exact this
      rw [hX] at hX14 hlong hinj hbq D16
      rw [hY] at hlong hinj hbq
      rw [hX, hY] at D13
      have hx14 : ¬ (14 : Int) < (X.size : Int) := by omega
      have hx14' : (X.size : Int) ≤ 14 := by omega
      have HXY : n = m → X = Y := fun e => by rw [← hX, ← hY, e]
      clear hX hY hk hX14
      rcases HNM.out with hnm | hnm | hnm
      · have hxy : X = Y := HXY hnm
        have b1 : (X.toList == Y.toList) = true := by rw [hbq]; exact decide_eq_true hxy
        have b2 : ((n : Int) == (m : Int)) = true := by simp; omega
        have b3 : ¬ (n : Int) < (m : Int) := by omega
        clear hlong hinj hbq hxy hnm HXY
        go_wp2_with (first
          | (go_at_call 11; first
              | ((with_reducible refine (D11.out _ HB.out).mono ?_); rintro e w2 ⟨rfl, hb2⟩; have H2 := Lib.hid (Below.next HB.out hb2); clear hb2)
              | ((with_reducible refine (E11.out _ H2.out).mono ?_); rintro e w3 ⟨rfl, hb2⟩; have H3 := Lib.hid (Below.next H2.out hb2); clear hb2))
          | (go_at_call 16; (with_reducible refine (D16.out _ H3.out).mono ?_); rintro e w4 ⟨rfl, hb2⟩; have H4 := Lib.hid (Below.next H3.out hb2); clear hb2)
          | (go_at_call 13; (with_reducible refine (D13.out _ H4.out).mono ?_); rintro e w5 ⟨⟨r, rfl, hr⟩, hb2⟩; have HR := Lib.hid hr; have H5 := Lib.hid (Below.next H4.out hb2); clear hb2 hr)
          | (go_at_call 17; (with_reducible refine (C17.out _).mono ?_); rintro e w6 ⟨⟨r', rfl, hr⟩, hb2⟩; have HR' := Lib.hid hr; have HR2 := Lib.hid (HR.out.below hb2); have H6 := Lib.hid (Below.next H5.out hb2); clear hb2 hr)
          | (go_at_call 12; (with_reducible refine (C12.out _ _ _ HR2.out HR'.out).mono ?_); rintro e w7 ⟨rfl, hb2⟩; have H7 := Lib.hid (Below.next H6.out hb2); clear hb2))
        exact ⟨⟨k + 1, by omega, by omega, by go_num, H7.out⟩, by simp [intOf]; omega⟩
      · have hne : ¬ X = Y := fun e => by have := hinj e; omega
        have b1 : (X.toList == Y.toList) = false := by rw [hbq]; exact decide_eq_false hne
        have b2 : ((n : Int) == (m : Int)) = false := by simp; omega
        have b3 : (n : Int) < (m : Int) := by omega
        have b4 : ¬ (Y.size : Int) < (X.size : Int) := by have := hlong hnm; omega
        clear hlong hinj hbq hne hnm HXY
        go_wp2_with (first
          | (go_at_call 11; first
              | ((with_reducible refine (D11.out _ HB.out).mono ?_); rintro e w2 ⟨rfl, hb2⟩; have H2 := Lib.hid (Below.next HB.out hb2); clear hb2)
              | ((with_reducible refine (E11.out _ H2.out).mono ?_); rintro e w3 ⟨rfl, hb2⟩; have H3 := Lib.hid (Below.next H2.out hb2); clear hb2))
          | (go_at_call 16; (with_reducible refine (D16.out _ H3.out).mono ?_); rintro e w4 ⟨rfl, hb2⟩; have H4 := Lib.hid (Below.next H3.out hb2); clear hb2)
          | (go_at_call 13; (with_reducible refine (D13.out _ H4.out).mono ?_); rintro e w5 ⟨⟨r, rfl, hr⟩, hb2⟩; have HR := Lib.hid hr; have H5 := Lib.hid (Below.next H4.out hb2); clear hb2 hr)
          | (go_at_call 17; (with_reducible refine (C17.out _).mono ?_); rintro e w6 ⟨⟨r', rfl, hr⟩, hb2⟩; have HR' := Lib.hid hr; have HR2 := Lib.hid (HR.out.below hb2); have H6 := Lib.hid (Below.next H5.out hb2); clear hb2 hr)
          | (go_at_call 12; (with_reducible refine (C12.out _ _ _ HR2.out HR'.out).mono ?_); rintro e w7 ⟨rfl, hb2⟩; have H7 := Lib.hid (Below.next H6.out hb2); clear hb2))
        exact ⟨⟨k + 1, by omega, by omega, by go_num, H7.out⟩, by simp [intOf]; omega⟩
      · have hne : ¬ X = Y := fun e => by have := hinj e; omega
        have b1 : (X.toList == Y.toList) = false := by rw [hbq]; exact decide_eq_false hne
        have b2 : ((n : Int) == (m : Int)) = false := by simp; omega
        have b3 : ¬ (n : Int) < (m : Int) := by omega
        clear hlong hinj hbq hne hnm HXY
        go_wp2_with (first
          | (go_at_call 11; first
              | ((with_reducible refine (D11.out _ HB.out).mono ?_); rintro e w2 ⟨rfl, hb2⟩; have H2 := Lib.hid (Below.next HB.out hb2); clear hb2)
              | ((with_reducible refine (E11.out _ H2.out).mono ?_); rintro e w3 ⟨rfl, hb2⟩; have H3 := Lib.hid (Below.next H2.out hb2); clear hb2))
          | (go_at_call 16; (with_reducible refine (D16.out _ H3.out).mono ?_); rintro e w4 ⟨rfl, hb2⟩; have H4 := Lib.hid (Below.next H3.out hb2); clear hb2)
          | (go_at_call 13; (with_reducible refine (D13.out _ H4.out).mono ?_); rintro e w5 ⟨⟨r, rfl, hr⟩, hb2⟩; have HR := Lib.hid hr; have H5 := Lib.hid (Below.next H4.out hb2); clear hb2 hr)
          | (go_at_call 17; (with_reducible refine (C17.out _).mono ?_); rintro e w6 ⟨⟨r', rfl, hr⟩, hb2⟩; have HR' := Lib.hid hr; have HR2 := Lib.hid (HR.out.below hb2); have H6 := Lib.hid (Below.next H5.out hb2); clear hb2 hr)
          | (go_at_call 12; (with_reducible refine (C12.out _ _ _ HR2.out HR'.out).mono ?_); rintro e w7 ⟨rfl, hb2⟩; have H7 := Lib.hid (Below.next H6.out hb2); clear hb2))
        exact ⟨⟨k + 1, by omega, by omega, by go_num, H7.out⟩, by simp [intOf]; omega⟩
    · have e27 : decide ((k : Int) ≤ 4) = false := decide_eq_false (by omega)
      have hk4 : ¬ (k : Int) ≤ 4 := by omega
      clear C11 C16 C13 C17 C12 HMAKE HINJ HNM hlt e27
      obtain ⟨kp, hkp⟩ : ∃ kp, min s.size 30 = kp := ⟨_, rfl⟩
      have m1 : min (s.size : Int) 30 = (kp : Int) := by omega
      have m2 : (kp : Int) ≤ (s.size : Int) := by omega
      have m3 : kp ≤ s.size := by omega
      have m4 : kp ≤ 30 := by omega
      have hsz : (s.extract 0 kp).size ≤ 30 := by rw [ByteArray.size_extract]; omega
      clear hkp
      go_wp2
      obtain ⟨A0, hA0⟩ : ∃ A0, s.extract 0 kp = A0 := ⟨_, rfl⟩
      obtain ⟨A1, hA1⟩ : ∃ A1, (⟨#[119, 97, 108, 45]⟩ : ByteArray) ++ A0 = A1 := ⟨_, rfl⟩
      obtain ⟨A2, hA2⟩ : ∃ A2, (⟨#[115, 101, 103, 45]⟩ : ByteArray) ++ A0 = A2 := ⟨_, rfl⟩
      rw [hA0] at hsz ⊢
      rw [hA1, hA2]
      have hs1 : A1.size ≤ 34 := by rw [← hA1, ba_size_append]; show 4 + A0.size ≤ 34; omega
      have hs2 : A2.size ≤ 34 := by rw [← hA2, ba_size_append]; show 4 + A0.size ≤ 34; omega
      have HSZ : Hid (∀ j, j < 3 → ([A0, A1, A2].getD j ⟨#[]⟩).size ≤ 34) := Lib.hid fun j hj => by
        rcases (show j = 0 ∨ j = 1 ∨ j = 2 by omega) with rfl | rfl | rfl
        · show A0.size ≤ 34; omega
        · exact hs1
        · exact hs2
      have HTH := Lib.hid (fun (j : Nat) (hj : j < 3) (W : World) => three_at A0 A1 A2 j hj W)
      clear hA0 hA1 hA2 hs1 hs2 hsz m1 m2 m3 m4 hk4 hk3 hk5
      go_loopw [91] (fun s91 wq => ∃ j : Nat, j ≤ 3 ∧ s91 = .int .i64 j ∧ Below w.heap.size w wq) (fun s91 _ => 3 - (intOf s91).toNat)
      case atStart => exact ⟨0, by omega, rfl, HB.out⟩
      case round =>
        obtain ⟨j, hj, rfl, hb⟩ := hrel
        have HB := Lib.hid hb
        clear hb
        by_cases hlt : j < 3
        · have e92 : decide ((j : Int) < 3) = true := decide_eq_true (by omega)
          have hj3 : (j : Int) < 3 := by omega
          have x93 := HTH.out j hlt wr
          have hsz := HSZ.out j hlt
          obtain ⟨t, ht⟩ : ∃ t, [A0, A1, A2].getD j ⟨#[]⟩ = t := ⟨_, rfl⟩
          rw [ht] at x93 hsz
          have Q9 := Lib.hid (parse_any t (by omega) wr (HT.out _ HB.out))
          have hz := Plain.parse_zero (s := t)
          have hmk := Plain.made_of_parse (s := t)
          obtain ⟨⟨x, y⟩, hp⟩ : ∃ p, Plain.parseT t = p := ⟨_, rfl⟩
          rw [hp] at Q9 hz hmk
          simp only at Q9 hz hmk
          clear hp ht
          by_cases hx : x = 0
          · have hy := hz hx
            subst hx hy
            clear hz hmk
            go_wp2_with (go_at_call 9; (with_reducible refine Q9.out.mono ?_); rintro e w2 ⟨rfl, hb2⟩; have H2 := Lib.hid (Below.next HB.out hb2); clear hb2)
            exact ⟨⟨j + 1, by omega, by go_num, H2.out⟩, by simp [intOf]; omega⟩
          · have hM := hmk hx
            have b1 : ((x : Int) != 0) = true := by simp; omega
            have b2 : ((x : Int) == 0) = false := by simp; omega
            have b3 : ¬ (x : Int) = 0 := by omega
            have Q11 : Hid (∀ W, Below w.heap.size w W → Calls Tryd.prog 11 #[.int .i64 (x : Int), .int .i64 (y : Int)] W fun e w' => e = .returned (.string t) ∧ Below W.heap.size W w') := Lib.hid fun W hW => by
              have := make_any x y W (HT.out W hW)
              rw [hM] at this
              exact this
            clear hz hmk hM hx
            go_wp2_with (first
              | (go_at_call 9; (with_reducible refine Q9.out.mono ?_); rintro e w2 ⟨rfl, hb2⟩; have H2 := Lib.hid (Below.next HB.out hb2); clear hb2)
              | (go_at_call 11; (with_reducible refine (Q11.out _ H2.out).mono ?_); rintro e w3 ⟨rfl, hb2⟩; have H3 := Lib.hid (Below.next H2.out hb2); clear hb2))
            exact ⟨⟨j + 1, by omega, by go_num, H3.out⟩, by simp [intOf]; omega⟩
        · have e92 : decide ((j : Int) < 3) = false := decide_eq_false (by omega)
          have hj3 : ¬ (j : Int) < 3 := by omega
          go_wp2
          go_ret
          exact ⟨rfl, HB.out⟩
end Go.Proofs.YtioilknfjccfeaaDoor

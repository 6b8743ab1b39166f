/-
  name.Parse.
-/
import Derived.Test.YtioilknfjccfeaaDoorNMake
namespace Go.Proofs.YtioilknfjccfeaaDoor
open Go.RowKit Go.Sort

theorem five_0 (a b c d f : Value) (w : World) : (Instr.index 46 (.agg #[a, b, c, d, f]) (.int .i64 0)).run Tryd.prog w = .ok a w := by kernel_rfl
theorem five_1 (a b c d f : Value) (w : World) : (Instr.index 46 (.agg #[a, b, c, d, f]) (.int .i64 1)).run Tryd.prog w = .ok b w := by kernel_rfl
theorem five_2 (a b c d f : Value) (w : World) : (Instr.index 46 (.agg #[a, b, c, d, f]) (.int .i64 2)).run Tryd.prog w = .ok c w := by kernel_rfl
theorem five_3 (a b c d f : Value) (w : World) : (Instr.index 46 (.agg #[a, b, c, d, f]) (.int .i64 3)).run Tryd.prog w = .ok d w := by kernel_rfl
theorem five_4 (a b c d f : Value) (w : World) : (Instr.index 46 (.agg #[a, b, c, d, f]) (.int .i64 4)).run Tryd.prog w = .ok f w := by kernel_rfl

/-- The array of texts, as a value. -/
def textsV : Value := .agg #[.string (Plain.headT 0), .string (Plain.headT 1), .string (Plain.headT 2), .string (Plain.headT 3), .string (Plain.headT 4)]

theorem texts_at (j : Nat) (h : j < 5) (w : World) : (Instr.index 46 textsV (.int .i64 (j : Int))).run Tryd.prog w = .ok (.string (Plain.headT j)) w := by
  rcases (show j = 0 ∨ j = 1 ∨ j = 2 ∨ j = 3 ∨ j = 4 by omega) with rfl | rfl | rfl | rfl | rfl
  · exact five_0 _ _ _ _ _ w
  · exact five_1 _ _ _ _ _ w
  · exact five_2 _ _ _ _ _ w
  · exact five_3 _ _ _ _ _ w
  · exact five_4 _ _ _ _ _ w

/-- What is left behind the beginning of kind j, and whether s begins so. -/
def restT (s : ByteArray) (j : Nat) : ByteArray := ⟨(Lib.trimPrefix s.data.toList (Plain.headT j).data.toList).toArray⟩
def beginsT (s : ByteArray) (j : Nat) : Bool := Lib.hasPrefix s.data.toList (Plain.headT j).data.toList

theorem rest_size (s : ByteArray) (j : Nat) : (restT s j).size ≤ s.size := by
  unfold restT Lib.trimPrefix
  rw [Lib.size_eq, Lib.size_eq]
  split <;> simp

theorem begins_iff {s : ByteArray} {j : Nat} : beginsT s j = true ↔ s = Plain.headT j ++ restT s j := by
  constructor
  · intro h
    have h' : (Plain.headT j).data.toList.isPrefixOf s.data.toList = true := h
    obtain ⟨t, ht⟩ := List.isPrefixOf_iff_prefix.1 h'
    apply ba_ext
    rw [ba_append]
    unfold restT Lib.trimPrefix Lib.hasPrefix
    rw [if_pos h']
    show _ = _ ++ ((s.data.toList.drop (Plain.headT j).data.toList.length).toArray).toList
    rw [← ht, List.drop_left]
  · intro h
    have := congrArg (fun x : ByteArray => x.data.toList) h
    simp only [ba_append] at this
    show (Plain.headT j).data.toList.isPrefixOf s.data.toList = true
    exact List.isPrefixOf_iff_prefix.2 ⟨_, this.symm⟩

/-- One round of Parse: is it the name of kind j? -/
theorem round_hit (s : ByteArray) (j : Nat) (hj : j < 5) :
    (beginsT s j = false → Plain.hitT s j = none) ∧
    (beginsT s j = true → Plain.makeT j (numA j (restT s j)) ≠ s → Plain.hitT s j = none) ∧
    (beginsT s j = true → Plain.makeT j (numA j (restT s j)) = s → (∀ i, 1 ≤ i → i < j → Plain.hitT s i = none) → ∃ n : Nat, numA j (restT s j) = n ∧ Plain.parseT s = (j, n)) := by
  rcases (show j = 0 ∨ j = 1 ∨ j = 2 ∨ j = 3 ∨ j = 4 by omega) with rfl | rfl | rfl | h
  · refine ⟨fun _ => rfl, fun _ _ => rfl, fun _ h _ => ⟨0, rfl, ?_⟩⟩
    have : s = Plain.nil := h.symm
    rw [this]
    exact Plain.parse_nil
  · have e : ∀ n, Plain.makeT ((1 : Nat) : Int) n = Plain.man := fun n => rfl
    rw [e]
    refine ⟨fun h => ?_, fun _ h => ?_, fun _ h hb => ⟨0, rfl, Plain.parse_hit hb ?_⟩⟩
    · unfold Plain.hitT
      rw [if_pos rfl, if_neg]
      intro e'
      rw [e'] at h
      exact absurd h (by decide)
    · unfold Plain.hitT
      rw [if_pos rfl, if_neg (fun e' => h e'.symm)]
    · unfold Plain.hitT
      rw [if_pos rfl, if_pos h.symm]
  · have e : ∀ n, Plain.makeT ((2 : Nat) : Int) n = Plain.tmp := fun n => rfl
    rw [e]
    refine ⟨fun h => ?_, fun _ h => ?_, fun _ h hb => ⟨0, rfl, Plain.parse_hit hb ?_⟩⟩
    · unfold Plain.hitT
      rw [if_neg (by decide), if_pos rfl, if_neg]
      intro e'
      rw [e'] at h
      exact absurd h (by decide)
    · unfold Plain.hitT
      rw [if_neg (by decide), if_pos rfl, if_neg (fun e' => h e'.symm)]
    · unfold Plain.hitT
      rw [if_neg (by decide), if_pos rfl, if_pos h.symm]
  · have hn : numA j (restT s j) = Plain.readN (restT s j).data.toList := by
      unfold numA numd
      rw [if_pos (by rw [decide_eq_true_eq]; omega)]
    rw [hn]
    refine ⟨fun hb => Plain.hit_none_head h s fun t ht => ?_, fun hb hne => ((Plain.hit_read h s _ (begins_iff.1 hb)).2 hne), fun hb he hall => ?_⟩
    · have : beginsT s j = true := by
        unfold beginsT Lib.hasPrefix
        rw [List.isPrefixOf_iff_prefix, ht, ba_append]
        exact ⟨_, rfl⟩
      rw [this] at hb
      cases hb
    · obtain ⟨n, h1, h2⟩ := (Plain.hit_read h s _ (begins_iff.1 hb)).1 he
      exact ⟨n, h2, Plain.parse_hit hall h1⟩

set_option maxRecDepth 100000 in
theorem parse_any (s : ByteArray) (hs : s.size ≤ 281474976710656) (w : World) (hT : Tabs w) : Calls Tryd.prog 9 #[.string s] w fun e w' => e = .returned (.tuple #[.int .i64 ((Plain.parseT s).1 : Int), .int .i64 ((Plain.parseT s).2 : Int)]) ∧ Below w.heap.size w w' := by
  have c0 := hT.texts 0 (by omega)
  have c1 := hT.texts 1 (by omega)
  have c2 := hT.texts 2 (by omega)
  have c3 := hT.texts 3 (by omega)
  have c4 := hT.texts 4 (by omega)
  have HT := Lib.hid hT
  have HN := Lib.hid (fun h => (Plain.parse_none (s := s) h))
  obtain ⟨pk, pn, hp⟩ : ∃ k n : Nat, Plain.parseT s = (k, n) := ⟨_, _, rfl⟩
  rw [hp]
  have HP := Lib.hid hp
  clear hp
  go_enter Tryd.func9, Tryd.ntmps9
  go_wp2
  rw [show Value.agg #[.string (Plain.headT 0), .string (Plain.headT 1), .string (Plain.headT 2), .string (Plain.headT 3), .string (Plain.headT 4)] = textsV from rfl]
  clear c0 c1 c2 c3 c4 hT
  go_loopw [10] (fun s10 wr => ∃ j : Nat, j ≤ 5 ∧ s10 = .int .i64 j ∧ (∀ i, 1 ≤ i → i < j → Plain.hitT s i = none) ∧ Below w.heap.size w wr) (fun s10 _ => 5 - (intOf s10).toNat)
  case atStart => exact ⟨0, by omega, rfl, fun i _ _ => by omega, Below.refl _ _⟩
  case round =>
    obtain ⟨j, hj, rfl, hall, hb⟩ := hrel
    have HA := Lib.hid hall
    have HB := Lib.hid hb
    have hT := HT.out.below hb
    clear hall
    by_cases hlt : j < 5
    · have x13 := texts_at j hlt wr
      have HR := Lib.hid (round_hit s j hlt)
      have hbT : ∃ b t, beginsT s j = b ∧ restT s j = t := ⟨_, _, rfl, rfl⟩
      have q20 : Calls Tryd.prog 20 #[.string s, .string (Plain.headT j)] wr fun e w' => e = .returned (.tuple #[.string (restT s j), .bool (beginsT s j)]) ∧ w' = wr := Tryd.strings_CutPrefix s (Plain.headT j) wr
      have q21 := number_any j (restT s j) (Nat.le_trans (rest_size s j) hs) wr hT
      have q11 : ∀ W, Below wr.heap.size wr W → Calls Tryd.prog 11 #[.int .i64 (j : Int), .int .i64 (numA j (restT s j))] W fun e w' => e = .returned (.string (Plain.makeT j (numA j (restT s j)))) ∧ Below W.heap.size W w' := fun W hW => make_any j (numA j (restT s j)) W (hT.below hW)
      obtain ⟨M, hM⟩ : ∃ M, Plain.makeT j (numA j (restT s j)) = M := ⟨_, rfl⟩
      obtain ⟨z, hz⟩ : ∃ z, numA j (restT s j) = z := ⟨_, rfl⟩
      have HE := Lib.hid (toList_beq M s)
      have e11 : decide ((j : Int) < 5) = true := decide_eq_true (by omega)
      have hj5 : (j : Int) < 5 := by omega
      rw [hM] at q11 HR
      rw [hz] at q11 q21 HR
      have Q11 := Lib.hid q11
      generalize restT s j = t at q20 q21
      generalize Plain.headT j = A at x13 q20
      clear q11 hbT hb hM hz
      cases hbb : beginsT s j with
      | false =>
        rw [hbb] at q20
        have HN := Lib.hid (HR.out.1 hbb)
        clear hbb
        go_wp2_with (first
          | (go_at_call 20; (with_reducible refine q20.mono ?_); rintro e w' ⟨rfl, rfl⟩))
        refine ⟨⟨j + 1, by omega, by go_num, fun i h0 h1 => ?_, HB.out⟩, by simp [intOf]; omega⟩
        by_cases h : i = j
        · subst h; exact HN.out
        · exact HA.out i h0 (by omega)
      | true =>
        rw [hbb] at q20
        have HR2 := Lib.hid (HR.out.2.1 hbb)
        have HR3 := Lib.hid (HR.out.2.2 hbb)
        clear hbb
        by_cases hMs : M = s
        · have hbeq : (M.toList == s.toList) = true := by rw [HE.out]; exact decide_eq_true hMs
          obtain ⟨n, hn, hpn⟩ := HR3.out hMs HA.out
          rw [HP.out] at hpn
          cases hpn
          have HM := Lib.hid hMs
          clear hMs
          subst hn
          go_wp2_with (first
            | (go_at_call 20; (with_reducible refine q20.mono ?_); rintro e w' ⟨rfl, rfl⟩)
            | (go_at_call 21; (with_reducible refine q21.mono ?_); rintro e w2 ⟨rfl, hb2⟩; have HB2 := Lib.hid hb2; clear hb2)
            | (go_at_call 11; (with_reducible refine (Q11.out _ HB2.out).mono ?_); rintro e w3 ⟨rfl, hb3⟩; have HB3 := Lib.hid (Below.next HB.out (Below.next HB2.out hb3)); clear hb3))
          go_ret2
          exact ⟨rfl, HB3.out⟩
        · have hbeq : (M.toList == s.toList) = false := by rw [HE.out]; exact decide_eq_false hMs
          have HN := Lib.hid (HR2.out hMs)
          clear hMs
          go_wp2_with (first
            | (go_at_call 20; (with_reducible refine q20.mono ?_); rintro e w' ⟨rfl, rfl⟩)
            | (go_at_call 21; (with_reducible refine q21.mono ?_); rintro e w2 ⟨rfl, hb2⟩; have HB2 := Lib.hid hb2; clear hb2)
            | (go_at_call 11; (with_reducible refine (Q11.out _ HB2.out).mono ?_); rintro e w3 ⟨rfl, hb3⟩; have HB3 := Lib.hid (Below.next HB.out (Below.next HB2.out hb3)); clear hb3))
          refine ⟨⟨j + 1, by omega, by go_num, fun i h0 h1 => ?_, HB3.out⟩, by simp [intOf]; omega⟩
          by_cases h : i = j
          · subst h; exact HN.out
          · exact HA.out i h0 (by omega)
    · have e11 : decide ((j : Int) < 5) = false := decide_eq_false (by omega)
      have hj5 : ¬ (j : Int) < 5 := by omega
      have hpn := HN.out fun i h0 h5 => HA.out i h0 (by omega)
      rw [HP.out] at hpn
      cases hpn
      clear hb
      go_wp2
      go_ret2
      exact ⟨rfl, HB.out⟩
end Go.Proofs.YtioilknfjccfeaaDoor

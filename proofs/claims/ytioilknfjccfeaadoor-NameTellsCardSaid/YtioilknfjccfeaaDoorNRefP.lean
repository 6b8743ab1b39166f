/-
  The document's Parse.
-/
import Derived.Test.YtioilknfjccfeaaDoorNRef
namespace Go.Proofs.YtioilknfjccfeaaDoor
open Go.RowKit Go.Sort

namespace Plain
theorem make12 {k : Nat} (h : k = 1 ∨ k = 2) (s : ByteArray) : (makeT k 0 = s → hitT s k = some 0) ∧ (makeT k 0 ≠ s → hitT s k = none) := by
  rcases h with rfl | rfl
  · have e : makeT ((1 : Nat) : Int) 0 = man := rfl
    rw [e]
    unfold hitT
    rw [if_pos rfl]
    exact ⟨fun h => if_pos h.symm, fun h => if_neg fun e => h e.symm⟩
  · have e : makeT ((2 : Nat) : Int) 0 = tmp := rfl
    rw [e]
    unfold hitT
    rw [if_neg (by decide), if_pos rfl]
    exact ⟨fun h => if_pos h.symm, fun h => if_neg fun e => h e.symm⟩

theorem numT_snoc (l : List UInt8) (b : UInt8) : numT (l ++ [b]) = 10 * numT l + (b.toNat - 48) := by unfold numT; rw [List.foldl_append]; rfl

theorem num1_lt : ∀ (l : List UInt8) (a m : Nat), (∀ b ∈ l, 48 ≤ b.toNat ∧ b.toNat ≤ 57) → a < 10 ^ m → l.foldl num1 a < 10 ^ (m + l.length)
  | [], a, m, _, h => h
  | b :: l, a, m, hl, h => by
    have := hl b (by simp)
    have h2 := num1_lt l (num1 a b) (m + 1) (fun x hx => hl x (by simp [hx])) (by unfold num1; rw [Nat.pow_succ]; omega)
    rw [List.length_cons, show m + (l.length + 1) = m + 1 + l.length by omega]
    exact h2

theorem numT_lt {l : List UInt8} (h : ∀ b ∈ l, 48 ≤ b.toNat ∧ b.toNat ≤ 57) (hl : l.length ≤ 10) : numT l < 10000000000 := by
  have h1 := num1_lt l 0 0 h (by decide)
  have h2 : (10 : Nat) ^ (0 + l.length) ≤ 10 ^ 10 := Nat.pow_le_pow_right (by decide) (by omega)
  have h3 : (10 : Nat) ^ 10 = 10000000000 := by decide
  unfold numT
  omega

/-- The digits behind the first four bytes, up to place i. -/
def upTo (s : ByteArray) (i : Nat) : List UInt8 := (s.data.toList.drop 4).take (i - 4)

theorem upTo_succ (s : ByteArray) (i : Nat) (h4 : 4 ≤ i) (h : i < s.size) : upTo s (i + 1) = upTo s i ++ [s[i]] := by
  unfold upTo
  have hl : i - 4 < (s.data.toList.drop 4).length := by rw [List.length_drop, ← Lib.size_eq]; omega
  rw [show i + 1 - 4 = (i - 4) + 1 by omega, List.take_succ_eq_append_getElem hl]
  congr 2
  rw [List.getElem_drop]
  have : 4 + (i - 4) = i := by omega
  simp only [this]
  rfl
theorem upTo_all (s : ByteArray) : upTo s s.size = s.data.toList.drop 4 := by
  unfold upTo
  apply List.take_of_length_le
  rw [List.length_drop, ← Lib.size_eq]
  omega
theorem upTo_len (s : ByteArray) (i : Nat) : (upTo s i).length ≤ i - 4 := by unfold upTo; rw [List.length_take]; omega
end Plain

set_option maxHeartbeats 1000000 in
set_option maxRecDepth 100000 in
theorem refParse_any (s : ByteArray) (hs : s.size ≤ 281474976710656) (w : World) : Calls Tryd.prog 10 #[.string s] w fun e w' => e = .returned (.tuple #[.int .i64 ((Plain.parseT s).1 : Int), .int .i64 ((Plain.parseT s).2 : Int)]) ∧ Below w.heap.size w w' := by
  have HN := Lib.hid (fun h => (Plain.parse_none (s := s) h))
  have HH := Lib.hid (fun (j m : Nat) (hb : ∀ i, 1 ≤ i → i < j → Plain.hitT s i = none) (h : Plain.hitT s j = some m) => Plain.parse_hit hb h)
  have HG := Lib.hid (fun (j m : Nat) (h : j = 3 ∨ j = 4) (hh : Plain.hitT s j = some m) => Plain.hit_digits h hh)
  obtain ⟨pk, pn, hp⟩ : ∃ k n : Nat, Plain.parseT s = (k, n) := ⟨_, _, rfl⟩
  rw [hp]
  have HP := Lib.hid hp
  clear hp
  go_enter Tryd.func10, Tryd.ntmps10
  go_wp2
  go_loopw [4] (fun s4 wr => ∃ k : Nat, 1 ≤ k ∧ k ≤ 3 ∧ s4 = .int .i64 k ∧ (∀ i, 1 ≤ i → i < k → Plain.hitT s i = none) ∧ Below w.heap.size w wr) (fun s4 _ => 3 - (intOf s4).toNat)
  case atStart => exact ⟨1, by omega, by omega, rfl, fun i _ _ => by omega, Below.refl _ _⟩
  case round =>
    obtain ⟨k, hk1, hk, rfl, hall, hb⟩ := hrel
    have HA := Lib.hid hall
    have HB := Lib.hid hb
    clear hall hb
    by_cases hlt : k < 3
    · have e11 : decide ((k : Int) ≤ 2) = true := decide_eq_true (by omega)
      have hk2 : (k : Int) ≤ 2 := by omega
      have HM := Lib.hid (Plain.make12 (k := k) (by omega) s)
      have Q8 := Lib.hid (refMake_any (k : Int) 0 wr)
      obtain ⟨M, hM⟩ : ∃ M, Plain.makeT k 0 = M := ⟨_, rfl⟩
      rw [hM] at Q8 HM
      have HE := Lib.hid (toList_beq s M)
      clear hM
      by_cases hMs : M = s
      · have hbeq : (s.toList == M.toList) = true := by rw [HE.out]; exact decide_eq_true hMs.symm
        have hpn := HH.out k 0 HA.out (HM.out.1 hMs)
        rw [HP.out] at hpn
        cases hpn
        clear hMs
        go_wp2_with (go_at_call 8; (with_reducible refine Q8.out.mono ?_); rintro e w2 ⟨rfl, hb2⟩; have HB2 := Lib.hid (Below.next HB.out hb2); clear hb2)
        go_ret2
        exact ⟨rfl, HB2.out⟩
      · have hbeq : (s.toList == M.toList) = false := by rw [HE.out]; exact decide_eq_false fun e => hMs e.symm
        have HX := Lib.hid (HM.out.2 hMs)
        clear hMs
        go_wp2_with (go_at_call 8; (with_reducible refine Q8.out.mono ?_); rintro e w2 ⟨rfl, hb2⟩; have HB2 := Lib.hid (Below.next HB.out hb2); clear hb2)
        refine ⟨⟨k + 1, by omega, by omega, by go_num, fun i h0 h1 => ?_, HB2.out⟩, by simp [intOf]; omega⟩
        by_cases h : i = k
        · subst h; exact HX.out
        · exact HA.out i h0 (by omega)
    · have e11 : decide ((k : Int) ≤ 2) = false := decide_eq_false (by omega)
      have hk2 : ¬ (k : Int) ≤ 2 := by omega
      obtain rfl : k = 3 := by omega
      have HEND : Hid (Plain.hitT s 3 = none → Plain.hitT s 4 = none → pk = 0 ∧ pn = 0) := Lib.hid fun h3 h4 => by
        have := HN.out fun i h0 h5 => by
          by_cases h : i < 3
          · exact HA.out i h0 h
          · rcases (show i = 3 ∨ i = 4 by omega) with rfl | rfl
            · exact h3
            · exact h4
        rw [HP.out] at this
        cases this
        exact ⟨rfl, rfl⟩
      have none34 : (∀ j m, (j = 3 ∨ j = 4) → Plain.hitT s j = some m → False) → pk = 0 ∧ pn = 0 := fun h => HEND.out
        (by cases e : Plain.hitT s 3 with | none => rfl | some m => exact (h 3 m (.inl rfl) e).elim)
        (by cases e : Plain.hitT s 4 with | none => rfl | some m => exact (h 4 m (.inr rfl) e).elim)
      have H34 := Lib.hid none34
      clear none34
      by_cases h5 : s.size < 5
      · obtain ⟨rfl, rfl⟩ := H34.out fun j m hj hh => by have := (HG.out j m hj hh).1; omega
        have e19 : (s.size : Int) < 5 := by omega
        go_wp2
        go_ret2
        exact ⟨rfl, HB.out⟩
      · have e19 : ¬ (s.size : Int) < 5 := by omega
        by_cases h14 : 14 < s.size
        · obtain ⟨rfl, rfl⟩ := H34.out fun j m hj hh => by have := (HG.out j m hj hh).2.1; omega
          have e20 : (14 : Int) < (s.size : Int) := by omega
          go_wp2
          go_ret2
          exact ⟨rfl, HB.out⟩
        · have e20 : ¬ (14 : Int) < (s.size : Int) := by omega
          go_wp2
          clear hlt e11 HEND e19 e20 hk hk1 hk2
          go_loopw [5, 6] (fun s5 s6 w' => ∃ i : Nat, 4 ≤ i ∧ i ≤ s.size ∧ s6 = .int .i64 i ∧ s5 = .int .i64 (Plain.numT (Plain.upTo s i) : Nat) ∧ (∀ b ∈ Plain.upTo s i, 48 ≤ b.toNat ∧ b.toNat ≤ 57) ∧ w' = wr) (fun _ s6 _ => s.size - (intOf s6).toNat)
          case atStart => exact ⟨4, by omega, by omega, rfl, rfl, fun b hb => by simp [Plain.upTo] at hb, rfl⟩
          case round =>
            obtain ⟨i, hi4, hi, rfl, rfl, hdig, rfl⟩ := hrel
            have HD := Lib.hid hdig
            clear hdig
            by_cases hlt : i < s.size
            · have e28 : decide ((i : Int) < (s.size : Int)) = true := decide_eq_true (by omega)
              by_cases h48 : s[i].toNat < 48
              · have hc : ((s[i].toNat : Int)) < 48 := by omega
                obtain ⟨rfl, rfl⟩ := H34.out fun j m hj hh => by
                  have h2 := (HG.out j m hj hh).2.2
                  rw [← Plain.upTo_all] at h2
                  have hm : s[i] ∈ List.drop 4 s.data.toList := by
                    have h3 : s[i] ∈ Plain.upTo s (i + 1) := by rw [Plain.upTo_succ s i hi4 hlt]; simp
                    unfold Plain.upTo at h3
                    exact List.mem_of_mem_take h3
                  rw [← Plain.upTo_all] at hm
                  have := h2 _ hm
                  omega
                go_wp2
                go_ret2
                exact ⟨rfl, HB.out⟩
              · by_cases h57 : 57 < s[i].toNat
                · have hc : ¬ ((s[i].toNat : Int)) < 48 := by omega
                  have hc2 : (57 : Int) < (s[i].toNat : Int) := by omega
                  obtain ⟨rfl, rfl⟩ := H34.out fun j m hj hh => by
                    have h2 := (HG.out j m hj hh).2.2
                    rw [← Plain.upTo_all] at h2
                    have hm : s[i] ∈ List.drop 4 s.data.toList := by
                      have h3 : s[i] ∈ Plain.upTo s (i + 1) := by rw [Plain.upTo_succ s i hi4 hlt]; simp
                      unfold Plain.upTo at h3
                      exact List.mem_of_mem_take h3
                    rw [← Plain.upTo_all] at hm
                    have := h2 _ hm
                    omega
                  go_wp2
                  go_ret2
                  exact ⟨rfl, HB.out⟩
                · have hc : ¬ ((s[i].toNat : Int)) < 48 := by omega
                  have hc2 : ¬ (57 : Int) < (s[i].toNat : Int) := by omega
                  have hlim := Plain.numT_lt HD.out (by have := Plain.upTo_len s i; omega)
                  have HS := Lib.hid (Plain.upTo_succ s i hi4 hlt)
                  have HSN := Lib.hid (Plain.numT_snoc (Plain.upTo s i) s[i])
                  obtain ⟨x, hx⟩ : ∃ x, Plain.numT (Plain.upTo s i) = x := ⟨_, rfl⟩
                  rw [hx] at hlim HSN
                  have HX := Lib.hid hx
                  rw [hx]
                  clear hx
                  go_wp2
                  refine ⟨⟨i + 1, by omega, by omega, by go_num, ?_, ?_, trivial⟩, by simp [intOf]; omega⟩
                  · rw [HS.out, HSN.out]
                    congr 1
                    omega
                  · intro b hb
                    rw [HS.out] at hb
                    rcases List.mem_append.1 hb with hb | hb
                    · exact HD.out b hb
                    · simp only [List.mem_singleton] at hb
                      subst hb
                      omega
            · have e28 : decide ((i : Int) < (s.size : Int)) = false := decide_eq_false (by omega)
              obtain rfl : i = s.size := by omega
              rw [Plain.upTo_all] at HD
              rw [Plain.upTo_all]
              rw [show Plain.numT (List.drop 4 s.data.toList) = Plain.tailN s from rfl]
              have hsn : s ≠ Plain.nil := fun e => by rw [e] at h5; exact h5 (by decide)
              have hlim : Plain.tailN s < 10000000000 := Plain.numT_lt HD.out (by rw [List.length_drop, ← Lib.size_eq]; omega)
              have HMT := Lib.hid (fun (j : Nat) (h : j = 3 ∨ j = 4) => Plain.make_tail h s hsn)
              obtain ⟨t, ht⟩ : ∃ t, Plain.tailN s = t := ⟨_, rfl⟩
              rw [ht] at hlim HMT
              rw [ht]
              clear ht hsn hlt hi4 hi e28 h5 h14
              go_wp2
              go_loopw [7] (fun s7 w' => ∃ k : Nat, 3 ≤ k ∧ k ≤ 5 ∧ s7 = .int .i64 k ∧ (∀ i, 1 ≤ i → i < k → Plain.hitT s i = none) ∧ Below w.heap.size w w') (fun s7 _ => 5 - (intOf s7).toNat)
              case atStart => exact ⟨3, by omega, by omega, rfl, HA.out, HB.out⟩
              case round =>
                obtain ⟨k, hk3, hk, rfl, hall, hb⟩ := hrel
                have HA' := Lib.hid hall
                have HB' := Lib.hid hb
                clear hall hb
                by_cases hlt : k < 5
                · have e11 : decide ((k : Int) ≤ 4) = true := decide_eq_true (by omega)
                  have hk2 : (k : Int) ≤ 4 := by omega
                  have HM := Lib.hid (HMT.out k (by omega))
                  have Q8 := Lib.hid (refMake_any (k : Int) (t : Int) wr)
                  obtain ⟨M, hM⟩ : ∃ M, Plain.makeT k t = M := ⟨_, rfl⟩
                  rw [hM] at Q8 HM
                  have HE := Lib.hid (toList_beq s M)
                  clear hM
                  by_cases hMs : M = s
                  · have hbeq : (s.toList == M.toList) = true := by rw [HE.out]; exact decide_eq_true hMs.symm
                    have hpn := HH.out k t HA'.out (HM.out.1 hMs)
                    rw [HP.out] at hpn
                    cases hpn
                    clear hMs
                    go_wp2_with (go_at_call 8; (with_reducible refine Q8.out.mono ?_); rintro e w2 ⟨rfl, hb2⟩; have HB2 := Lib.hid (Below.next HB'.out hb2); clear hb2)
                    go_ret2
                    exact ⟨rfl, HB2.out⟩
                  · have hbeq : (s.toList == M.toList) = false := by rw [HE.out]; exact decide_eq_false fun e => hMs e.symm
                    have HX := Lib.hid (HM.out.2 hMs)
                    clear hMs
                    go_wp2_with (go_at_call 8; (with_reducible refine Q8.out.mono ?_); rintro e w2 ⟨rfl, hb2⟩; have HB2 := Lib.hid (Below.next HB'.out hb2); clear hb2)
                    refine ⟨⟨k + 1, by omega, by omega, by go_num, fun i h0 h1 => ?_, HB2.out⟩, by simp [intOf]; omega⟩
                    by_cases h : i = k
                    · subst h; exact HX.out
                    · exact HA'.out i h0 (by omega)
                · have e11 : decide ((k : Int) ≤ 4) = false := decide_eq_false (by omega)
                  have hk2 : ¬ (k : Int) ≤ 4 := by omega
                  have hpn := HN.out fun i h0 h5 => HA'.out i h0 (by omega)
                  rw [HP.out] at hpn
                  cases hpn
                  go_wp2
                  go_ret2
                  exact ⟨rfl, HB'.out⟩
end Go.Proofs.YtioilknfjccfeaaDoor

/-
  Two rows of names, the same; two folders, alike.
-/
import Derived.Test.YtfjgefnklelnnaaORefU
import Derived.Test.YtfjgefnklelnnaaONumM
namespace Go.Proofs.Ytfjgefnklelnnaa
open Go.RowKit Go.Shelf

set_option maxHeartbeats 2000000 in
set_option maxRecDepth 100000 in
theorem same_rows {w : World} {b1 b2 : Nat} {v1 v2 : Value} {L : Names} (r1 : w.ownsRow b1 9 1 v1 L.length ((textsOf L).map Value.string)) (r2 : w.ownsRow b2 9 1 v2 L.length ((textsOf L).map Value.string)) (hl : L.length ≤ 100000) :
    Calls Try.prog 31 #[v1, v2] w fun e w' => e = .returned (.bool true) ∧ Below w.heap.size w w' := by
  obtain ⟨ad1, c1, rfl⟩ := row_shape r1
  obtain ⟨ad2, c2, rfl⟩ := row_shape r2
  have HC : Hid (∀ j (hj : j < L.length), ∃ g h, ad1 = some ⟨g, 0, none⟩ ∧ ad2 = some ⟨h, 0, none⟩ ∧ ∀ W, Below w.heap.size w W → W.cell? ⟨g, j, none⟩ = some (.string (strO L[j].1)) ∧ W.cell? ⟨h, j, none⟩ = some (.string (strO L[j].1))) := Lib.hid fun j hj => by
    obtain ⟨g, e1, k1⟩ := row_cells r1 (by omega)
    obtain ⟨h, e2, k2⟩ := row_cells r2 (by omega)
    exact ⟨g, h, e1, e2, fun W hW => ⟨k1 W hW j hj, k2 W hW j hj⟩⟩
  obtain ⟨n, hn⟩ : ∃ n, L.length = n := ⟨_, rfl⟩
  have HN := Lib.hid hn
  rw [hn] at hl ⊢
  clear r1 r2 hn
  go_enter Try.func31, Try.ntmps31
  go_wp2_with fail
  go_loopw [5] (fun s5 wr => ∃ k : Nat, k ≤ n ∧ s5 = .int .i64 k ∧ Below w.heap.size w wr) (fun s5 _ => n - (intOf s5).toNat)
  case atStart => exact ⟨0, Nat.zero_le _, rfl, Below.refl _ _⟩
  case round =>
    obtain ⟨k, hk, rfl, hb⟩ := hrel
    have HB := Lib.hid hb
    clear hb
    by_cases hlt : k < n
    · have e1 : decide ((k : Int) < (n : Int)) = true := decide_eq_true (by omega)
      have e1' : decide (k < n) = true := decide_eq_true hlt
      obtain ⟨g, h, rfl, rfl, hc⟩ := HC.out k (by have := HN.out; omega)
      obtain ⟨d1, d2⟩ := hc _ HB.out
      generalize strO (L[k]'(by have := HN.out; omega)).1 = s at d1 d2 hc
      have hss : (s.toList == s.toList) = true := by simp
      have gc1 := fun d os => cell_regrown d1 d os
      have gc2 := fun d os => cell_regrown d2 d os
      clear hc
      go_upto_region 6 with fail
      refine wp_region_quiet_below (by kernel_rfl) (by kernel_rfl) ?_
      repeat (go_big_quiet_step (fail))
      refine wpQuiet_nil ?_
      intro _ hw'
      obtain ⟨⟨dq, osq⟩, hw''⟩ := hw'
      subst hw''
      have HB7 := Lib.hid (below_regrown wr dq osq)
      generalize Sort.grow (redrawn wr dq) osq = w7 at HB7 ⊢
      clear gc1 gc2 d1 d2
      go_wp2_with fail
      exact ⟨⟨k + 1, by omega, by go_num, Below.next HB.out HB7.out⟩, by simp [intOf]; omega⟩
    · have e1 : decide ((k : Int) < (n : Int)) = false := decide_eq_false (by omega)
      have e1' : decide (k < n) = false := decide_eq_false hlt
      go_wp2_with fail
      go_ret
      exact ⟨rfl, HB.out⟩

set_option maxHeartbeats 4000000 in
set_option maxRecDepth 100000 in
theorem alike_any {w : World} {p q : Nat} {S : FS} {av : Value} {fs : List Value} {M I J : Nat → Prop} (hf : FolderS w p S av fs M I) (hr : RefS w q S J) (hl : S.weight ≤ 90000) :
    Calls Try.prog 22 #[.pointer (some ⟨p, 0, none⟩), .pointer (some ⟨q, 0, none⟩)] w fun e w' => e = .returned (.bool true) ∧ Below w.heap.size w w' := by
  obtain ⟨L, hL⟩ : ∃ L, S.there = L := ⟨_, rfl⟩
  obtain ⟨pn, hpn⟩ : ∃ pn, S.A.length = pn := ⟨_, rfl⟩
  have hll : L.length ≤ 90000 := by rw [← hL]; have := S.there_length; omega
  have Q28 : Hid (∀ W, Below w.heap.size w W → Calls Try.prog 28 #[.pointer (some ⟨p, 0, none⟩)] W fun e w' => ∃ v, e = .returned v ∧ w'.ownsRow W.heap.size 9 1 v L.length ((textsOf L).map Value.string) ∧ Below W.heap.size W w') := Lib.hid fun W hW => by
    have := names_any (FolderIn.below hf hW) hl
    rw [hL, textsOf_length] at this
    exact this
  have Q46 : Hid (∀ W, Below w.heap.size w W → Calls Try.prog 46 #[.pointer (some ⟨q, 0, none⟩)] W fun e w' => ∃ v, e = .returned v ∧ w'.ownsRow W.heap.size 9 1 v L.length ((textsOf L).map Value.string) ∧ Below W.heap.size W w') := Lib.hid fun W hW => by
    have := refS_names (hr.below hW)
    rw [hL] at this
    exact this
  have Q31 : Hid (∀ W b1 b2 v1 v2, W.ownsRow b1 9 1 v1 L.length ((textsOf L).map Value.string) → W.ownsRow b2 9 1 v2 L.length ((textsOf L).map Value.string) → Calls Try.prog 31 #[v1, v2] W fun e w' => e = .returned (.bool true) ∧ Below W.heap.size W w') := Lib.hid fun W b1 b2 v1 v2 h1 h2 => same_rows h1 h2 (by omega)
  have Q25 : Hid (∀ W, Below w.heap.size w W → Calls Try.prog 25 #[.pointer (some ⟨p, 0, none⟩)] W fun e w' => e = .returned (.int .i64 (pn : Nat)) ∧ W = w') := Lib.hid fun W hW => by
    have := pending_any (FolderIn.below hf hW)
    rw [hpn] at this
    exact this
  have Q19 : Hid (∀ W, Below w.heap.size w W → Calls Try.prog 19 #[.pointer (some ⟨q, 0, none⟩)] W fun e w' => e = .returned (.int .i64 (pn : Nat)) ∧ Below W.heap.size W w') := Lib.hid fun W hW => by
    have := refS_pending (hr.below hW)
    rw [hpn] at this
    exact this
  have Q29 : Hid (∀ W, Below w.heap.size w W → ∀ s : ByteArray, s.size ≤ 1000000 → Calls Try.prog 29 #[.pointer (some ⟨p, 0, none⟩), .string s] W fun e w' => e = .returned (.tuple #[.int .i64 (foundN L s.data.toList : Nat), .bool (foundB L s.data.toList)]) ∧ W = w') := Lib.hid fun W hW s hs => by
    have := find_any (FolderIn.below hf hW) s hs
    rw [show actsOn S.L0 S.A = L from hL] at this
    exact this
  have Q35 : Hid (∀ W, Below w.heap.size w W → ∀ s : ByteArray, Calls Try.prog 35 #[.pointer (some ⟨q, 0, none⟩), .string s] W fun e w' => e = .returned (.tuple #[.int .i64 (foundN L s.data.toList : Nat), .bool (foundB L s.data.toList)]) ∧ Below W.heap.size W w') := Lib.hid fun W hW s => by
    have := refS_find (hr.below hW) s
    rw [hL] at this
    exact this
  clear hf hr hL hpn hl
  go_enter Try.func22, Try.ntmps22
  go_upto_block 0 with (first
    | (go_at_call 28; (with_reducible refine (Q28.out _ (Below.refl _ _)).mono ?_); rintro e w1 ⟨v1, rfl, r1, b1⟩; obtain ⟨ad1, cp1, hv1⟩ := row_shape r1; subst hv1; have R1 := Lib.hid r1; have B1 := Lib.hid b1; clear r1 b1)
    | (go_at_call 46; (with_reducible refine (Q46.out _ B1.out).mono ?_); rintro e w2 ⟨v2, rfl, r2, b2⟩; obtain ⟨ad2, cp2, hv2⟩ := row_shape r2; subst hv2; have R2 := Lib.hid r2; have R1' := Lib.hid (owns_same R1.out fun g hg => b2.block g (R1.out.lt g hg).2); have B2 := Lib.hid (Below.next B1.out b2); clear r2 b2)
    | (go_at_call 31; (with_reducible refine (Q31.out _ _ _ _ _ R1'.out R2.out).mono ?_); rintro e w3 ⟨rfl, b3⟩; have B3 := Lib.hid (Below.next B2.out b3); clear b3)
    | (go_at_call 25; (with_reducible refine (Q25.out _ B3.out).mono ?_); rintro e w4 ⟨rfl, rfl⟩)
    | (go_at_call 19; (with_reducible refine (Q19.out _ B3.out).mono ?_); rintro e w5 ⟨rfl, b5⟩; have B5 := Lib.hid (Below.next B3.out b5); clear b5))
  clear Q28 Q46 Q31 Q25 Q19 R1 R1' R2 B1 B2 B3
  go_wp2_with fail
  go_loopw [5] (fun s5 wr => ∃ k : Nat, k ≤ 7 ∧ s5 = .int .u8 k ∧ Below w.heap.size w wr) (fun s5 _ => 7 - (intOf s5).toNat)
  case atStart => exact ⟨0, by omega, rfl, B5.out⟩
  case round =>
    obtain ⟨k, hk, rfl, hb⟩ := hrel
    have HB := Lib.hid hb
    clear hb
    by_cases h7 : k < 7
    · have Q10 : Hid (∀ W, Calls Try.prog 10 #[.int .u8 (k : Int)] W fun e w' => e = .returned (.string (nameT k)) ∧ Below W.heap.size W w') := Lib.hid fun W => name_any k (by omega) W
      have hza := nameT_size k
      obtain ⟨na, hna⟩ : ∃ na, nameT k = na := ⟨_, rfl⟩
      rw [hna] at Q10 hza
      have QA := Lib.hid fun W hW => Q29.out W hW na (by omega)
      have QB := Lib.hid fun W hW => Q35.out W hW na
      obtain ⟨mm, hmm⟩ : ∃ mm, foundN L na.data.toList = mm := ⟨_, rfl⟩
      obtain ⟨bb, hbb⟩ : ∃ bb, foundB L na.data.toList = bb := ⟨_, rfl⟩
      rw [hmm, hbb] at QA QB
      have e1 : decide ((k : Int) < 7) = true := decide_eq_true (by omega)
      have e1' : decide (k < 7) = true := decide_eq_true h7
      have htt : (bb != bb) = false := by simp
      clear hna hmm hbb
      go_wp2_with (first
        | (go_at_call 10; first
            | (have := H22; (with_reducible refine (Q10.out _).mono ?_); rintro e w23 ⟨rfl, h23⟩; have H23 := Lib.hid (Below.next H22.out h23); clear h23)
            | ((with_reducible refine (Q10.out _).mono ?_); rintro e w21 ⟨rfl, h21⟩; have H22 := Lib.hid (Below.next HB.out h21); clear h21))
        | (go_at_call 29; (with_reducible refine (QA.out _ H22.out).mono ?_); rintro e w22 ⟨rfl, rfl⟩)
        | (go_at_call 35; (with_reducible refine (QB.out _ H23.out).mono ?_); rintro e w24 ⟨rfl, h24⟩; have H24 := Lib.hid (Below.next H23.out h24); clear h24))
      exact ⟨⟨k + 1, by omega, by go_num, H24.out⟩, by simp [intOf]; omega⟩
    · have e1 : decide ((k : Int) < 7) = false := decide_eq_false (by omega)
      have e1' : decide (k < 7) = false := decide_eq_false h7
      go_wp2_with fail
      go_ret
      exact ⟨rfl, HB.out⟩
end Go.Proofs.Ytfjgefnklelnnaa

/-
  name.Numbers, and the document's.
-/
import Derived.Test.YtioilknfjccfeaaDoorNNums
namespace Go.Proofs.YtioilknfjccfeaaDoor
open Go.RowKit Go.Sort

theorem news_one (w : World) (v : Value) (t : TypeId) : ∀ (j : Nat) (u : Value), [v][j]? = some u → (w.alloc (.cells #[v] t)).cell? ((⟨w.heap.size, 0, none⟩ : Addr).add j) = some u := by
  intro j u hj
  cases j with
  | zero => simp at hj; subst hj; simp [go_sem, Addr.add]
  | succ j => simp at hj

theorem oneCell_one {v : Value} (h : v.oneCell' = true) : ∀ u ∈ [v], u.oneCell' = true := by
  intro u hu
  rw [List.mem_singleton.1 hu]
  exact h

theorem grown_of_below {W W' : World} (h : Below W.heap.size W W') : W.grownBy W' none := ⟨h.os, h.tape, h.output, h.size, fun k hk _ => h.block k hk⟩

theorem numd_any (k : Int) (w : World) : Calls Tryd.prog 22 #[.int .i64 k] w fun e w' => e = .returned (.bool (numd k)) ∧ w = w' := (numbered_any k w).mono fun _ _ ⟨h1, h2⟩ => ⟨h1, h2.symm⟩

/-- Texts of a size that may be. -/
def Fine (L : List ByteArray) : Prop := ∀ i, i < L.length → (L.getD i ⟨#[]⟩).size ≤ 281474976710656

theorem take_snoc' (L : List ByteArray) (i : Nat) (h : i < L.length) : L.take (i + 1) = L.take i ++ [L.getD i ⟨#[]⟩] := by
  rw [List.take_succ_eq_append_getElem h]
  simp [List.getD, h]

theorem strs_cells {w : World} {v : Value} {L : List ByteArray} (h : Strs w v L) : ∃ ad c, v = .slice ad L.length c ∧ ∀ w', Below w.heap.size w w' → ∀ i, i < L.length → ∃ b o, ad = some ⟨b, o, none⟩ ∧ w'.cell? ⟨b, o + i, none⟩ = some (.string (L.getD i ⟨#[]⟩)) := by
  obtain ⟨ad, c, hv, hc⟩ := h
  refine ⟨ad, c, hv, fun w' hb i hi => ?_⟩
  obtain ⟨b, o, ha, hci⟩ := hc i hi
  refine ⟨b, o, ha, ?_⟩
  rw [hb.cell (p := ⟨b, o + i, none⟩) (block_lt_of_cell hci)]
  exact hci

set_option maxHeartbeats 1000000 in
set_option maxRecDepth 100000 in
theorem numbers_any (k : Int) (L : List ByteArray) (v : Value) (w : World) (hT : Tabs w) (hv : Strs w v L) (hf : Fine L) (hlen : L.length ≤ 1000000) :
    Calls Tryd.prog 13 #[.int .i64 k, v] w fun e w' => (∃ r, e = .returned r ∧ Ints w' r (Plain.numsT k L)) ∧ Below w.heap.size w w' := by
  obtain ⟨i0, hi, hz0, hz1, hz2⟩ := info_parts i3
  obtain ⟨ad, c, rfl, hc⟩ := strs_cells hv
  have HC := Lib.hid hc
  have HT := Lib.hid hT
  have HF := Lib.hid hf
  have Q22 := Lib.hid (numd_any k w)
  clear hc hT hf hv
  by_cases hk : k = 3 ∨ k = 4
  · have hn : numd k = true := by unfold numd; exact decide_eq_true hk
    have hnt : Plain.numsT k L = Plain.insAll (Plain.ofKind k L) := by unfold Plain.numsT; rw [if_pos hk]
    rw [hnt]
    rw [hn] at Q22
    clear hn hnt hk
    go_enter Tryd.func13, Tryd.ntmps13
    go_wp2_with (go_at_call 22; (with_reducible refine Q22.out.mono ?_); rintro e w' ⟨rfl, rfl⟩)
    go_loopw [5, 15] (fun s5 s15 wr => ∃ (i : Nat) (A : List Nat), i ≤ L.length ∧ s15 = .int .i64 i ∧ Plain.ofKind k (L.take i) = A ∧ A.length ≤ i ∧ wr.ownsRow w.heap.size 3 1 s5 A.length (i64s A) ∧ Below w.heap.size w wr) (fun _ s15 _ => L.length - (intOf s15).toNat)
    case atStart => exact ⟨0, [], by omega, rfl, rfl, Nat.le_refl _, by simpa [i64s] using World.ownsRow_nil w w.heap.size 3 1, Below.refl _ _⟩
    case round =>
      obtain ⟨i, A, hil, rfl, hA, hAi, hown, hb⟩ := hrel
      have HA := Lib.hid hA
      have HB := Lib.hid hb
      clear hA hb
      by_cases hlt : i < L.length
      · obtain ⟨b, o, rfl, hcell⟩ := HC.out wr HB.out i hlt
        have hs := HF.out i hlt
        have HS := Lib.hid (take_snoc' L i hlt)
        obtain ⟨s, hsx⟩ : ∃ s, L.getD i ⟨#[]⟩ = s := ⟨_, rfl⟩
        rw [hsx] at hcell hs HS
        have Q9 := Lib.hid (parse_any s hs wr (HT.out.below HB.out))
        obtain ⟨x, y, hxy⟩ : ∃ x y : Nat, Plain.parseT s = (x, y) := ⟨_, _, rfl⟩
        have HX := Lib.hid hxy
        rw [hxy] at Q9
        clear hxy hsx hs
        obtain ⟨a, ha⟩ : ∃ a, A.length = a := ⟨_, rfl⟩
        rw [ha] at hown hAi
        have HL := Lib.hid ha
        have hOF := Lib.hid (Plain.ofKind_snoc k (L.take i) s)
        clear ha
        by_cases hxk : (x : Int) = k
        · have e26 : decide ((x : Int) = k) = true := decide_eq_true hxk
          subst hxk
          go_wp2_with (first
            | (go_at_call 9; (with_reducible refine Q9.out.mono ?_); rintro e w1 ⟨rfl, hb1⟩; replace hown := hown.kept (grown_of_below hb1) (by cases Value.ownBlock _ <;> simp); have HB1 := Lib.hid (Below.next HB.out hb1); clear hb1)
            | (at_builtin; refine wpList_append_own _ rfl _ _ 32 rfl w.heap.size 3 i0 (.int .i64 0) 1 8 Tryd.underlying32 hi hz0 hz1 hz2 rfl (by decide) _ _ _ rfl (hown.alloc _) ⟨w1.heap.size, 0, none⟩ 1 1 [.int .i64 (y : Int)] rfl rfl (news_one _ _ _) (oneCell_one rfl) (by unfold maxLen; omega) (by omega) (by have := HB1.out.size; simp; omega) ?_; intro v' w2 hown2 hgrow _))
          have hb2 : Below w.heap.size w w2 := (HB1.out.alloc HB1.out.size _).grown hgrow (by have := HB1.out.size; simp; omega) (fun k hk => (hown.lt k hk).1)
          have HB2 := Lib.hid hb2
          refine ⟨⟨i + 1, A ++ [y], by omega, by go_num, ?_, by rw [List.length_append, HL.out]; simp; omega, ?_, hb2⟩, by simp [intOf]; omega⟩
          · rw [HS.out, hOF.out, HX.out, if_pos rfl, HA.out]
          · rw [List.length_append, HL.out]
            simpa [i64s] using hown2
        · have e26 : decide ((x : Int) = k) = false := decide_eq_false hxk
          go_wp2_with (go_at_call 9; (with_reducible refine Q9.out.mono ?_); rintro e w1 ⟨rfl, hb1⟩; replace hown := hown.kept (grown_of_below hb1) (by cases Value.ownBlock _ <;> simp); have HB1 := Lib.hid (Below.next HB.out hb1); clear hb1)
          refine ⟨⟨i + 1, A, by omega, by go_num, ?_, by rw [HL.out]; omega, by rw [HL.out]; exact hown, HB1.out⟩, by simp [intOf]; omega⟩
          rw [HS.out, hOF.out, HX.out, if_neg hxk, HA.out]
      · obtain rfl : i = L.length := by omega
        rw [List.take_length] at HA
        have hA := HA.out
        subst hA
        obtain ⟨a, ha⟩ : ∃ a, (Plain.ofKind k L).length = a := ⟨_, rfl⟩
        have Q24 := Lib.hid (rising_any (Plain.ofKind k L) _ w.heap.size wr (by omega) hown)
        clear hown ha
        go_wp2_with (go_at_call 24; (with_reducible refine Q24.out.mono ?_); rintro e w1 ⟨⟨r, rfl, hr⟩, hb1⟩; have HR := Lib.hid hr; have HB1 := Lib.hid (Below.trans HB.out hb1); clear hr hb1)
        go_ret
        exact ⟨⟨_, rfl, HR.out⟩, HB1.out⟩
  · have hn : numd k = false := by unfold numd; exact decide_eq_false hk
    have hnt : Plain.numsT k L = [] := by unfold Plain.numsT; rw [if_neg hk]
    rw [hnt]
    rw [hn] at Q22
    clear hn hnt hk
    go_enter Tryd.func13, Tryd.ntmps13
    go_wp2_with (go_at_call 22; (with_reducible refine Q22.out.mono ?_); rintro e w' ⟨rfl, rfl⟩)
    go_ret
    exact ⟨⟨_, rfl, ints_nil _ _ _⟩, Below.refl _ _⟩
end Go.Proofs.YtioilknfjccfeaaDoor

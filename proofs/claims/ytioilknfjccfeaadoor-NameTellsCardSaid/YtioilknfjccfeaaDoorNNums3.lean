/-
  The document's Numbers.
-/
import Derived.Test.YtioilknfjccfeaaDoorNNums2
namespace Go.Proofs.YtioilknfjccfeaaDoor
open Go.RowKit Go.Sort

namespace Plain
theorem numsT_snoc (k : Int) (M : List ByteArray) (s : ByteArray) : numsT k (M ++ [s]) = if ((parseT s).1 : Int) = k ∧ (parseT s).2 ≠ 0 then insN (parseT s).2 (numsT k M) else numsT k M := by
  have hb := parse_bounds s
  unfold numsT
  by_cases hk : k = 3 ∨ k = 4
  · rw [if_pos hk, if_pos hk, ofKind_snoc]
    by_cases h : ((parseT s).1 : Int) = k
    · rw [if_pos h, insAll_snoc, if_pos ⟨h, by have := hb.2.2.1 (by omega); omega⟩]
    · rw [if_neg h, if_neg fun e => h e.1]
  · rw [if_neg hk, if_neg hk, if_neg]
    rintro ⟨h1, h2⟩
    exact h2 (hb.2.2.2 (by omega))

theorem take_filter {n : Nat} (O : List Nat) (j : Nat) (hr : O.Pairwise (· < ·)) (hpre : ∀ i, i < j → O.getD i 0 < n) (hx : O.length ≤ j ∨ n ≤ O.getD j 0) : O.take j = O.filter (· < n) := by
  induction O generalizing j with
  | nil => simp
  | cons x O ih =>
    obtain ⟨h1, h2⟩ := List.pairwise_cons.1 hr
    cases j with
    | zero =>
      rcases hx with hx | hx
      · simp at hx
      · simp only [List.getD_cons_zero] at hx
        have : ∀ y ∈ x :: O, ¬ decide (y < n) = true := by
          intro y hy
          rcases List.mem_cons.1 hy with rfl | hy
          · simp; omega
          · have := h1 y hy; simp; omega
        rw [List.take_zero, List.filter_eq_nil_iff.2 this]
    | succ j =>
      have hx0 := hpre 0 (by omega)
      simp only [List.getD_cons_zero] at hx0
      rw [List.take_succ_cons, List.filter_cons_of_pos (by simpa using hx0), ih j h2 (fun i hi => by have := hpre (i + 1) (by omega); simpa using this) (by simpa using hx)]
theorem filter_snoc {p : Nat → Bool} (O : List Nat) (q : Nat) (h : q < O.length) : (O.take (q + 1)).filter p = (O.take q).filter p ++ (if p (O.getD q 0) then [O.getD q 0] else []) := by
  rw [List.take_succ_eq_append_getElem h, List.filter_append]
  simp [List.getD, h, List.filter_cons]
theorem insN_eq (n : Nat) (l : List Nat) : l.filter (· < n) ++ [n] ++ l.filter (n < ·) = insN n l := by unfold insN; simp
theorem insN_length (n : Nat) (l : List Nat) : (insN n l).length ≤ l.length + 1 := by
  unfold insN
  have : ∀ (l : List Nat), (l.filter (· < n)).length + (l.filter (n < ·)).length ≤ l.length := by
    intro l
    induction l with
    | nil => simp
    | cons x l ih =>
      simp only [List.filter_cons, List.length_cons]
      split <;> split <;> simp_all <;> omega
  have := this l
  simp only [List.length_append, List.length_cons]
  omega
end Plain

theorem take_snocN (L : List Nat) (i : Nat) (h : i < L.length) : L.take (i + 1) = L.take i ++ [L.getD i 0] := by
  rw [List.take_succ_eq_append_getElem h]
  simp [List.getD, h]
theorem take_filter_of {O : List Nat} {j y : Nat} (hr : Hid (O.Pairwise (· < ·))) (hp : Hid (∀ i, i < j → O.getD i 0 < y)) (hx : Hid (O.length ≤ j ∨ y ≤ O.getD j 0)) : O.take j = O.filter (· < y) := Plain.take_filter O j hr.out hp.out hx.out

theorem ints_cells_of {w : World} {v : Value} {L : List Nat} (h : Ints w v L) : ∃ ad c, v = .slice ad L.length c ∧ ∀ w', Below w.heap.size w w' → ∀ i, i < L.length → ∃ b o, ad = some ⟨b, o, none⟩ ∧ w'.cell? ⟨b, o + i, none⟩ = some (.int .i64 ((L.getD i 0 : Nat) : Int)) := by
  obtain ⟨ad, c, hv, hc⟩ := h
  refine ⟨ad, c, hv, fun w' hb i hi => ?_⟩
  obtain ⟨b, o, ha, hci⟩ := hc i hi
  refine ⟨b, o, ha, ?_⟩
  rw [hb.cell (p := ⟨b, o + i, none⟩) (block_lt_of_cell hci)]
  exact hci

set_option maxHeartbeats 1000000 in
set_option maxRecDepth 100000 in
theorem refNumbers_any (k : Int) (L : List ByteArray) (v : Value) (w : World) (hv : Strs w v L) (hf : Fine L) (hlen : L.length ≤ 1000000) :
    Calls Tryd.prog 14 #[.int .i64 k, v] w fun e w' => (∃ r, e = .returned r ∧ Ints w' r (Plain.numsT k L)) ∧ Below w.heap.size w w' := by
  obtain ⟨i0, hi, hz0, hz1, hz2⟩ := info_parts i3
  obtain ⟨ad, c, rfl, hc⟩ := strs_cells hv
  have HC := Lib.hid hc
  have HF := Lib.hid hf
  clear hc hf hv
  go_enter Tryd.func14, Tryd.ntmps14
  go_wp2
  go_loopw [5, 6] (fun s5 s6 wr => ∃ (i : Nat) (O : List Nat), i ≤ L.length ∧ s6 = .int .i64 i ∧ Plain.numsT k (L.take i) = O ∧ O.length ≤ i ∧ Ints wr s5 O ∧ Below w.heap.size w wr) (fun _ s6 _ => L.length - (intOf s6).toNat)
  case atStart => exact ⟨0, [], by omega, rfl, by simp [Plain.numsT, Plain.ofKind, Plain.insAll], Nat.le_refl _, ints_nil _ _ _, Below.refl _ _⟩
  case round =>
    obtain ⟨i, O, hil, rfl, hO, hOi, hrow, hb⟩ := hrel
    have HO := Lib.hid hO
    have HB := Lib.hid hb
    have HOR : Hid (O.Pairwise (· < ·)) := Lib.hid (by rw [← hO]; exact Plain.numsT_rises _ _)
    clear hO hb
    by_cases hlt : i < L.length
    · obtain ⟨b, o, rfl, hcell⟩ := HC.out wr HB.out i hlt
      have hs := HF.out i hlt
      have HS := Lib.hid (take_snoc' L i hlt)
      obtain ⟨s, hsx⟩ : ∃ s, L.getD i ⟨#[]⟩ = s := ⟨_, rfl⟩
      rw [hsx] at hcell hs HS
      have Q10 := Lib.hid (refParse_any s hs wr)
      obtain ⟨x, y, hxy⟩ : ∃ x y : Nat, Plain.parseT s = (x, y) := ⟨_, _, rfl⟩
      have HN := Lib.hid (Plain.numsT_snoc k (L.take i) s)
      have hyb : y ≤ 1000000000 := by have := (Plain.parse_bounds s).2.1; rw [hxy] at this; exact this
      rw [hxy] at Q10
      rw [hxy, HO.out] at HN
      clear hxy hsx hs
      by_cases hxk : (x : Int) = k
      · subst hxk
        have e28 : decide ((x : Int) = (x : Int)) = true := decide_eq_true rfl
        by_cases hy : y = 0
        · subst hy
          go_wp2_with (go_at_call 10; (with_reducible refine Q10.out.mono ?_); rintro e w1 ⟨rfl, hb1⟩; have HR1 := Lib.hid (hrow.below hb1); have HB1 := Lib.hid (Below.next HB.out hb1); clear hb1)
          refine ⟨⟨i + 1, O, by omega, by go_num, ?_, by omega, HR1.out, HB1.out⟩, by simp [intOf]; omega⟩
          rw [HS.out, HN.out, if_neg (by simp)]
        · have e31 : decide ((y : Int) = 0) = false := decide_eq_false (by omega)
          have hy0 : ¬ (y : Int) = 0 := by omega
          have hyn := hy
          have e31b : ((y : Int) == 0) = false := by simp; omega
          obtain ⟨ado, co, rfl, hco⟩ := ints_cells_of hrow
          obtain ⟨ol, hol⟩ : ∃ ol, O.length = ol := ⟨_, rfl⟩
          rw [hol] at hco hOi
          rw [hol]
          have HCO0 := Lib.hid hco
          have HOL := Lib.hid hol
          clear hco hol
          go_wp2_with (go_at_call 10; (with_reducible refine Q10.out.mono ?_); rintro e w1 ⟨rfl, hb1⟩; have HR1 := Lib.hid (hrow.below hb1); have HB01 := Lib.hid hb1; have HB1 := Lib.hid (Below.next HB.out hb1); clear hb1)
          have HCO : Hid (∀ W, Below w1.heap.size w1 W → ∀ i, i < ol → ∃ b o, ado = some ⟨b, o, none⟩ ∧ W.cell? ⟨b, o + i, none⟩ = some (.int .i64 ((O.getD i 0 : Nat) : Int))) := Lib.hid fun W hW => HCO0.out W (Below.next HB01.out hW)
          clear HCO0 HR1
          go_loopw [9, 10] (fun s9 s10 w2 => ∃ j : Nat, j ≤ ol ∧ s10 = .int .i64 j ∧ (∀ i, i < j → O.getD i 0 < y) ∧ w2.ownsRow w1.heap.size 3 1 s9 j (i64s (O.take j)) ∧ Below w1.heap.size w1 w2) (fun _ s10 _ => ol - (intOf s10).toNat)
          case atStart => exact ⟨0, by omega, rfl, fun i h => by omega, by simpa [i64s] using World.ownsRow_nil w1 w1.heap.size 3 1, Below.refl _ _⟩
          case round =>
            obtain ⟨j, hj, rfl, hpre, hown2, hb2⟩ := hrel
            have HPre := Lib.hid hpre
            have HB2 := Lib.hid hb2
            have HOW := Lib.hid hown2
            clear hpre hb2
            by_cases hlt : j < ol
            · obtain ⟨b3, o3, he3, hcell3⟩ := HCO.out wr HB2.out j hlt
              cases he3
              obtain ⟨z, hz⟩ : ∃ z, O.getD j 0 = z := ⟨_, rfl⟩
              have HT2 := Lib.hid (take_snocN O j (by rw [HOL.out]; exact hlt))
              rw [hz] at hcell3 HT2
              have HZ := Lib.hid hz
              clear hz
              have e36 : decide ((j : Int) < (ol : Int)) = true := decide_eq_true (by omega)
              by_cases hyz : z < y
              · have e43 : decide ((z : Int) < (y : Int)) = true := decide_eq_true (by omega)
                have hyz' : (z : Int) < (y : Int) := by omega
                go_wp2_with (at_builtin; refine wpList_append_own _ rfl _ _ 32 rfl w1.heap.size 3 i0 (.int .i64 0) 1 8 Tryd.underlying32 hi hz0 hz1 hz2 rfl (by decide) _ _ _ rfl (hown2.alloc _) ⟨wr.heap.size, 0, none⟩ 1 1 [.int .i64 (z : Int)] rfl rfl (news_one _ _ _) (oneCell_one rfl) (by unfold maxLen; omega) (by omega) (by have := HB2.out.size; simp; omega) ?_; intro v' w5 hown5 hgrow5 _)
                have hb5 : Below w1.heap.size w1 w5 := (HB2.out.alloc HB2.out.size _).grown hgrow5 (by have := HB2.out.size; simp; omega) (fun k hk => (hown2.lt k hk).1)
                refine ⟨⟨j + 1, by omega, by go_num, fun t ht => ?_, ?_, hb5⟩, by simp [intOf]; omega⟩
                · by_cases h : t = j
                  · subst h; rw [HZ.out]; exact hyz
                  · exact HPre.out t (by omega)
                · rw [HT2.out]
                  simpa [i64s] using hown5
              · have e43 : decide ((z : Int) < (y : Int)) = false := decide_eq_false (by omega)
                have hyz' : ¬ (z : Int) < (y : Int) := by omega
                have EXIT : O.length ≤ j ∨ y ≤ O.getD j 0 := .inr (by rw [HZ.out]; omega)
                have EXIT := Lib.hid EXIT
                clear hown2 HT2 HZ hyz
                have hO := take_filter_of HOR HPre EXIT
                have hown := HOW.out
                rw [hO] at hown
                obtain ⟨F, hF⟩ : ∃ F, O.filter (· < y) = F := ⟨_, rfl⟩
                have hFl : (O.filter (· < y)).length ≤ O.length := List.length_filter_le ..
                rw [hF] at hown hFl
                obtain ⟨fl, hfl⟩ : ∃ fl, F.length = fl := ⟨_, rfl⟩
                have hjF : j = fl := by
                  have h1 := congrArg List.length hO
                  rw [List.length_take, hF, hfl, HOL.out] at h1
                  omega
                rw [hfl] at hFl
                rw [hjF] at hown
                have hj2 : fl ≤ ol := by omega
                clear hjF
                have HFF := Lib.hid hF
                have HFL := Lib.hid hfl
                clear hO hF hfl
                go_wp2_with (at_builtin; refine wpList_append_own _ rfl _ _ 32 rfl w1.heap.size 3 i0 (.int .i64 0) 1 8 Tryd.underlying32 hi hz0 hz1 hz2 rfl (by decide) _ _ _ rfl (hown.alloc _) ⟨wr.heap.size, 0, none⟩ 1 1 [.int .i64 (y : Int)] rfl rfl (news_one _ _ _) (oneCell_one rfl) (by unfold maxLen; omega) (by omega) (by have := HB2.out.size; simp; omega) ?_; intro v' w3 hown3 hgrow _)
                have hb3 : Below w1.heap.size w1 w3 := (HB2.out.alloc HB2.out.size _).grown hgrow (by have := HB2.out.size; simp; omega) (fun k hk => (hown.lt k hk).1)
                have HB3 := Lib.hid hb3
                have HOW3 : Hid (w3.ownsRow w1.heap.size 3 1 v' (fl + 1) (i64s (F ++ [y]))) := Lib.hid (by simpa [i64s] using hown3)
                clear hb3 hown3 hgrow hown
                go_wp2
                go_loopw [9, 11] (fun s9 s11 w4 => ∃ (q : Nat) (G : List Nat), q ≤ ol ∧ s11 = .int .i64 q ∧ (O.take q).filter (y < ·) = G ∧ G.length ≤ q ∧ w4.ownsRow w1.heap.size 3 1 s9 (fl + 1 + G.length) (i64s (F ++ [y] ++ G)) ∧ Below w1.heap.size w1 w4) (fun _ s11 _ => ol - (intOf s11).toNat)
                case atStart => exact ⟨0, [], by omega, rfl, rfl, Nat.le_refl _, by simpa using HOW3.out, HB3.out⟩
                case round =>
                  obtain ⟨q, G, hq, rfl, hG, hGl, hown4, hb4⟩ := hrel
                  have HG := Lib.hid hG
                  have HB4 := Lib.hid hb4
                  clear hG hb4
                  by_cases hlt : q < ol
                  · obtain ⟨b3, o3, he3, hcell3⟩ := HCO.out wr HB4.out q hlt
                    cases he3
                    obtain ⟨z, hz⟩ : ∃ z, O.getD q 0 = z := ⟨_, rfl⟩
                    have HFS := Lib.hid (Plain.filter_snoc (p := fun t => decide (y < t)) O q (by rw [HOL.out]; exact hlt))
                    rw [hz] at hcell3 HFS
                    rw [HG.out] at HFS
                    obtain ⟨gl, hgl⟩ : ∃ gl, G.length = gl := ⟨_, rfl⟩
                    rw [hgl] at hown4 hGl
                    have HGL := Lib.hid hgl
                    clear hz hgl
                    by_cases hyz : y < z
                    · have e69 : decide ((y : Int) < (z : Int)) = true := decide_eq_true (by omega)
                      have hyz' : (y : Int) < (z : Int) := by omega
                      go_wp2_with (at_builtin; refine wpList_append_own _ rfl _ _ 32 rfl w1.heap.size 3 i0 (.int .i64 0) 1 8 Tryd.underlying32 hi hz0 hz1 hz2 rfl (by decide) _ _ _ rfl (hown4.alloc _) ⟨wr.heap.size, 0, none⟩ 1 1 [.int .i64 (z : Int)] rfl rfl (news_one _ _ _) (oneCell_one rfl) (by unfold maxLen; omega) (by omega) (by have := HB4.out.size; simp; omega) ?_; intro v' w5 hown5 hgrow5 _)
                      have hb5 : Below w1.heap.size w1 w5 := (HB4.out.alloc HB4.out.size _).grown hgrow5 (by have := HB4.out.size; simp; omega) (fun k hk => (hown4.lt k hk).1)
                      refine ⟨⟨q + 1, G ++ [z], by omega, by go_num, ?_, by rw [List.length_append, HGL.out]; simp; omega, ?_, hb5⟩, by simp [intOf]; omega⟩
                      · rw [HFS.out, if_pos (by simpa using hyz)]
                      · rw [List.length_append, HGL.out, List.length_singleton]
                        rw [show fl + 1 + (gl + 1) = fl + 1 + gl + 1 by omega]
                        simpa [i64s] using hown5
                    · have e69 : decide ((y : Int) < (z : Int)) = false := decide_eq_false (by omega)
                      have hyz' : ¬ (y : Int) < (z : Int) := by omega
                      go_wp2
                      refine ⟨⟨q + 1, G, by omega, by go_num, ?_, by rw [HGL.out]; omega, by rw [HGL.out]; exact hown4, HB4.out⟩, by simp [intOf]; omega⟩
                      rw [HFS.out, if_neg (by simpa using hyz), List.append_nil]
                  · obtain rfl : q = ol := by omega
                    have hG := HG.out
                    rw [← HOL.out, List.take_length] at hG
                    have hins := Plain.insN_eq y O
                    rw [HFF.out, hG] at hins
                    have hlen : fl + 1 + G.length = (Plain.insN y O).length := by rw [← hins]; simp [HFL.out]; omega
                    rw [hlen, hins] at hown4
                    have HI := Lib.hid (ints_of_owns hown4)
                    have HBW := Lib.hid (HB1.out.trans (HB4.out.mono HB1.out.size))
                    clear hG hins hlen hown4
                    go_wp2
                    refine ⟨⟨i + 1, Plain.insN y O, by omega, by go_num, ?_, ?_, HI.out, HBW.out⟩, by simp [intOf]; omega⟩
                    · rw [HS.out, HN.out]; simp [hyn]
                    · have := Plain.insN_length y O
                      have := HOL.out
                      omega
            · have e36 : decide ((j : Int) < (ol : Int)) = false := decide_eq_false (by omega)
              have EXIT : O.length ≤ j ∨ y ≤ O.getD j 0 := .inl (by rw [HOL.out]; omega)
              have EXIT := Lib.hid EXIT
              clear hown2
              have hO := take_filter_of HOR HPre EXIT
              have hown := HOW.out
              rw [hO] at hown
              obtain ⟨F, hF⟩ : ∃ F, O.filter (· < y) = F := ⟨_, rfl⟩
              have hFl : (O.filter (· < y)).length ≤ O.length := List.length_filter_le ..
              rw [hF] at hown hFl
              obtain ⟨fl, hfl⟩ : ∃ fl, F.length = fl := ⟨_, rfl⟩
              have hjF : j = fl := by
                have h1 := congrArg List.length hO
                rw [List.length_take, hF, hfl, HOL.out] at h1
                omega
              rw [hfl] at hFl
              rw [hjF] at hown
              have hj2 : fl ≤ ol := by omega
              clear hjF
              have HFF := Lib.hid hF
              have HFL := Lib.hid hfl
              clear hO hF hfl
              go_wp2_with (at_builtin; refine wpList_append_own _ rfl _ _ 32 rfl w1.heap.size 3 i0 (.int .i64 0) 1 8 Tryd.underlying32 hi hz0 hz1 hz2 rfl (by decide) _ _ _ rfl (hown.alloc _) ⟨wr.heap.size, 0, none⟩ 1 1 [.int .i64 (y : Int)] rfl rfl (news_one _ _ _) (oneCell_one rfl) (by unfold maxLen; omega) (by omega) (by have := HB2.out.size; simp; omega) ?_; intro v' w3 hown3 hgrow _)
              have hb3 : Below w1.heap.size w1 w3 := (HB2.out.alloc HB2.out.size _).grown hgrow (by have := HB2.out.size; simp; omega) (fun k hk => (hown.lt k hk).1)
              have HB3 := Lib.hid hb3
              have HOW3 : Hid (w3.ownsRow w1.heap.size 3 1 v' (fl + 1) (i64s (F ++ [y]))) := Lib.hid (by simpa [i64s] using hown3)
              clear hb3 hown3 hgrow hown
              go_wp2
              go_loopw [9, 11] (fun s9 s11 w4 => ∃ (q : Nat) (G : List Nat), q ≤ ol ∧ s11 = .int .i64 q ∧ (O.take q).filter (y < ·) = G ∧ G.length ≤ q ∧ w4.ownsRow w1.heap.size 3 1 s9 (fl + 1 + G.length) (i64s (F ++ [y] ++ G)) ∧ Below w1.heap.size w1 w4) (fun _ s11 _ => ol - (intOf s11).toNat)
              case atStart => exact ⟨0, [], by omega, rfl, rfl, Nat.le_refl _, by simpa using HOW3.out, HB3.out⟩
              case round =>
                obtain ⟨q, G, hq, rfl, hG, hGl, hown4, hb4⟩ := hrel
                have HG := Lib.hid hG
                have HB4 := Lib.hid hb4
                clear hG hb4
                by_cases hlt : q < ol
                · obtain ⟨b3, o3, he3, hcell3⟩ := HCO.out wr HB4.out q hlt
                  cases he3
                  obtain ⟨z, hz⟩ : ∃ z, O.getD q 0 = z := ⟨_, rfl⟩
                  have HFS := Lib.hid (Plain.filter_snoc (p := fun t => decide (y < t)) O q (by rw [HOL.out]; exact hlt))
                  rw [hz] at hcell3 HFS
                  rw [HG.out] at HFS
                  obtain ⟨gl, hgl⟩ : ∃ gl, G.length = gl := ⟨_, rfl⟩
                  rw [hgl] at hown4 hGl
                  have HGL := Lib.hid hgl
                  clear hz hgl
                  by_cases hyz : y < z
                  · have e69 : decide ((y : Int) < (z : Int)) = true := decide_eq_true (by omega)
                    have hyz' : (y : Int) < (z : Int) := by omega
                    go_wp2_with (at_builtin; refine wpList_append_own _ rfl _ _ 32 rfl w1.heap.size 3 i0 (.int .i64 0) 1 8 Tryd.underlying32 hi hz0 hz1 hz2 rfl (by decide) _ _ _ rfl (hown4.alloc _) ⟨wr.heap.size, 0, none⟩ 1 1 [.int .i64 (z : Int)] rfl rfl (news_one _ _ _) (oneCell_one rfl) (by unfold maxLen; omega) (by omega) (by have := HB4.out.size; simp; omega) ?_; intro v' w5 hown5 hgrow5 _)
                    have hb5 : Below w1.heap.size w1 w5 := (HB4.out.alloc HB4.out.size _).grown hgrow5 (by have := HB4.out.size; simp; omega) (fun k hk => (hown4.lt k hk).1)
                    refine ⟨⟨q + 1, G ++ [z], by omega, by go_num, ?_, by rw [List.length_append, HGL.out]; simp; omega, ?_, hb5⟩, by simp [intOf]; omega⟩
                    · rw [HFS.out, if_pos (by simpa using hyz)]
                    · rw [List.length_append, HGL.out, List.length_singleton]
                      rw [show fl + 1 + (gl + 1) = fl + 1 + gl + 1 by omega]
                      simpa [i64s] using hown5
                  · have e69 : decide ((y : Int) < (z : Int)) = false := decide_eq_false (by omega)
                    have hyz' : ¬ (y : Int) < (z : Int) := by omega
                    go_wp2
                    refine ⟨⟨q + 1, G, by omega, by go_num, ?_, by rw [HGL.out]; omega, by rw [HGL.out]; exact hown4, HB4.out⟩, by simp [intOf]; omega⟩
                    rw [HFS.out, if_neg (by simpa using hyz), List.append_nil]
                · obtain rfl : q = ol := by omega
                  have hG := HG.out
                  rw [← HOL.out, List.take_length] at hG
                  have hins := Plain.insN_eq y O
                  rw [HFF.out, hG] at hins
                  have hlen : fl + 1 + G.length = (Plain.insN y O).length := by rw [← hins]; simp [HFL.out]; omega
                  rw [hlen, hins] at hown4
                  have HI := Lib.hid (ints_of_owns hown4)
                  have HBW := Lib.hid (HB1.out.trans (HB4.out.mono HB1.out.size))
                  clear hG hins hlen hown4
                  go_wp2
                  refine ⟨⟨i + 1, Plain.insN y O, by omega, by go_num, ?_, ?_, HI.out, HBW.out⟩, by simp [intOf]; omega⟩
                  · rw [HS.out, HN.out]; simp [hyn]
                  · have := Plain.insN_length y O
                    have := HOL.out
                    omega
      · have e28 : decide ((x : Int) = k) = false := decide_eq_false hxk
        go_wp2_with (go_at_call 10; (with_reducible refine Q10.out.mono ?_); rintro e w1 ⟨rfl, hb1⟩; have HR1 := Lib.hid (hrow.below hb1); have HB1 := Lib.hid (Below.next HB.out hb1); clear hb1)
        refine ⟨⟨i + 1, O, by omega, by go_num, ?_, by omega, HR1.out, HB1.out⟩, by simp [intOf]; omega⟩
        rw [HS.out, HN.out, if_neg (by simp [hxk])]
    · obtain rfl : i = L.length := by omega
      rw [List.take_length] at HO
      have hO := HO.out
      subst hO
      go_wp2
      go_ret
      exact ⟨⟨_, rfl, hrow⟩, HB.out⟩
end Go.Proofs.YtioilknfjccfeaaDoor

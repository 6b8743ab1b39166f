/-
  The walk of FrameBack.
-/
import Derived.Test.YtnndabjhdhnleaaDoorFIs
import Derived.Test.YtnndabjhdhnleaaDoorRef3
import Derived.Test.YtnndabjhdhnleaaDoorBackKit
namespace Go.Proofs.YtnndabjhdhnleaaDoor
open Go.RowKit

/-- What holds when so many payloads have been laid. -/
structure BackI (w : World) (O : List ByteArray) (S : ByteArray) (v6 v7 : Value) (wr : World) : Prop where
  hO : ∀ p ∈ O, fits p.size = true
  hS : S.data.toList = frs O
  own : wr.ownsRow w.heap.size 9 1 v6 O.length (strs O)
  ends : wr.ownsRow w.heap.size 3 1 v7 (O.length + 1) (i64s (endsOf O))
  hb : Below w.heap.size w wr

theorem BackI.kept {w : World} {O : List ByteArray} {S : ByteArray} {v6 v7 : Value} {wr w' : World} (h : BackI w O S v6 v7 wr) (hb : Below wr.heap.size wr w') : BackI w O S v6 v7 w' :=
  ⟨h.hO, h.hS, h.own.kept (grown_of_below hb) (by cases Value.ownBlock _ <;> simp), h.ends.kept (grown_of_below hb) (by cases Value.ownBlock _ <;> simp), Below.next h.hb hb⟩

theorem back_start (w : World) (w1 : World) (hb : Below w.heap.size w w1) : BackI w [] ⟨#[]⟩ (.slice none 0 0) (.slice (some ⟨w1.heap.size, 0, none⟩) 1 1) (w1.alloc (.cells #[.int .i64 0] 3)) := by
  refine ⟨by simp, by simp [frs], by simpa [strs] using World.ownsRow_nil _ w.heap.size 9 1, ⟨by simp [i64s, endsOf], .inr ⟨w1.heap.size, 1, _, rfl, hb.size, World.alloc_heap_new w1 _, by simp, by unfold maxLen; omega, rfl, ?_⟩⟩, hb.alloc hb.size _⟩
  simp [i64s, endsOf, endAt, frs]

theorem strs_own {W : World} {base : Nat} {v : Value} {l : List ByteArray} (h : W.ownsRow base 9 1 v l.length (strs l)) : ∃ ad c, v = .slice ad l.length c ∧ l.length ≤ c ∧ c ≤ maxLen ∧ Strs W (.slice ad l.length c) l := by
  have hs := strs_of_owns h
  rcases h.2 with ⟨rfl, h0⟩ | ⟨g, cap, cur, rfl, _, _, h1, h2, _⟩
  · exact ⟨none, 0, by rw [h0], by omega, by unfold maxLen; omega, by rw [h0]; exact hs⟩
  · exact ⟨_, cap, rfl, h1, h2, hs⟩

theorem ints_own {W : World} {base : Nat} {v : Value} {O : List ByteArray} (h : W.ownsRow base 3 1 v (O.length + 1) (i64s (endsOf O))) : ∃ ad c, v = .slice ad (O.length + 1) c ∧ Ints W (.slice ad (O.length + 1) c) (endsOf O) := by
  have h' := h
  rw [← endsOf_length] at h'
  have hs := ints_of_owns h'
  obtain ⟨ad, c, hv, hx⟩ := hs
  rw [endsOf_length] at hv
  exact ⟨ad, c, hv, ad, c, by rw [endsOf_length], hx⟩

theorem news_one (w : World) (v : Value) (t : TypeId) : ∀ (j : Nat) (u : Value), [v][j]? = some u → (w.alloc (.cells #[v] t)).cell? ((⟨w.heap.size, 0, none⟩ : Addr).add j) = some u := by
  intro j u hj
  cases j with
  | zero => simp at hj; subst hj; simp [go_sem, Addr.add]
  | succ j => simp at hj

theorem oneCell_one {v : Value} (h : v.oneCell' = true) : ∀ u ∈ [v], u.oneCell' = true := by
  intro u hu
  rw [List.mem_singleton.1 hu]
  exact h

/-- One more frame. -/
theorem BackI.more {w : World} {O : List ByteArray} {S F P T : ByteArray} {v6 v7 v6' v7' : Value} {wr w4 w5 : World} (h : BackI w O S v6 v7 wr) (hP : fits P.size = true) (hF : F = frameOf P) (hT : S ++ F = T)
    (o1 : w4.ownsRow w.heap.size 9 1 v6' (O.length + 1) (strs O ++ [.string P])) (g1 : (wr.alloc (.cells #[.string P] 9)).grownBy w4 v6.ownBlock)
    (o2 : w5.ownsRow w.heap.size 3 1 v7' (O.length + 1 + 1) (i64s (endsOf O) ++ [.int .i64 (T.size : Int)])) (g2 : (w4.alloc (.cells #[.int .i64 (T.size : Int)] 3)).grownBy w5 v7.ownBlock)
    (e7 : w4.ownsRow w.heap.size 3 1 v7 (O.length + 1) (i64s (endsOf O))) : BackI w (O ++ [P]) T v6' v7' w5 := by
  have hS : T.data.toList = frs (O ++ [P]) := by rw [← hT, ba_append, h.hS, frs_append, frs_one, hF]
  have b1 : Below w.heap.size w w4 := (h.hb.alloc h.hb.size _).grown g1 (by have := h.hb.size; simp; omega) (fun k hk => (h.own.lt k hk).1)
  refine ⟨?_, hS, ?_, ?_, ?_⟩
  · intro q hq
    rcases List.mem_append.1 hq with h' | h'
    · exact h.hO q h'
    · rw [List.mem_singleton.1 h']; exact hP
  · have := owns_off (o1.alloc (.cells #[.int .i64 (T.size : Int)] 3)) g2 (off_cells (owns_cells (e7.alloc _)) (by decide))
    rw [List.length_append, List.length_singleton]
    simpa [strs] using this
  · rw [endsOf_append, List.length_append, List.length_singleton, ← hS, ba_length]
    simpa [i64s] using o2
  · exact (b1.alloc b1.size _).grown g2 (by have := b1.size; simp; omega) (fun k hk => (e7.lt k hk).1)

set_option maxRecDepth 100000 in
set_option maxHeartbeats 8000000 in
theorem back_walk (l : List ByteArray) (v : Value) (c : Nat) (w : World) (hF : Fours w) (hc : c < 65536) (hv : Strs w v l) (hl : ∀ s ∈ l, s.size ≤ 9223372036854775807) (_hlen : l.length ≤ 9223372036854775807) :
    Calls Tryd.prog 4 #[v, .int .u16 (c : Int)] w fun e w' => e = .returned (.bool true) ∧ Below w.heap.size w w' := by
  have p13 := fworks_any
  have HF := Lib.hid hF; clear hF
  obtain ⟨ad, cp, rfl, hcells⟩ := hv
  go_enter Tryd.func4, Tryd.ntmps4
  go_wp2_with (go_at_call 13; go_must (with_reducible refine (p13 _ HF.out).mono ?_); rintro e' w1 ⟨rfl, hb1⟩; have h0 := back_start w w1 hb1; clear hb1)
  go_loopw [5, 6, 7, 8, 9, 10, 11] (fun g v6 v7 i _ _ _ wr => ∃ (k : Nat) (O : List ByteArray) (S : ByteArray), k ≤ 15 ∧ k ≤ l.length ∧ O.length ≤ k ∧ i = .int .i64 k ∧ g = .string S ∧ BackI w O S v6 v7 wr) (fun _ _ _ i _ _ _ _ => 15 - (intOf i).toNat)
  case atStart => exact ⟨0, [], _, by omega, Nat.zero_le _, Nat.le_refl _, rfl, rfl, h0⟩
  case round =>
    obtain ⟨k, O, S, hk, hkl, hOk, rfl, rfl, hI⟩ := hrel
    have hSs : S.size ≤ 15 * 313 := by
      have := frs_length_most O hI.hO
      rw [← hI.hS, ba_length] at this
      omega
    by_cases hgo : k < l.length ∧ k < 15
    · obtain ⟨hlt, h15⟩ := hgo
      obtain ⟨b, o, rfl, hcell⟩ := hcells k hlt
      have hcell' : wr.cell? ⟨b, o + k, none⟩ = some (.string (l.getD k ⟨#[]⟩)) := by rw [hI.hb.cell (p := ⟨b, o + k, none⟩) (block_lt_of_cell hcell)]; exact hcell
      have hxz : (l.getD k ⟨#[]⟩).size ≤ 9223372036854775807 := hl _ (by simp [List.getD, hlt])
      obtain ⟨x, hx⟩ : ∃ x, x = l.getD k ⟨#[]⟩ := ⟨_, rfl⟩
      rw [← hx] at hcell' hxz
      obtain ⟨kp, hkp⟩ : ∃ kp : Nat, kp = min x.size 300 := ⟨_, rfl⟩
      obtain ⟨P, hP⟩ : ∃ P, x.extract 0 kp = P := ⟨_, rfl⟩
      have m1 : min (x.size : Int) 300 = (kp : Int) := by omega
      have m2 : (kp : Int) ≤ (x.size : Int) := by omega
      have sP : P.size ≤ 300 := by rw [← hP, ByteArray.size_extract]; omega
      clear hx hkp hcell hcells hl h0
      go_wp2_with fail
      go_quiet (fail)
      replace hI := hI.kept (below_drewN (Below.refl wr.heap.size wr) nq)
      generalize wr.drewN nq = w2 at hI ⊢
      clear hcell' m1 m2 hP
      by_cases hf : fits P.size = true
      · obtain ⟨f1, f2⟩ := fits_true hf
        obtain ⟨F, hFe⟩ : ∃ F, F = frameOf P := ⟨_, rfl⟩
        have hsz := Plain.size_bounds (n := P.size) (by omega)
        have hFs : F.size = Plain.size P.size + P.size + 4 := by rw [hFe, frameOf_size]
        have q8 := fun w0 h0 => fput_fits P F (by omega) hf hFe.symm w0 h0
        have q10 := fun w0 => fsize_is P F.size (by omega) (by rw [hf, if_pos rfl, hFs]) _ rfl w0
        have hFl : F.size ≤ 313 := by omega
        have ne : ∀ X : ByteArray, 1 ≤ X.size → X.toList ≠ [] ∧ X.toList.isEmpty = false := fun X hX => by
          have h1 : X.toList ≠ [] := fun h => by
            have : X.data.toList = [] := by rw [← ByteArray.toList_eq]; exact h
            rw [← ba_length, this] at hX
            simp at hX
          refine ⟨h1, ?_⟩
          cases hz : X.toList.isEmpty
          · rfl
          · exact absurd (List.isEmpty_iff.1 hz) h1
        obtain ⟨nP1, nP2⟩ := ne P f1
        obtain ⟨nF1, nF2⟩ := ne F (by omega)
        obtain ⟨T, hT⟩ : ∃ T, S ++ F = T := ⟨_, rfl⟩
        have hcat : S.size + F.size ≤ 9223372036854775807 := by omega
        obtain ⟨i0, hi, hz0, hz1, hz2⟩ := info_parts i9
        obtain ⟨j0, hj, hy0, hy1, hy2⟩ := info_parts i3
        have HFe := Lib.hid hFe
        clear ne hFe hFs hsz
        go_wp2_with (first
          | (go_at_call 8; go_must (with_reducible refine (q8 _ (HF.out.below hI.hb)).mono ?_); rintro e' w3 ⟨rfl, hb3⟩; replace hI := hI.kept hb3; clear hb3)
          | (go_at_call 10; go_must (with_reducible refine (q10 _).mono ?_); rintro e' w3 ⟨rfl, rfl⟩)
          | (at_builtin; refine wpList_append_own _ rfl _ _ 22 rfl w.heap.size 9 i0 (.string ⟨#[]⟩) 1 16 Tryd.underlying22 hi hz0 hz1 hz2 rfl (by decide) _ _ _ rfl (hI.own.alloc _) ⟨w3.heap.size, 0, none⟩ 1 1 [.string P] rfl rfl (news_one _ _ _) (oneCell_one rfl) (by unfold maxLen; omega) (by omega) (by have := hI.hb.size; simp; omega) ?_; intro v6' w4 o1 g1 _; have e7 := owns_off (hI.ends.alloc (.cells #[.string P] 9)) g1 (off_cells (owns_cells (hI.own.alloc _)) (by decide)))
          | (at_builtin; refine wpList_append_own _ rfl _ _ 35 rfl w.heap.size 3 j0 (.int .i64 0) 1 8 Tryd.underlying35 hj hy0 hy1 hy2 rfl (by decide) _ _ _ rfl (e7.alloc _) ⟨w4.heap.size, 0, none⟩ 1 1 [.int .i64 (T.size : Int)] rfl rfl (news_one _ _ _) (oneCell_one rfl) (by unfold maxLen; omega) (by omega) (by have := hI.hb.size; have := g1.size; simp at this ⊢; omega) ?_; intro v7' w5 o2 g2 _))
        exact ⟨⟨k + 1, O ++ [P], T, by omega, by omega, by rw [List.length_append, List.length_singleton]; omega, by go_num, rfl, hI.more hf HFe.out hT o1 g1 o2 g2 e7⟩, by simp [intOf]; omega⟩
      · have hf' : fits P.size = false := by simpa using hf
        have q8 := fun w0 h0 => fput_not P (by omega) hf' w0 h0
        have q10 := fun w0 => fsize_is P 0 (by omega) (by rw [hf']; rfl) 0 rfl w0
        have hP0 : P = ⟨#[]⟩ := by
          have h0 := fits_false hf'
          exact ba_ext (List.eq_nil_of_length_eq_zero (by rw [ba_length]; omega))
        subst hP0
        clear hf hf' sP
        go_wp2_with (first
          | (go_at_call 8; go_must (with_reducible refine (q8 _ (HF.out.below hI.hb)).mono ?_); rintro e' w3 ⟨rfl, hb3⟩; replace hI := hI.kept hb3; clear hb3)
          | (go_at_call 10; go_must (with_reducible refine (q10 _).mono ?_); rintro e' w3 ⟨rfl, rfl⟩))
        exact ⟨⟨k + 1, O, S, by omega, by omega, by omega, by go_num, rfl, hI⟩, by simp [intOf]; omega⟩
    · clear h0 hcells hl
      obtain ⟨ad6, c6, hv6, hc6, hm6, hs6⟩ := strs_own hI.own
      obtain ⟨ad7, c7, hv7, hs7⟩ := ints_own hI.ends
      subst hv6 hv7
      have hO := hI.hO
      have hS := hI.hS
      have hSz : S.size = endAt O O.length := by rw [endAt_all, ← hS, ba_length]
      have hO15 : O.length ≤ 15 := by omega
      have q14 := fun w0 h0 => fall_any S w0 h0 (by omega)
      rw [fall_whole S O hO hS] at q14
      unfold AllAns at q14
      dsimp only at q14
      have hsame := fun v1 w0 h1 h2 => sameS_any O v1 (.slice ad6 O.length c6) w0 (by omega) h1 h2
      have hbr := hI.hb
      have HO := Lib.hid hO
      have HS := Lib.hid hS
      have HSz := Lib.hid hSz
      clear hI hO hS hSz hkl
      rcases (show ¬ k < l.length ∨ (k < l.length ∧ ¬ k < 15) by omega) with hx | ⟨hx1, hx⟩
      all_goals
        go_wp2_with (first
          | (go_at_call 14; go_must (with_reducible refine (q14 _ (HF.out.below hbr)).mono ?_); rintro e' w2 ⟨v2, rfl, hv2, hb2⟩; replace hbr := Below.next hbr hb2; replace hs6 := hs6.below hb2; replace hs7 := hs7.below hb2; clear hb2)
          | (go_at_call 15; go_must (with_reducible refine (hsame _ _ hv2 hs6).mono ?_); rintro e' w3 ⟨rfl, hb3⟩; replace hbr := Below.next hbr hb3; replace hs6 := hs6.below hb3; replace hs7 := hs7.below hb3; clear hb3 hv2))
        clear q14 hsame
        obtain ⟨ad6', c6', hv6, hx6⟩ := hs6
        obtain ⟨ad7', c7', hv7, hx7⟩ := hs7
        rw [endsOf_length] at hv7 hx7
        cases hv6
        cases hv7
        go_loopw [15, 16, 17, 18] (fun i _ _ _ wr => ∃ m : Nat, m ≤ O.length ∧ i = .int .i64 m ∧ Below w.heap.size w wr ∧ Below w3.heap.size w3 wr) (fun i _ _ _ _ => O.length - (intOf i).toNat)
        case atStart => exact ⟨0, Nat.zero_le _, rfl, hbr, Below.refl _ _⟩
        case round =>
          obtain ⟨m, hm, rfl, hbm, hb3m⟩ := hrel
          have hcl7 : ∀ W', Below w3.heap.size w3 W' → ∀ i, i ≤ O.length → ∃ b o, ad7 = some ⟨b, o, none⟩ ∧ W'.cell? ⟨b, o + i, none⟩ = some (.int .i64 (endAt O i : Int)) := fun W' hW i hi => by
            obtain ⟨b, o, ha, hcell⟩ := hx7 i (by omega)
            refine ⟨b, o, ha, ?_⟩
            rw [hW.cell (p := ⟨b, o + i, none⟩) (block_lt_of_cell hcell), hcell, endsOf_getD O i hi]
          have hend : ∀ i, endAt O i ≤ 5000 := fun i => by
            have h1 := endAt_le O i
            have h2 := HSz.out
            rw [endAt_all] at h2
            omega
          by_cases hlt : m < O.length
          · obtain ⟨b6, o6, rfl, hcell6⟩ := hx6 m hlt
            obtain ⟨b7, o7, rfl, hcell7⟩ := hcl7 wr hb3m m hm
            have hxe : O.getD m ⟨#[]⟩ = O[m] := by simp [List.getD, hlt]
            rw [hxe] at hcell6
            have hget := back_fget S O HO.out HS.out m hlt
            obtain ⟨x, hx⟩ : ∃ x, x = O[m] := ⟨_, rfl⟩
            rw [← hx] at hcell6 hget
            have hmore : ∀ W', Below w3.heap.size w3 W' → W'.cell? ⟨b6, o6 + m, none⟩ = some (.string x) ∧ W'.cell? ⟨b7, o7 + (m + 1), none⟩ = some (.int .i64 (endAt O (m + 1) : Int)) := fun W' hW => by
              refine ⟨by rw [hW.cell (p := ⟨b6, o6 + m, none⟩) (block_lt_of_cell hcell6), hcell6], ?_⟩
              obtain ⟨b, o, ha, hcl⟩ := hcl7 W' hW (m + 1) hlt
              cases ha
              exact hcl
            have HM := Lib.hid hmore
            have hE1 := hend m
            have hE2 := hend (m + 1)
            obtain ⟨E1, hEE1⟩ : ∃ E1, E1 = endAt O m := ⟨_, rfl⟩
            obtain ⟨E2, hEE2⟩ : ∃ E2, E2 = endAt O (m + 1) := ⟨_, rfl⟩
            rw [← hEE1] at hcell7 hE1 hget
            rw [← hEE2] at HM hE2 hget
            have q16 := fun w0 h0 => fget_is S (E1 : Int) x (E2 : Int) 0 0 rfl (by omega) hget w0 h0
            clear hcl7 hend hx6 hx7 hxe hget hx hcell6 hmore hEE1 hEE2
            go_wp2_with (go_at_call 16; go_must (with_reducible refine (q16 _ (HF.out.below hbm)).mono ?_); rintro e' w9 ⟨rfl, hb9⟩; replace hbm := Below.next hbm hb9; replace hb3m := Below.next hb3m hb9; clear hb9; obtain ⟨f6, f7⟩ := HM.out _ hb3m)
            exact ⟨⟨m + 1, by omega, by go_num, hbm, hb3m⟩, by simp [intOf]; omega⟩
          · obtain rfl : m = O.length := by omega
            obtain ⟨n, hn⟩ : ∃ n : Nat, n = c % (S.size + 1) := ⟨_, rfl⟩
            have e2 : (c : Int) % ((S.size : Int) + 1) = (n : Int) := by rw [hn]; push_cast; rfl
            have hnS : n < S.size + 1 := by rw [hn]; exact Nat.mod_lt _ (by omega)
            have i3 : (n : Int) ≤ (S.size : Int) := by omega
            obtain ⟨T, hT⟩ : ∃ T, S.extract 0 n = T := ⟨_, rfl⟩
            have sT : T.size ≤ 1000000 := by rw [← hT, ByteArray.size_extract]; omega
            have hcut := fun j hj h1 h2 => back_cut S O HO.out HS.out n j hj (by omega) h1 h2
            rw [hT] at hcut
            have HCUT := Lib.hid hcut
            clear hn hcut hlt hm
            go_wp2_with fail
            go_loop [20] (fun x => ∃ j : Nat, j ≤ O.length ∧ x = .int .i64 j ∧ endAt O j ≤ n) (fun x => O.length + 1 - (intOf x).toNat)
            case atStart => exact ⟨0, Nat.zero_le _, rfl, by rw [endAt_zero]; exact Nat.zero_le _⟩
            case round =>
              obtain ⟨j, hj, rfl, hjn⟩ := hrel
              obtain ⟨b7, o7, rfl, hcellj⟩ := hcl7 wr hb3m j hj
              obtain ⟨Ej, hEj⟩ : ∃ Ej, Ej = endAt O j := ⟨_, rfl⟩
              have hmj : ∀ W', Below w3.heap.size w3 W' → W'.cell? ⟨b7, o7 + j, none⟩ = some (.int .i64 (Ej : Int)) := fun W' hW => by
                obtain ⟨b, o, ha, hcl⟩ := hcl7 W' hW j hj
                cases ha
                rw [hEj]
                exact hcl
              by_cases hjl : j < O.length
              · obtain ⟨b, o, ha, hcell8⟩ := hcl7 wr hb3m (j + 1) hjl
                cases ha
                have hE8 := hend (j + 1)
                obtain ⟨E8, hEE8⟩ : ∃ E8, E8 = endAt O (j + 1) := ⟨_, rfl⟩
                rw [← hEE8] at hcell8 hE8
                by_cases hle : E8 ≤ n
                · have i4 : (E8 : Int) ≤ (n : Int) := by omega
                  clear hcl7 hend hx6 hx7 hmj hcellj
                  go_wp2_with fail
                  exact ⟨⟨j + 1, by omega, by go_num, by rw [← hEE8]; exact hle⟩, by simp [intOf]; omega⟩
                · have i4 : ¬ (E8 : Int) ≤ (n : Int) := by omega
                  have hfall := HCUT.out j hj hjn (.inr (by rw [← hEE8]; omega))
                  obtain ⟨E, hE⟩ : ∃ E : Nat, (if n = endAt O j then 0 else 3) = E := ⟨_, rfl⟩
                  rw [hE, ← hEj] at hfall
                  obtain ⟨L, hLe⟩ : ∃ L, O.take j = L := ⟨_, rfl⟩
                  have hLl : L.length = j := by rw [← hLe, List.length_take]; omega
                  have q14 : ∀ w0, Fours w0 → Calls Tryd.prog 14 #[.string T] w0 fun e w' => ∃ b c, e = .returned (.tuple #[.slice b j c, .int .i64 (Ej : Int), .int .i64 (E : Int)]) ∧ Strs w' (.slice b j c) L ∧ Below w0.heap.size w0 w' := fun w0 h0 => by
                    refine (fall_any T w0 h0 sT).mono ?_
                    rw [hfall, hLe]
                    rintro e w' ⟨v, he, ⟨b, c, hv, hx⟩, hb⟩
                    rw [hLl] at hv
                    exact ⟨b, c, by rw [he, hv], ⟨b, c, by rw [hLl], hx⟩, hb⟩
                  have hst : Strs w3 (.slice ad6 j c6) L := hLe ▸ Strs.take (n := O.length) ⟨ad6, c6, rfl, hx6⟩ rfl hj
                  have hsame := fun v1 w0 h1 h2 => sameS_any L v1 (.slice ad6 j c6) w0 (by omega) h1 h2
                  have HM := Lib.hid hmj
                  have hjc : (j : Int) ≤ (c6 : Int) := by omega
                  have HST := Lib.hid hst
                  clear hcl7 hend hx6 hx7 hfall hst hmj hLe hEE8 hle
                  by_cases hne : n = Ej
                  · have hE0 : E = 0 := by rw [← hE, ← hEj, if_pos hne]
                    have i5 : ((n : Int) == (Ej : Int)) = true := by rw [beq_iff_eq]; omega
                    subst hE0
                    clear hE hne hEj
                    go_wp2_with (first
                      | (go_at_call 14; go_must (with_reducible refine (q14 _ (HF.out.below hbm)).mono ?_); rintro e' w5 ⟨b5l, c5l, rfl, hv5, hb5⟩; replace hbm := Below.next hbm hb5; replace hb3m := Below.next hb3m hb5; clear hb5)
                      | (go_at_call 15; go_must (with_reducible refine (hsame _ _ hv5 (HST.out.below hb3m)).mono ?_); rintro e' w6 ⟨rfl, hb6⟩; replace hbm := Below.next hbm hb6; replace hb3m := Below.next hb3m hb6; clear hb6 hv5; have f7 := HM.out _ hb3m))
                    go_ret
                    exact ⟨rfl, hbm⟩
                  · have hE3 : E = 3 := by rw [← hE, ← hEj, if_neg hne]
                    have i5 : ((n : Int) == (Ej : Int)) = false := by rw [beq_eq_false_iff_ne]; omega
                    subst hE3
                    clear hE hne hEj
                    go_wp2_with (first
                      | (go_at_call 14; go_must (with_reducible refine (q14 _ (HF.out.below hbm)).mono ?_); rintro e' w5 ⟨b5l, c5l, rfl, hv5, hb5⟩; replace hbm := Below.next hbm hb5; replace hb3m := Below.next hb3m hb5; clear hb5)
                      | (go_at_call 15; go_must (with_reducible refine (hsame _ _ hv5 (HST.out.below hb3m)).mono ?_); rintro e' w6 ⟨rfl, hb6⟩; replace hbm := Below.next hbm hb6; replace hb3m := Below.next hb3m hb6; clear hb6 hv5; have f7 := HM.out _ hb3m))
                    go_ret
                    exact ⟨rfl, hbm⟩
              · have hje : j = O.length := by omega
                have i4 : ¬ j < O.length := hjl
                have hfall := HCUT.out j hj hjn (.inl hje)
                obtain ⟨E, hE⟩ : ∃ E : Nat, (if n = endAt O j then 0 else 3) = E := ⟨_, rfl⟩
                rw [hE, ← hEj] at hfall
                obtain ⟨L, hLe⟩ : ∃ L, O.take j = L := ⟨_, rfl⟩
                have hLl : L.length = j := by rw [← hLe, List.length_take]; omega
                have q14 : ∀ w0, Fours w0 → Calls Tryd.prog 14 #[.string T] w0 fun e w' => ∃ b c, e = .returned (.tuple #[.slice b j c, .int .i64 (Ej : Int), .int .i64 (E : Int)]) ∧ Strs w' (.slice b j c) L ∧ Below w0.heap.size w0 w' := fun w0 h0 => by
                  refine (fall_any T w0 h0 sT).mono ?_
                  rw [hfall, hLe]
                  rintro e w' ⟨v, he, ⟨b, c, hv, hx⟩, hb⟩
                  rw [hLl] at hv
                  exact ⟨b, c, by rw [he, hv], ⟨b, c, by rw [hLl], hx⟩, hb⟩
                have hst : Strs w3 (.slice ad6 j c6) L := hLe ▸ Strs.take (n := O.length) ⟨ad6, c6, rfl, hx6⟩ rfl hj
                have hsame := fun v1 w0 h1 h2 => sameS_any L v1 (.slice ad6 j c6) w0 (by omega) h1 h2
                have HM := Lib.hid hmj
                have hjc : (j : Int) ≤ (c6 : Int) := by omega
                have HST := Lib.hid hst
                clear hcl7 hend hx6 hx7 hfall hst hmj hLe hje hjl
                by_cases hne : n = Ej
                · have hE0 : E = 0 := by rw [← hE, ← hEj, if_pos hne]
                  have i5 : ((n : Int) == (Ej : Int)) = true := by rw [beq_iff_eq]; omega
                  subst hE0
                  clear hE hne hEj
                  go_wp2_with (first
                    | (go_at_call 14; go_must (with_reducible refine (q14 _ (HF.out.below hbm)).mono ?_); rintro e' w5 ⟨b5l, c5l, rfl, hv5, hb5⟩; replace hbm := Below.next hbm hb5; replace hb3m := Below.next hb3m hb5; clear hb5)
                    | (go_at_call 15; go_must (with_reducible refine (hsame _ _ hv5 (HST.out.below hb3m)).mono ?_); rintro e' w6 ⟨rfl, hb6⟩; replace hbm := Below.next hbm hb6; replace hb3m := Below.next hb3m hb6; clear hb6 hv5; have f7 := HM.out _ hb3m))
                  go_ret
                  exact ⟨rfl, hbm⟩
                · have hE3 : E = 3 := by rw [← hE, ← hEj, if_neg hne]
                  have i5 : ((n : Int) == (Ej : Int)) = false := by rw [beq_eq_false_iff_ne]; omega
                  subst hE3
                  clear hE hne hEj
                  go_wp2_with (first
                    | (go_at_call 14; go_must (with_reducible refine (q14 _ (HF.out.below hbm)).mono ?_); rintro e' w5 ⟨b5l, c5l, rfl, hv5, hb5⟩; replace hbm := Below.next hbm hb5; replace hb3m := Below.next hb3m hb5; clear hb5)
                    | (go_at_call 15; go_must (with_reducible refine (hsame _ _ hv5 (HST.out.below hb3m)).mono ?_); rintro e' w6 ⟨rfl, hb6⟩; replace hbm := Below.next hbm hb6; replace hb3m := Below.next hb3m hb6; clear hb6 hv5; have f7 := HM.out _ hb3m))
                  go_ret
                  exact ⟨rfl, hbm⟩

theorem frameBack_any (l : List ByteArray) (ad : Option Addr) (n cp c : Nat) (w : World) (hF : Fours w) (hll : l.length = n) (hlc : n ≤ cp) (hlm : cp ≤ 9223372036854775807) (hlz : ∀ x ∈ l, x.size ≤ 9223372036854775807) (hls : Strs w (.slice ad n cp) l) (hc : c < 65536) :
    Calls Tryd.prog 4 #[.slice ad n cp, .int .u16 (c : Int)] w fun e w' => e = .returned (.bool true) ∧ Below w.heap.size w w' :=
  back_walk l (.slice ad n cp) c w hF hc hls hlz (by omega)
end Go.Proofs.YtnndabjhdhnleaaDoor

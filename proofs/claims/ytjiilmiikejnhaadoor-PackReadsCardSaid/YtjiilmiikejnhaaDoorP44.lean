/-
  The document's Put at a transducer that may be laid: a text, of no great size.
-/
import Derived.Test.YtjiilmiikejnhaaDoorP43
import Derived.Test.YtjiilmiikejnhaaDoorP41
import Derived.Test.YtjiilmiikejnhaaDoorP40
set_option linter.unusedVariables false
set_option linter.unusedSimpArgs false
namespace Go.Proofs.YtjiilmiikejnhaaDoor
open Go.RowKit Go.Shelf Said

theorem one_any {w : World} {n : Nat} {x : Int} (hx : x = (n : Int)) (hn : n < 18446744073709551616) : ∃ E : ByteArray, E.size ≤ 9 ∧ ∀ W, Below w.heap.size w W → Calls Tryd.prog 31 #[.int .u64 x] W fun e w' => e = .returned (.string E) ∧ Below W.heap.size W w' := by
  subst hx
  refine ⟨⟨(Plain.enc n).toArray⟩, ?_, fun W _ => ?_⟩
  · show (Plain.enc n).toArray.size ≤ 9
    rw [List.size_toArray, Plain.enc_length]
    exact (Plain.size_bounds hn).2
  · have Q := Lib.hid (refPut_any n W hn)
    generalize (⟨(Plain.enc n).toArray⟩ : ByteArray) = E at Q ⊢
    go_enter Tryd.func31, Tryd.ntmps31
    go_wp2_with (go_at_call 51
                 (with_reducible refine Q.out.mono ?_)
                 go_loud (
                 rintro e' w1 ⟨rfl, hb1⟩
                 have H1 := Lib.hid hb1
                 clear hb1))
    go_ret
    exact ⟨rfl, H1.out⟩
theorem conv_one {W : World} {bb b : Nat} (hb : b < 256) (n1 : W.heap[bb]? = some (.cells #[.int .u8 (b : Int)] 5 (0, 0))) : (convert 43 9 (.slice (some ⟨bb, 0, none⟩) 1 1)).run Tryd.prog W = .ok (.string ⟨#[UInt8.ofNat b]⟩) W := by
  have hr : RowOf W bb [UInt8.ofNat b] := by
    constructor
    · intro i hi
      have : i = 0 := by simpa using hi
      subst this
      rw [cell_of_row W bb 0 _ _ _ n1]
      simp
      omega
    · intro i hi
      simp [World.frozen?, n1]
  have := rowOf_str (c := 1) hr
  exact this
theorem one_mono (b : Nat) : Mono (fun v W => ∃ bb, v = .slice (some ⟨bb, 0, none⟩) 1 1 ∧ W.heap[bb]? = some (.cells #[.int .u8 (b : Int)] 5 (0, 0))) := by
  rintro v W W' hb ⟨bb, e, n1⟩
  exact ⟨bb, e, by rw [hb.block bb (Array.getElem?_eq_some_iff.1 n1).1]; exact n1⟩

set_option maxHeartbeats 4000000 in
set_option maxRecDepth 100000 in
theorem refPack_any {w : World} {n : Nat} {v : Value} {l : List DSt} {init : Nat} (h : Sts w v l) (hf : Formed l) (hn : n ≤ 100000) (hi : init < 18446744073709551616) :
    Calls Tryd.prog 12 #[.int .i64 (n : Int), .agg #[v, .int .u64 (init : Int)]] w fun e w' => (∃ S : ByteArray, e = .returned (.tuple #[.string S, .int .i64 0]) ∧ S.size ≤ 5000) ∧ Below w.heap.size w w' := by
  have hst := h
  obtain ⟨ad, c, rfl, hc⟩ := h
  obtain ⟨m, hmm⟩ : ∃ m, l.length = m := ⟨_, rfl⟩
  rw [hmm] at hst ⊢
  have hm12 : m ≤ 12 := by rw [← hmm]; exact hf.len
  obtain ⟨W1, hW1⟩ : ∃ W1, W1 = w.alloc (.cells #[.slice ad m c, .int .u64 (init : Int)] 25) := ⟨_, rfl⟩
  have hb1 : Below w.heap.size w W1 := by rw [hW1]; exact below_alloc _ _
  have f1 : FstB W1 w.heap.size (.slice ad m c) init := by rw [hW1]; exact heap_alloc_new w _
  have QM := Lib.hid (refMay_any (n := (n : Int)) (init := init) (hst.below hb1) hf.may hf.ne (by rw [hmm]; omega) (by omega) (by omega))
  have c0 := f1.at0
  have c00 := f1.at1
  have H1 := Lib.hid (And.intro hb1 (And.intro f1 (And.intro (hst.below hb1) (And.intro hf hmm))))
  clear hc hst hf hb1 f1 hmm
  go_enter Tryd.func12, Tryd.ntmps12
  go_upto_region 1 with fail
  rw [← hW1]
  clear hW1
  go_upto_region 3 with (go_at_call 30
                         (with_reducible refine QM.out.mono ?_)
                         go_loud (
                         rintro e' w2 ⟨rfl, hb2⟩
                         have H2 := Lib.hid hb2
                         clear hb2))
  clear c0 c00
  have HC : Hid (∀ W, Below w2.heap.size w2 W → FstB W w.heap.size (.slice ad m c) init) := Lib.hid fun W hb => FstB.kp H1.out.2.1 (Kp.below (M := fun _ => False) (H2.out.trans (hb.mono H2.out.size))) (fun h => h)
  obtain ⟨E0, hE0, q0⟩ := one_any (w := w2) (n := n) (x := (n : Int)) rfl (by omega)
  obtain ⟨E1, hE1, q1⟩ := one_any (w := w2) (n := m) (x := (m : Int)) rfl (by omega)
  have Q0 := Lib.hid q0
  have Q1 := Lib.hid q1
  clear q0 q1
  refine Said.region (by kernel_rfl) (by kernel_rfl) (by kernel_rfl) [.is (.int .i64 (n : Int)), .is (.int .u64 (n : Int)), .is (.string E0), .is (.string (⟨#[67, 83, 1]⟩ ++ E0)), .is (.pointer (some ⟨w.heap.size, 0, none⟩)), .is (.slice ad m c), .is (.int .i64 (m : Int)), .is (.int .u64 (m : Int)), .is (.string E1), .is (.string (⟨#[67, 83, 1]⟩ ++ E0 ++ E1)), .is (.string (⟨#[67, 83, 1]⟩ ++ E0 ++ E1))] ?_
  simp only [List.toList_toArray]
  iterate 2 (
    refine sq_pure (by rfl) (fun W hb _ => by (go_simp; all_goals first | done | omega | (rw [IntKind.wrap_u64]; omega))) ?_
    simp only [Act.put, List.setIfInBounds_toArray, List.set_cons_zero, List.set_cons_succ])
  refine sq_call (f := 31) (args := #[.int .u64 (n : Int)]) (by rfl) (fun W => by go_simp) (fun W hb _ => Q0.out W hb) ?_
  simp only [Act.put, List.setIfInBounds_toArray, List.set_cons_zero, List.set_cons_succ]
  iterate 5 (
    refine sq_pure (by rfl) (fun W hb _ => ?_) ?_
    · have y1 := (HC.out W hb).at0
      go_simp
      all_goals first | done | omega | (show (⟨#[67, 83, 1]⟩ : ByteArray).size + _ ≤ _; omega) | (rw [IntKind.wrap_u64]; omega)
    simp only [Act.put, List.setIfInBounds_toArray, List.set_cons_zero, List.set_cons_succ])
  refine sq_call (f := 31) (args := #[.int .u64 (m : Int)]) (by rfl) (fun W => by go_simp) (fun W hb _ => Q1.out W hb) ?_
  simp only [Act.put, List.setIfInBounds_toArray, List.set_cons_zero, List.set_cons_succ]
  iterate 2 (
    refine sq_pure (by rfl) (fun W hb _ => by (go_simp; all_goals first | done | omega | (rw [IntKind.wrap_u64]; omega))) ?_
    simp only [Act.put, List.setIfInBounds_toArray, List.set_cons_zero, List.set_cons_succ])
  refine sq_end (fun W3 hb3 hK3 => ?_)
  have hT0 : (⟨#[67, 83, 1]⟩ ++ E0 ++ E1 : ByteArray).size ≤ 21 := by rw [ba_size_append, ba_size_append]; show 3 + E0.size + E1.size ≤ 21; omega
  generalize (⟨#[67, 83, 1]⟩ ++ E0 ++ E1 : ByteArray) = T0 at hT0 ⊢
  have H3 := Lib.hid hb3
  clear hK3 hb3
  go_wp2
  go_loopw [6, 7] (fun s6 s7 wr => ∃ (k : Nat) (T : ByteArray), k ≤ m ∧ s6 = .string T ∧ s7 = .int .i64 k ∧ Hid (T.size ≤ 21 + k * 200) ∧ Hid (Below w2.heap.size w2 wr)) (fun _ s7 _ => m - (intOf s7).toNat)
  case atStart => exact ⟨0, T0, Nat.zero_le _, rfl, rfl, Lib.hid (by omega), Lib.hid H3.out⟩
  case round =>
    obtain ⟨k, T, hk, rfl, rfl, HT, HR⟩ := hrel
    have f2 := HC.out wr HR.out
    have c1 := f2.at0
    have c11 := f2.at1
    by_cases hlt : k < m
    · obtain ⟨ad', c', e, hc⟩ := (H1.out.2.2.1.below H2.out).below HR.out
      injection e with i1 i2 i3
      have hlk : k < l.length := by rw [H1.out.2.2.2.2]; exact hlt
      obtain ⟨b, o, had, u, h1, h2, h3, ea, qa, rfl, h4⟩ := hc k hlk
      have ha1 := i1.trans had
      subst ha1
      clear hc i1 i2 i3 had
      obtain ⟨m1, m2, m3⟩ := mayS_facts (mayS_in H1.out.2.2.2.1.may hlk)
      have hmem : stAt l k ∈ l := by rw [stAt_lt hlk]; exact List.getElem_mem hlk
      have hok := H1.out.2.2.2.1.ok _ hmem
      have ha6 := H1.out.2.2.2.1.arcs _ hmem
      obtain ⟨y, hy⟩ : ∃ y, stAt l k = y := ⟨_, rfl⟩
      rw [hy] at h1 h2 h3 h4 m3 hok ha6
      obtain ⟨na, hna⟩ : ∃ na, y.arcs.length = na := ⟨_, rfl⟩
      obtain ⟨f, hf⟩ : ∃ f, y.fin = f := ⟨_, rfl⟩
      obtain ⟨ou, hou⟩ : ∃ ou, y.out = ou := ⟨_, rfl⟩
      rw [hna] at h1 m3 h4 ha6
      rw [hf] at h2
      rw [hou] at h3
      have hou64 : ou < 18446744073709551616 := by rw [← hou]; exact hok.2
      have hoka : ∀ j, j < na → (arcAt y.arcs j).ok := fun j hj => by
        rw [arcAt_lt (by rw [hna]; exact hj)]
        exact hok.1 _ (List.getElem_mem _)
      have d1 : decide ((k : Int) < (m : Int)) = true := by simp; omega
      have il : (k : Int) < (m : Int) := by omega
      have HY := Lib.hid (And.intro h4 (And.intro m3 (And.intro f2 hoka)))
      have hsz := HR.out.size
      clear h4 m1 m2 m3 hy hna hf hou f2 hok hoka hmem hlk
      cases f
      · obtain ⟨W4, hW4⟩ : ∃ W4, W4 = wr.alloc (.cells #[.slice ea na qa, .bool false, .int .u64 (ou : Int)] 64) := ⟨_, rfl⟩
        obtain ⟨g, hg⟩ : ∃ g, g = wr.heap.size := ⟨_, rfl⟩
        have sb : StB W4 g (.slice ea na qa) false ou := by rw [hW4, hg]; exact heap_alloc_new wr _
        have bb : Below wr.heap.size wr W4 := by rw [hW4]; exact below_alloc _ _
        go_upto_region 10 with fail
        rw [← hW4, ← hg]
        obtain ⟨E2, hE2, q2⟩ := one_any (w := W4) (n := 2 * na) (x := 2 * (na : Int)) (by omega) (by omega)
        have Q2 := Lib.hid q2
        have HS : Hid (∀ W, Below W4.heap.size W4 W → StB W g (.slice ea na qa) false ou) := Lib.hid fun W hb => sb.kp (Kp.below (M := fun _ => False) hb) (fun h => h)
        have HB := Lib.hid bb
        have HT2 := Lib.hid (show (T ++ E2).size ≤ T.size + 18 by rw [ba_size_append]; omega)
        have y0 := sb.at0
        have hTs := HT.out
        have hcat : T.size + E2.size ≤ 9223372036854775807 := by omega
        clear q2 sb bb hW4 hg
        have w1 : IntKind.i64.wrap (2 * (na : Int)) = 2 * (na : Int) := by rw [IntWalk.i64_in _ (by omega)]
        have w2' : IntKind.u64.wrap (2 * (na : Int)) = 2 * (na : Int) := by rw [IntKind.wrap_u64]; omega
        go_upto_region 11 with (go_at_call 31
                                (with_reducible refine (Q2.out _ (Below.refl _ _)).mono ?_)
                                go_loud (
                                rintro e' W5 ⟨rfl, hb5⟩
                                have H5 := Lib.hid hb5
                                clear hb5))
        generalize (T ++ E2 : ByteArray) = T2 at HT2 ⊢
        clear w1 w2' hTs hcat y0
        go_wp2
        go_loopw [6, 9] (fun s6 s9 W => ∃ (j : Nat) (U : ByteArray), j ≤ na ∧ s6 = .string U ∧ s9 = .int .i64 j ∧ Hid (U.size ≤ T.size + 18 + j * 20) ∧ Hid (Below W4.heap.size W4 W)) (fun _ s9 _ => na - (intOf s9).toNat)
        case atStart => exact ⟨0, T2, Nat.zero_le _, rfl, rfl, Lib.hid (by have := HT2.out; omega), Lib.hid H5.out⟩
        case round =>
          obtain ⟨j, U, hj, rfl, rfl, HU, HJ⟩ := hrel
          have y0 := (HS.out wr HJ.out).at0
          by_cases hlj : j < na
          · have dj : decide ((j : Int) < (na : Int)) = true := by simp; omega
            have ij : (j : Int) < (na : Int) := by omega
            obtain ⟨b', o', e', hE⟩ := HY.out.1 j hlj
            subst e'
            obtain ⟨r2, r3, r4⟩ := hE.later (HB.out.trans (HJ.out.mono HB.out.size))
            obtain ⟨t1, t2⟩ := HY.out.2.1 j hlj
            obtain ⟨x1, x2, -, -⟩ := HY.out.2.2.2 j hlj
            obtain ⟨A, hA⟩ : ∃ A, arcAt y.arcs j = A := ⟨_, rfl⟩
            rw [hA] at r2 r3 r4 t1 t2 x1 x2
            obtain ⟨B, O, tt⟩ := A
            simp only at r2 r3 r4 t1 t2 x1 x2
            obtain ⟨d, hd⟩ : ∃ d : Nat, (k : Int) - tt = (d : Int) := ⟨((k : Int) - tt).toNat, by omega⟩
            have hdk : d ≤ k := by omega
            obtain ⟨Bs, hBs⟩ : ∃ Bs : ByteArray, Bs = ⟨#[UInt8.ofNat B]⟩ := ⟨_, rfl⟩
            have hBz : Bs.size = 1 := by rw [hBs]; rfl
            have HBs := Lib.hid hBs
            obtain ⟨p, hp⟩ : ∃ p, p = wr.heap.size := ⟨_, rfl⟩
            obtain ⟨W6, hW6⟩ : ∃ W6, W6 = wr.alloc (.cells #[.int .u8 (B : Int), .int .u64 (O : Int), .int .i64 tt] 66) := ⟨_, rfl⟩
            have ax : AxB W6 p B O tt := by rw [hW6, hp]; exact heap_alloc_new wr _
            have hb6 : Below wr.heap.size wr W6 := by rw [hW6]; exact below_alloc _ _
            have HX : Hid (∀ W, Below W6.heap.size W6 W → AxB W p B O tt) := Lib.hid fun W hb => ax.kp (Kp.below (M := fun _ => False) hb) (fun h => h)
            obtain ⟨F1, hF1, p1⟩ := one_any (w := W6) (n := O) (x := (O : Int)) rfl x2
            obtain ⟨F2, hF2, p2⟩ := one_any (w := W6) (n := d) (x := (d : Int)) rfl (by omega)
            have P1 := Lib.hid p1
            have P2 := Lib.hid p2
            have H6 := Lib.hid (HJ.out.trans (hb6.mono HJ.out.size))
            have HUZ := Lib.hid (show (U ++ Bs ++ F1 ++ F2).size ≤ U.size + 19 by rw [ba_size_append, ba_size_append, ba_size_append]; omega)
            clear hE hA hBs p1 p2 ax hb6
            go_upto_region 15 with fail
            rw [← hW6, ← hp]
            clear hW6 hp
            have hUs : U.size ≤ 4000 := by have := HU.out; have := HT.out; omega
            have w3 : IntKind.i64.wrap ((k : Int) - tt) = (d : Int) := by rw [IntWalk.i64_in _ (by omega)]; omega
            refine Said.region_tail (by kernel_rfl) 17 (by kernel_rfl) (by kernel_rfl) (by kernel_rfl) [.is (.string U), .is (.pointer (some ⟨p, 0, none⟩)), .is (.int .u8 (B : Int)), .has (fun v W => ∃ bb, v = .slice (some ⟨bb, 0, none⟩) 1 1 ∧ W.heap[bb]? = some (.cells #[.int .u8 (B : Int)] 5 (0, 0))),
              .is (.string Bs), .is (.string (U ++ Bs)), .is (.pointer (some ⟨p, 1, none⟩)), .is (.int .u64 (O : Int)), .is (.string F1), .is (.string (U ++ Bs ++ F1)), .is (.int .i64 (k : Int)), .is (.pointer (some ⟨p, 2, none⟩)), .is (.int .i64 tt), .is (.int .i64 (d : Int)), .is (.int .u64 (d : Int)), .is (.string F2), .is (.string (U ++ Bs ++ F1 ++ F2))] ?_
            simp only [List.toList_toArray, List.take_succ_cons, List.take_zero, List.drop_succ_cons, List.drop_zero]
            iterate 3 (
              refine sq_pure (by rfl) (fun W hb _ => ?_) ?_
              · have y1 := (HX.out W hb).at0
                go_simp
              simp only [Act.put, List.setIfInBounds_toArray, List.set_cons_zero, List.set_cons_succ])
            refine sq_has (one_mono B) (fun W hb _ => step_value (v := .slice (some ⟨W.heap.size, 0, none⟩) 1 1) (W' := W.alloc (.cells #[.int .u8 (B : Int)] 5)) (by rfl) (by go_simp) (below_alloc W _) ⟨W.heap.size, rfl, heap_alloc_new W _⟩) (fun v75 => ?_)
            simp only [Act.put, List.setIfInBounds_toArray, List.set_cons_zero, List.set_cons_succ]
            refine sq_pure (by rfl) (fun W hb hf => ?_) ?_
            · obtain ⟨bb, rfl, n1⟩ := hf.1 (by kernel_rfl)
              have cv := conv_one x1 n1
              rw [← HBs.out] at cv
              go_simp
            simp only [Act.put, List.setIfInBounds_toArray, List.set_cons_zero, List.set_cons_succ]
            iterate 3 (
              refine sq_pure (by rfl) (fun W hb _ => ?_) ?_
              · have y1 := (HX.out W hb).at1
                go_simp
                all_goals first | done | omega
              simp only [Act.put, List.setIfInBounds_toArray, List.set_cons_zero, List.set_cons_succ])
            refine sq_call (f := 31) (args := #[.int .u64 (O : Int)]) (by rfl) (fun W => by go_simp) (fun W hb _ => P1.out W hb) ?_
            simp only [Act.put, List.setIfInBounds_toArray, List.set_cons_zero, List.set_cons_succ]
            iterate 6 (
              refine sq_pure (by rfl) (fun W hb _ => ?_) ?_
              · have y1 := (HX.out W hb).at2
                go_simp
                all_goals first | done | omega | (rw [IntKind.wrap_u64]; omega) | (exact IntWalk.i64_in _ (by omega))
              simp only [Act.put, List.setIfInBounds_toArray, List.set_cons_zero, List.set_cons_succ])
            refine sq_call (f := 31) (args := #[.int .u64 (d : Int)]) (by rfl) (fun W => by go_simp) (fun W hb _ => P2.out W hb) ?_
            simp only [Act.put, List.setIfInBounds_toArray, List.set_cons_zero, List.set_cons_succ]
            refine sq_pure (by rfl) (fun W hb _ => by (go_simp; all_goals first | done | omega)) ?_
            simp only [Act.put, List.setIfInBounds_toArray, List.set_cons_zero, List.set_cons_succ]
            refine sq_end (fun W7 hb7 hK7 => ?_)
            generalize (U ++ Bs ++ F1 ++ F2 : ByteArray) = U2 at HUZ ⊢
            have H7 := Lib.hid (H6.out.trans (hb7.mono H6.out.size))
            clear hK7 hb7 w3
            go_wp2
            exact ⟨⟨j + 1, U2, by omega, rfl, by go_num, Lib.hid (by have := HUZ.out; have := HU.out; omega), H7⟩, by simp [intOf]; omega⟩
          · have hjn : j = na := by omega
            subst hjn
            have dj : decide ((j : Int) < (j : Int)) = false := by simp
            clear hlj
            go_wp2
            exact ⟨⟨k + 1, U, by omega, rfl, by go_num, Lib.hid (by have := HU.out; have := HT.out; omega), Lib.hid (HR.out.trans ((HB.out.trans (HJ.out.mono HB.out.size)).mono HR.out.size))⟩, by simp [intOf]; omega⟩
      · obtain ⟨W4, hW4⟩ : ∃ W4, W4 = wr.alloc (.cells #[.slice ea na qa, .bool true, .int .u64 (ou : Int)] 64) := ⟨_, rfl⟩
        obtain ⟨g, hg⟩ : ∃ g, g = wr.heap.size := ⟨_, rfl⟩
        have sb : StB W4 g (.slice ea na qa) true ou := by rw [hW4, hg]; exact heap_alloc_new wr _
        have bb : Below wr.heap.size wr W4 := by rw [hW4]; exact below_alloc _ _
        go_upto_region 9 with fail
        rw [← hW4, ← hg]
        obtain ⟨E2, hE2, q2⟩ := one_any (w := W4) (n := 2 * na + 1) (x := ((2 * na + 1 : Nat) : Int)) rfl (by omega)
        obtain ⟨E3, hE3, q3⟩ := one_any (w := W4) (n := ou) (x := (ou : Int)) rfl hou64
        have Q2 := Lib.hid q2
        have Q3 := Lib.hid q3
        have HS : Hid (∀ W, Below W4.heap.size W4 W → StB W g (.slice ea na qa) true ou) := Lib.hid fun W hb => sb.kp (Kp.below (M := fun _ => False) hb) (fun h => h)
        have HB := Lib.hid bb
        have HT2 := Lib.hid (show (T ++ E2 ++ E3).size ≤ T.size + 18 by rw [ba_size_append, ba_size_append]; omega)
        clear q2 q3 sb bb hW4 hg
        have w1 : IntKind.i64.wrap (2 * (na : Int)) = ((2 * na : Nat) : Int) := by rw [IntWalk.i64_in _ (by omega)]; omega
        have w2' : IntKind.i64.wrap (2 * (na : Int) + 1) = 2 * (na : Int) + 1 := by rw [IntWalk.i64_in _ (by omega)]
        have hTs := HT.out
        refine Said.region_tail (by kernel_rfl) 13 (by kernel_rfl) (by kernel_rfl) (by kernel_rfl) [.is (.string T), .is (.pointer (some ⟨g, 0, none⟩)), .is (.slice ea na qa), .is (.int .i64 (na : Int)), .is (.int .i64 ((2 * na : Nat) : Int)), .is (.int .i64 ((2 * na + 1 : Nat) : Int)), .is (.int .u64 ((2 * na + 1 : Nat) : Int)), .is (.string E2), .is (.string (T ++ E2)), .is (.pointer (some ⟨g, 2, none⟩)), .is (.int .u64 (ou : Int)), .is (.string E3), .is (.string (T ++ E2 ++ E3))] ?_
        simp only [List.toList_toArray, List.take_succ_cons, List.take_zero, List.drop_succ_cons, List.drop_zero]
        iterate 4 (
          refine sq_pure (by rfl) (fun W hb _ => ?_) ?_
          · have y1 := (HS.out W hb).at0
            go_simp
          simp only [Act.put, List.setIfInBounds_toArray, List.set_cons_zero, List.set_cons_succ])
        iterate 3 (
          refine sq_pure (by rfl) (fun W hb _ => ?_) ?_
          · go_simp
            all_goals first | done | omega | (rw [IntKind.wrap_u64]; omega)
          simp only [Act.put, List.setIfInBounds_toArray, List.set_cons_zero, List.set_cons_succ])
        refine sq_call (f := 31) (args := #[.int .u64 ((2 * na + 1 : Nat) : Int)]) (by rfl) (fun W => by go_simp) (fun W hb _ => Q2.out W hb) ?_
        simp only [Act.put, List.setIfInBounds_toArray, List.set_cons_zero, List.set_cons_succ]
        iterate 3 (
          refine sq_pure (by rfl) (fun W hb _ => ?_) ?_
          · have y1 := (HS.out W hb).at2
            go_simp
            all_goals first | done | omega
          simp only [Act.put, List.setIfInBounds_toArray, List.set_cons_zero, List.set_cons_succ])
        refine sq_call (f := 31) (args := #[.int .u64 (ou : Int)]) (by rfl) (fun W => by go_simp) (fun W hb _ => Q3.out W hb) ?_
        simp only [Act.put, List.setIfInBounds_toArray, List.set_cons_zero, List.set_cons_succ]
        iterate 1 (
          refine sq_pure (by rfl) (fun W hb _ => by (go_simp; all_goals first | done | omega | (rw [IntKind.wrap_u64]; omega))) ?_
          simp only [Act.put, List.setIfInBounds_toArray, List.set_cons_zero, List.set_cons_succ])
        refine sq_end (fun W5 hb5 hK5 => ?_)
        generalize (T ++ E2 ++ E3 : ByteArray) = T2 at HT2 ⊢
        have H5 := Lib.hid hb5
        clear hK5 hb5 w1 w2' hTs
        go_wp2
        go_loopw [6, 9] (fun s6 s9 W => ∃ (j : Nat) (U : ByteArray), j ≤ na ∧ s6 = .string U ∧ s9 = .int .i64 j ∧ Hid (U.size ≤ T.size + 18 + j * 20) ∧ Hid (Below W4.heap.size W4 W)) (fun _ s9 _ => na - (intOf s9).toNat)
        case atStart => exact ⟨0, T2, Nat.zero_le _, rfl, rfl, Lib.hid (by have := HT2.out; omega), Lib.hid H5.out⟩
        case round =>
          obtain ⟨j, U, hj, rfl, rfl, HU, HJ⟩ := hrel
          have y0 := (HS.out wr HJ.out).at0
          by_cases hlj : j < na
          · have dj : decide ((j : Int) < (na : Int)) = true := by simp; omega
            have ij : (j : Int) < (na : Int) := by omega
            obtain ⟨b', o', e', hE⟩ := HY.out.1 j hlj
            subst e'
            obtain ⟨r2, r3, r4⟩ := hE.later (HB.out.trans (HJ.out.mono HB.out.size))
            obtain ⟨t1, t2⟩ := HY.out.2.1 j hlj
            obtain ⟨x1, x2, -, -⟩ := HY.out.2.2.2 j hlj
            obtain ⟨A, hA⟩ : ∃ A, arcAt y.arcs j = A := ⟨_, rfl⟩
            rw [hA] at r2 r3 r4 t1 t2 x1 x2
            obtain ⟨B, O, tt⟩ := A
            simp only at r2 r3 r4 t1 t2 x1 x2
            obtain ⟨d, hd⟩ : ∃ d : Nat, (k : Int) - tt = (d : Int) := ⟨((k : Int) - tt).toNat, by omega⟩
            have hdk : d ≤ k := by omega
            obtain ⟨Bs, hBs⟩ : ∃ Bs : ByteArray, Bs = ⟨#[UInt8.ofNat B]⟩ := ⟨_, rfl⟩
            have hBz : Bs.size = 1 := by rw [hBs]; rfl
            have HBs := Lib.hid hBs
            obtain ⟨p, hp⟩ : ∃ p, p = wr.heap.size := ⟨_, rfl⟩
            obtain ⟨W6, hW6⟩ : ∃ W6, W6 = wr.alloc (.cells #[.int .u8 (B : Int), .int .u64 (O : Int), .int .i64 tt] 66) := ⟨_, rfl⟩
            have ax : AxB W6 p B O tt := by rw [hW6, hp]; exact heap_alloc_new wr _
            have hb6 : Below wr.heap.size wr W6 := by rw [hW6]; exact below_alloc _ _
            have HX : Hid (∀ W, Below W6.heap.size W6 W → AxB W p B O tt) := Lib.hid fun W hb => ax.kp (Kp.below (M := fun _ => False) hb) (fun h => h)
            obtain ⟨F1, hF1, p1⟩ := one_any (w := W6) (n := O) (x := (O : Int)) rfl x2
            obtain ⟨F2, hF2, p2⟩ := one_any (w := W6) (n := d) (x := (d : Int)) rfl (by omega)
            have P1 := Lib.hid p1
            have P2 := Lib.hid p2
            have H6 := Lib.hid (HJ.out.trans (hb6.mono HJ.out.size))
            have HUZ := Lib.hid (show (U ++ Bs ++ F1 ++ F2).size ≤ U.size + 19 by rw [ba_size_append, ba_size_append, ba_size_append]; omega)
            clear hE hA hBs p1 p2 ax hb6
            go_upto_region 15 with fail
            rw [← hW6, ← hp]
            clear hW6 hp
            have hUs : U.size ≤ 4000 := by have := HU.out; have := HT.out; omega
            have w3 : IntKind.i64.wrap ((k : Int) - tt) = (d : Int) := by rw [IntWalk.i64_in _ (by omega)]; omega
            refine Said.region_tail (by kernel_rfl) 17 (by kernel_rfl) (by kernel_rfl) (by kernel_rfl) [.is (.string U), .is (.pointer (some ⟨p, 0, none⟩)), .is (.int .u8 (B : Int)), .has (fun v W => ∃ bb, v = .slice (some ⟨bb, 0, none⟩) 1 1 ∧ W.heap[bb]? = some (.cells #[.int .u8 (B : Int)] 5 (0, 0))),
              .is (.string Bs), .is (.string (U ++ Bs)), .is (.pointer (some ⟨p, 1, none⟩)), .is (.int .u64 (O : Int)), .is (.string F1), .is (.string (U ++ Bs ++ F1)), .is (.int .i64 (k : Int)), .is (.pointer (some ⟨p, 2, none⟩)), .is (.int .i64 tt), .is (.int .i64 (d : Int)), .is (.int .u64 (d : Int)), .is (.string F2), .is (.string (U ++ Bs ++ F1 ++ F2))] ?_
            simp only [List.toList_toArray, List.take_succ_cons, List.take_zero, List.drop_succ_cons, List.drop_zero]
            iterate 3 (
              refine sq_pure (by rfl) (fun W hb _ => ?_) ?_
              · have y1 := (HX.out W hb).at0
                go_simp
              simp only [Act.put, List.setIfInBounds_toArray, List.set_cons_zero, List.set_cons_succ])
            refine sq_has (one_mono B) (fun W hb _ => step_value (v := .slice (some ⟨W.heap.size, 0, none⟩) 1 1) (W' := W.alloc (.cells #[.int .u8 (B : Int)] 5)) (by rfl) (by go_simp) (below_alloc W _) ⟨W.heap.size, rfl, heap_alloc_new W _⟩) (fun v75 => ?_)
            simp only [Act.put, List.setIfInBounds_toArray, List.set_cons_zero, List.set_cons_succ]
            refine sq_pure (by rfl) (fun W hb hf => ?_) ?_
            · obtain ⟨bb, rfl, n1⟩ := hf.1 (by kernel_rfl)
              have cv := conv_one x1 n1
              rw [← HBs.out] at cv
              go_simp
            simp only [Act.put, List.setIfInBounds_toArray, List.set_cons_zero, List.set_cons_succ]
            iterate 3 (
              refine sq_pure (by rfl) (fun W hb _ => ?_) ?_
              · have y1 := (HX.out W hb).at1
                go_simp
                all_goals first | done | omega
              simp only [Act.put, List.setIfInBounds_toArray, List.set_cons_zero, List.set_cons_succ])
            refine sq_call (f := 31) (args := #[.int .u64 (O : Int)]) (by rfl) (fun W => by go_simp) (fun W hb _ => P1.out W hb) ?_
            simp only [Act.put, List.setIfInBounds_toArray, List.set_cons_zero, List.set_cons_succ]
            iterate 6 (
              refine sq_pure (by rfl) (fun W hb _ => ?_) ?_
              · have y1 := (HX.out W hb).at2
                go_simp
                all_goals first | done | omega | (rw [IntKind.wrap_u64]; omega) | (exact IntWalk.i64_in _ (by omega))
              simp only [Act.put, List.setIfInBounds_toArray, List.set_cons_zero, List.set_cons_succ])
            refine sq_call (f := 31) (args := #[.int .u64 (d : Int)]) (by rfl) (fun W => by go_simp) (fun W hb _ => P2.out W hb) ?_
            simp only [Act.put, List.setIfInBounds_toArray, List.set_cons_zero, List.set_cons_succ]
            refine sq_pure (by rfl) (fun W hb _ => by (go_simp; all_goals first | done | omega)) ?_
            simp only [Act.put, List.setIfInBounds_toArray, List.set_cons_zero, List.set_cons_succ]
            refine sq_end (fun W7 hb7 hK7 => ?_)
            generalize (U ++ Bs ++ F1 ++ F2 : ByteArray) = U2 at HUZ ⊢
            have H7 := Lib.hid (H6.out.trans (hb7.mono H6.out.size))
            clear hK7 hb7 w3
            go_wp2
            exact ⟨⟨j + 1, U2, by omega, rfl, by go_num, Lib.hid (by have := HUZ.out; have := HU.out; omega), H7⟩, by simp [intOf]; omega⟩
          · have hjn : j = na := by omega
            subst hjn
            have dj : decide ((j : Int) < (j : Int)) = false := by simp
            clear hlj
            go_wp2
            exact ⟨⟨k + 1, U, by omega, rfl, by go_num, Lib.hid (by have := HU.out; have := HT.out; omega), Lib.hid (HR.out.trans ((HB.out.trans (HJ.out.mono HB.out.size)).mono HR.out.size))⟩, by simp [intOf]; omega⟩
    · have hkm : k = m := by omega
      subst hkm
      have d1 : decide ((k : Int) < (k : Int)) = false := by simp
      obtain ⟨E9, hE9, q9⟩ := one_any (w := wr) (n := init) (x := (init : Int)) rfl hi
      have Q9 := Lib.hid q9
      have hts : (T ++ E9).size ≤ 4000 := by rw [ba_size_append]; have := HT.out; omega
      have hcat : T.size + E9.size ≤ 9223372036854775807 := by rw [ba_size_append] at hts; omega
      have HQS := Lib.hid fun W => refSeal_any (T ++ E9) W (by omega)
      have HTS := Lib.hid hts
      clear hlt q9 hts
      go_wp2_with (first
        | (go_at_call 31
           (with_reducible refine (Q9.out _ (Below.refl _ _)).mono ?_)
           go_loud (
           rintro e' w8 ⟨rfl, hb8⟩
           have H8 := Lib.hid hb8
           clear hb8))
        | (go_at_call 17
           (with_reducible refine (HQS.out _).mono ?_)
           go_loud (
           rintro e' w9 ⟨rfl, hb9⟩
           have H9 := Lib.hid hb9
           clear hb9)))
      go_ret2
      exact ⟨⟨_, rfl, by rw [sealed_size]; have := HTS.out; omega⟩, H1.out.1.trans ((H2.out.trans ((HR.out.trans ((H8.out.trans (H9.out.mono H8.out.size)).mono HR.out.size)).mono H2.out.size)).mono H1.out.1.size)⟩
end Go.Proofs.YtjiilmiikejnhaaDoor

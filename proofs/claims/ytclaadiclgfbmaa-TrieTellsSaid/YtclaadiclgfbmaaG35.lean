/-
  TrieTells: the walk.
-/
import Derived.Test.YtclaadiclgfbmaaG33
import Derived.Test.YtclaadiclgfbmaaG34
import Derived.IntWalk
import Derived.Deep.CutBlock
import Derived.Deep.DeepCutAuto
set_option linter.unusedVariables false
set_option linter.unusedSimpArgs false
namespace Go.Proofs.Ytclaadiclgfbmaa
open Go.RowKit Go.Shelf

theorem pair_start {w w1 : World} {T : Nat} {vf : Value} {L : List Ent} (hT : TrieAt w1 T (fun k => k ≠ T) (newT [])) (hE : Ents w1 vf L) (hb : Below w.heap.size w w1) (hlT : w.heap.size ≤ T) :
    Pair w T w1.heap.size vf L (newT []) [] (w1.alloc (.cells #[.slice none 0 0] 28)) := by
  have hl := hT.lt
  refine ⟨?_, ⟨none, 0, Boxed.new w1 _ _, Nat.le_refl _, by omega, ⟨none, 0, rfl, fun i hi => by simp at hi⟩⟩, hE.below (below_alloc _ _), by omega, hlT, hb.size, below_alloc' hb⟩
  obtain ⟨p, h1, h2, h3, h4⟩ := hT
  have h' : TrieAt w1 T (fun k => k ≠ T ∧ k < w1.heap.size) (newT []) := ⟨p, h1, h2.both, fun e => e.1 rfl, h4⟩
  exact (h'.below (below_alloc w1 (.cells #[.slice none 0 0] 28))).same (fun k hk => ⟨hk.1, by have := hk.2; omega⟩) (fun e => e.1 rfl) (fun _ _ _ => rfl)

theorem tmod_nat (n m : Nat) : ((n : Int)).tmod ((m : Int) + 1) = ((n % (m + 1) : Nat) : Int) := rfl
theorem emod_nat (n m : Nat) : ((n : Int)) % ((m : Int) + 1) = ((n % (m + 1) : Nat) : Int) := rfl

theorem run_neT (x y : Ent) (w : World) : Sem.run Try.prog (binOp .neq 33 (.agg (enc x).toArray) (.agg (enc y).toArray)) w = .ok (.bool (!eqE x y)) w := by
  have u9 := Try.underlying9
  have a9 := Try.isAgg9
  have z9 := Try.sizeOf9
  have u22 := Try.underlying31
  have a22 := Try.isAgg31
  have z22 := Try.sizeOf31
  have u4 := Try.underlying4
  have a4 := Try.isAgg4
  have z4 := Try.sizeOf4
  have hS : Try.prog.underlying 33 = some (.struct (Try.prog.fieldsOf 33)) := by kernel_rfl
  have hp : Try.prog.stoodInHeld 33 = false := by kernel_rfl
  unfold eqE
  simp only [enc]
  rw [run_neq_struct, show (10000 : Nat) = 9999 + 1 from rfl, run_equalIn_agg w 9999 33 _ _ hS hp]
  simp only [Program.fieldsOf, Try.underlying33]
  go_simp
  cases h1 : (x.word.toList == y.word.toList) <;> cases h2 : ((x.weight : Int) == (y.weight : Int)) <;> cases h3 : (x.gone == y.gone) <;> simp_all

theorem TrieAt.drew' {W : World} {T : Nat} {O : Nat → Prop} {t : Tr} (h : TrieAt W T O t) : TrieAt W.drew T O t := h.below (Below.refl _ W).drew

set_option maxHeartbeats 40000000 in
set_option maxRecDepth 100000 in
theorem trieTells_walk (l : List Ent) (v : Value) (s : ByteArray) (n : Nat) (w : World) (hv : Ents w v l) (hlen : l.length ≤ 9223372036854775807) (hs : ∀ x ∈ l, x.word.size ≤ 9223372036854775807) (hs2 : s.size ≤ 9223372036854775807) (hn : n ≤ 255) :
    Calls Try.prog 3 #[v, .string s, .int .u8 (n : Int)] w fun e w' => e = .returned (.bool true) ∧ Below w.heap.size w w' := by
  have HV := Lib.hid hv
  have QF := Lib.hid (few_any l v w hv hlen hs)
  clear hv
  go_enter Try.func3, Try.ntmps3
  go_upto_region 1 with fail
  go_cut [0, 1] from 17 to 23 (fun s0 s1 wx => s1 = .string (s.extract 0 (min (s.size : Int) 300).toNat) ∧ Hid (Ents wx s0 (fewE l) ∧ Below w.heap.size w wx))
  case first =>
    have QD : Hid (Calls Try.prog 14 #[v] w.drew fun e w' => ∃ v', e = .returned v' ∧ Ents w' v' (fewE l) ∧ Below w.heap.size w w') := Lib.hid (by
      refine (few_any l v w.drew (HV.out.below (Below.refl _ w).drew) hlen hs).mono ?_
      rintro e w' ⟨v', rfl, ho, hb⟩
      exact ⟨v', rfl, ents_of_owns ho, Below.next (Below.refl _ w).drew hb⟩)
    go_region_with (go_at_call 14; (with_reducible refine Calls.mono (QD.out) ?_); rintro e wf ⟨vf, rfl, ho, hb⟩; have HEB := Lib.hid (And.intro ho hb); clear hb ho)
    all_goals go_wp2_with fail
    all_goals go_meet
    all_goals exact ⟨rfl, HEB⟩
  case rest =>
  obtain ⟨rfl, HEF⟩ := hcut
  obtain ⟨wf, h⟩ : ∃ wf, wf = wc := ⟨_, rfl⟩
  subst h
  obtain ⟨adl, cl, hvl, -⟩ := HEF.out.1
  subst hvl
  have hmin : (min (s.size : Int) 300).toNat = min s.size 300 := by omega
  obtain ⟨b0, hb0⟩ : ∃ b0, b0 = s.extract 0 (min (s.size : Int) 300).toNat := ⟨_, rfl⟩
  have hb0s : b0.size ≤ 300 := by rw [hb0, ByteArray.size_extract]; omega
  rw [← hb0]
  clear hb0 hmin QF
  obtain ⟨L, hL⟩ : ∃ L, L = fewE l := ⟨_, rfl⟩
  have hLl : L.length ≤ 40 := by rw [hL]; exact fewE_length l
  have hLs : ∀ x ∈ L, x.word.size ≤ 300 := by rw [hL]; exact fewE_short l
  rw [← hL] at HEF ⊢
  clear hL
  have HNEW : Hid (Calls Try.prog 15 #[.slice none 0 0] wf fun e w' => ∃ T, e = .returned (.pointer (some ⟨T, 0, none⟩)) ∧ TrieAt w' T (fun k => k ≠ T) (newT []) ∧ wf.heap.size ≤ T ∧ Below wf.heap.size wf w') := Lib.hid (by
    refine (new_any [] (.slice none 0 0) wf ⟨none, 0, rfl, fun i hi => by simp at hi⟩ (by decide) (fun x hx => by cases hx)).mono ?_
    rintro e w' ⟨rfl, h1, h2⟩
    exact ⟨_, rfl, h1, Nat.le_refl _, h2⟩)
  go_upto_block 0 with (go_at_call 15; (with_reducible refine Calls.mono HNEW.out ?_); rintro e w1 ⟨T, rfl, hT, hTl, hb⟩; have HPS := Lib.hid (pair_start hT (HEF.out.1.below hb) (Below.next HEF.out.2 hb) (Nat.le_trans HEF.out.2.size hTl)); clear hb hT hTl)
  obtain ⟨R, hR⟩ : ∃ R, R = w1.heap.size := ⟨_, rfl⟩
  obtain ⟨w2, hw2⟩ : ∃ w2, w2 = w1.alloc (.cells #[.slice none 0 0] 28) := ⟨_, rfl⟩
  rw [← hw2, ← hR] at HPS
  rw [← hw2, ← hR]
  clear hw2 hR HNEW HEF
  obtain ⟨vl, hvl⟩ : ∃ vl, vl = (.slice adl L.length cl : Value) := ⟨_, rfl⟩
  rw [← hvl] at HPS
  go_cut [9] from 27 to 62 (fun s9 wx => ∃ z : Value, s9 = z ∧ Hid (Pair w T R vl L (newT L) ((newT L).all []) wx))
  case first =>
    go_wp2_with fail
    go_loopw [9] (fun s9 wr => ∃ k : Nat, k ≤ L.length ∧ s9 = .int .i64 k ∧ Hid (Pair w T R vl L (newT (L.take k)) ((newT (L.take k)).all []) wr)) (fun s9 _ => L.length - (intOf s9).toNat)
    case atStart => exact ⟨0, Nat.zero_le _, rfl, HPS⟩
    case round =>
      obtain ⟨k, hk, rfl, HP⟩ := hrel
      by_cases hlt : k < L.length
      · obtain ⟨t, ht⟩ : ∃ t, t = newT (L.take k) := ⟨_, rfl⟩
        obtain ⟨t', ht'⟩ : ∃ t', t' = newT (L.take (k + 1)) := ⟨_, rfl⟩
        obtain ⟨y, hy⟩ : ∃ y, y = ent L k := ⟨_, rfl⟩
        have htp : putT t y = t' := by rw [ht, ht', hy, take_ent L k hlt, newT_snoc]
        have hft : Fit t := by rw [ht]; exact newT_fit (by rw [List.length_take]; omega)
        have hft' : Fit t' := by rw [ht']; exact newT_fit (by rw [List.length_take]; omega)
        have hys : y.word.size ≤ 1000 := by rw [hy]; exact Nat.le_trans (hLs _ (ent_mem hlt)) (by decide)
        rw [← ht] at HP
        obtain ⟨b, o, hbo, hE⟩ : ∃ b o, adl = some ⟨b, o, none⟩ ∧ ∀ W, Ents W vl L → EntAt W b (o + k * 3) y := by
          obtain ⟨ad', c', hv', hx⟩ := HP.out.en
          rw [hvl] at hv'
          cases hv'
          obtain ⟨b, o, e1, e2⟩ := hx k hlt
          refine ⟨b, o, e1, fun W hW => ?_⟩
          obtain ⟨ad', c', hv', hx⟩ := hW
          rw [hvl] at hv'
          cases hv'
          obtain ⟨b', o', e3, e4⟩ := hx k hlt
          rw [e1] at e3
          injection e3 with e3
          injection e3 with e5 e6
          subst e5 e6
          rw [hy]; exact e4
        subst hbo
        have HX := Lib.hid hE
        obtain ⟨A, hA⟩ : ∃ A, A = t.all [] := ⟨_, rfl⟩
        obtain ⟨A', hA'⟩ : ∃ A', A' = t'.all [] := ⟨_, rfl⟩
        obtain ⟨ev, hev⟩ : ∃ ev : Int, ev = if wordT y.word = true then 0 else 7 := ⟨_, rfl⟩
        obtain ⟨nA, hnA⟩ : ∃ nA : Int, nA = (A'.length : Int) := ⟨_, rfl⟩
        obtain ⟨sA, hsA⟩ : ∃ sA : Int, sA = (sizeE A' : Int) := ⟨_, rfl⟩
        have HPUT : Hid (∀ W, Pair w T R vl L t A W → Calls Try.prog 16 #[.pointer (some ⟨T, 0, none⟩), .agg #[.string y.word, .int .u32 (y.weight : Int), .bool y.gone]] W fun e w' => e = .returned (.int .i64 ev) ∧ Pair w T R vl L t' A w') := Lib.hid fun W h => by
          have := h.put y hft hys
          rw [htp, ← hev] at this
          exact this
        have HRPUT : Hid (∀ W, Pair w T R vl L t' A W → Calls Try.prog 17 #[.pointer (some ⟨R, 0, none⟩), .agg #[.string y.word, .int .u32 (y.weight : Int), .bool y.gone]] W fun e w' => e = .returned (.int .i64 ev) ∧ Pair w T R vl L t' A' w' ∧ ∃ ad c, w'.cell? ⟨R, 0, none⟩ = some (.slice ad A'.length c)) := Lib.hid fun W h => by
          rw [hA] at h
          refine (h.rput y hft hys).mono ?_
          rintro e w' ⟨rfl, hp⟩
          rw [htp, ← hA'] at hp
          obtain ⟨v, h1, -, ad, c, rfl⟩ := hp.row
          exact ⟨by rw [← hev], hp, ad, c, h1⟩
        have HLEN : Hid (∀ W, Pair w T R vl L t' A' W → Calls Try.prog 18 #[.pointer (some ⟨T, 0, none⟩)] W fun e w' => e = .returned (.int .i64 (A'.length : Int)) ∧ W = w') := Lib.hid fun W h => by rw [hA']; exact len_at h.tr
        have HSIZE : Hid (∀ W, Pair w T R vl L t' A' W → Calls Try.prog 19 #[.pointer (some ⟨T, 0, none⟩)] W fun e w' => e = .returned (.int .i64 sA) ∧ Below W.heap.size W w') := Lib.hid fun W h => by rw [hsA, hA']; exact size_at h.tr hft'
        have HRSIZE : Hid (∀ W, Pair w T R vl L t' A' W → Calls Try.prog 20 #[.pointer (some ⟨R, 0, none⟩)] W fun e w' => e = .returned (.int .i64 sA) ∧ Below W.heap.size W w') := Lib.hid fun W h => by
          rw [hsA]
          refine (rsize_any A' R W h.rf (by rw [hA']; exact Nat.le_trans hft'.1 (by decide)) (by rw [hA']; exact hft'.2)).mono ?_
          rintro e w' ⟨rfl, hb⟩
          exact ⟨rfl, hb⟩
        have HT' := Lib.hid (And.intro ht' hA')
        rw [← hA] at HP
        clear hE ht ht' hy htp hft hft' hys hA hA' hev hnA hsA
        obtain ⟨c0, c1, c2⟩ := HX.out _ HP.out.en
        obtain ⟨d0, d1, d2⟩ := HX.out _ HP.out.drew.en
        go_upto_region 6 with fail
        have e1 : (ev == ev) = true := by simp
        have e2 : (sA == sA) = true := by simp
        have e3 : ((A'.length : Int) == (A'.length : Int)) = true := by simp
        go_region_with (first
          | (go_at_call 16; (with_reducible refine Calls.mono (HPUT.out _ (by repeat (first | with_reducible exact HP.out | (with_reducible refine Pair.drew ?_)))) ?_); rintro e w3 ⟨rfl, hp3⟩; obtain ⟨f0, f1, f2⟩ := HX.out _ hp3.en; have HP3 := Lib.hid hp3; clear hp3)
          | (go_at_call 17; (with_reducible refine Calls.mono (HRPUT.out _ (by repeat (first | with_reducible exact HP3.out | (with_reducible refine Pair.drew ?_)))) ?_); rintro e w4 ⟨rfl, hp4, adr, cr, cR⟩; have HP4 := Lib.hid hp4; clear hp4)
          | (go_at_call 18; (with_reducible refine Calls.mono (HLEN.out _ (by repeat (first | with_reducible exact HP4.out | (with_reducible refine Pair.drew ?_)))) ?_); rintro e w5 ⟨rfl, rfl⟩)
          | (go_at_call 19; (with_reducible refine Calls.mono (HSIZE.out _ (by repeat (first | with_reducible exact HP4.out | (with_reducible refine Pair.drew ?_)))) ?_); rintro e w5 ⟨rfl, hb5⟩; have HP5 := Lib.hid (Pair.below (by repeat (first | with_reducible exact HP4.out | (with_reducible refine Pair.drew ?_))) hb5); clear hb5)
          | (go_at_call 20; (with_reducible refine Calls.mono (HRSIZE.out _ (by repeat (first | with_reducible exact HP5.out | (with_reducible refine Pair.drew ?_)))) ?_); rintro e w6 ⟨rfl, hb6⟩; have HP6 := Lib.hid (Pair.below (by repeat (first | with_reducible exact HP5.out | (with_reducible refine Pair.drew ?_))) hb6); clear hb6))
        all_goals go_wp2_with fail
        all_goals
          obtain ⟨ht', hA'⟩ := HT'.out
          exact ⟨⟨k + 1, by omega, by go_num, Lib.hid (by rw [← ht', ← hA']; exact HP6.out)⟩, by simp [intOf]; omega⟩
      · obtain rfl : k = L.length := by omega
        rw [List.take_length] at HP
        go_wp2_with fail
        go_meet
        exact ⟨_, rfl, HP⟩
  case rest =>
  obtain ⟨z9, rfl, HPC⟩ := hcut
  subst hvl
  obtain ⟨w3, h⟩ : ∃ w3, w3 = wc := ⟨_, rfl⟩
  subst h
  obtain ⟨t, ht⟩ : ∃ t, t = newT L := ⟨_, rfl⟩
  have hft : Fit t := by rw [ht]; exact newT_fit (by omega)
  have hgood : t.Good := by rw [ht]; exact newT_good _
  rw [← ht] at HPC
  obtain ⟨A, hA⟩ : ∃ A, A = t.all [] := ⟨_, rfl⟩
  have hAl : A.length ≤ 500 := by rw [hA]; exact Nat.le_trans hft.1 (by decide)
  rw [← hA] at HPC
  have HAt := Lib.hid hA
  obtain ⟨vR, hvR, hER, adr, cr, hvr⟩ := HPC.out.row
  have HRF := Lib.hid HPC.out.rf
  have CR : Hid (∀ W, Below w3.heap.size w3 W → W.cell? ⟨R, 0, none⟩ = some vR ∧ Below w3.heap.size w3 W) := Lib.hid fun W h => by
    have hl : R < w3.heap.size := HRF.out.lt
    exact ⟨(h.cell (p := ⟨R, 0, none⟩) hl).trans hvR, h⟩
  have HER := Lib.hid (fun W (h : Below w3.heap.size w3 W) => hER.below h)
  have HEL := Lib.hid (fun W (h : Below w3.heap.size w3 W) => HPC.out.en.below h)
  have HPW := Lib.hid (fun W (h : Below w3.heap.size w3 W) => HPC.out.below h)
  have HWB := Lib.hid HPC.out.bl
  have HFT := Lib.hid hft
  have HGD := Lib.hid hgood
  have HTQ := Lib.hid ht
  have HLL := Lib.hid hLl
  have HAL := Lib.hid hAl
  subst hvr
  clear hvR hER HPC hA hgood ht hLl HPS hft
  have QA : Hid (∀ W T' , TrieAt W T' (fun k => k ≠ T') t → Calls Try.prog 22 #[.pointer (some ⟨T', 0, none⟩)] W fun e w' => ∃ v, e = .returned v ∧ Ents w' v A ∧ Below W.heap.size W w') := Lib.hid fun W T' h => by
    refine (all_at h HFT.out).mono ?_
    rintro e w' ⟨v, rfl, ho, hb⟩
    rw [← HAt.out] at ho
    exact ⟨v, rfl, ents_of_owns ho, hb⟩
  have QN : Hid (∀ W, Below w3.heap.size w3 W → Calls Try.prog 15 #[.slice adl L.length cl] W fun e w' => ∃ T', e = .returned (.pointer (some ⟨T', 0, none⟩)) ∧ TrieAt w' T' (fun k => k ≠ T') t ∧ Below W.heap.size W w') := Lib.hid fun W h => by
    rw [HTQ.out]
    exact new_ex L _ W (HEL.out W h) (by have := HLL.out; omega) (fun x hx => Nat.le_trans (hLs x hx) (by decide))
  have QS : Hid (∀ W v1 v2, Ents W v1 A → Ents W v2 A → Calls Try.prog 21 #[v1, v2] W fun e w' => e = .returned (.bool true) ∧ Below W.heap.size W w') := Lib.hid fun W v1 v2 h1 h2 => same_true A v1 v2 W h1 h2 (by have := HAL.out; omega)
  have HTT : Hid (∀ W, Below w3.heap.size w3 W → TrieAt W T (fun k => k ≠ T) t) := Lib.hid fun W h => (HPW.out W h).trie
  go_upto_region 8 with fail
  go_cut [81] from 63 to 80 (fun s81 wx => s81 = .bool false ∧ Hid (Below w3.heap.size w3 wx))
  case first =>
    obtain ⟨cR0, -⟩ := CR.out _ (Below.refl _ w3)
    go_region_held3 (fun W => W.cell? ⟨R, 0, none⟩ = some (.slice adr A.length cr) ∧ Below w3.heap.size w3 W)
      ((refine CR.out _ ?_; repeat (first | with_reducible assumption | with_reducible exact Below.refl _ _ | (with_reducible refine Below.drew ?_) | (with_reducible apply below_alloc'))))
      (first
        | (go_at_call 22; (first
            | ((with_reducible refine Calls.mono (QA.out _ T (HTT.out _ (by repeat (first | with_reducible assumption | with_reducible exact Below.refl _ _ | (with_reducible refine Below.drew ?_) | (with_reducible apply below_alloc'))))) ?_); rintro e wa ⟨va, rfl, hE, hb⟩; have N1 : Below w3.heap.size w3 wa := Below.next (by repeat (first | with_reducible assumption | with_reducible exact Below.refl _ _ | (with_reducible refine Below.drew ?_) | (with_reducible apply below_alloc'))) hb; have HEA := Lib.hid hE; clear hE hb)
            | ((with_reducible refine Calls.mono (QA.out _ T2 (by repeat (first | with_reducible exact HT2.out | (with_reducible apply TrieAt.drew')))) ?_); rintro e wd ⟨vd, rfl, hE, hb⟩; have N4 : Below w3.heap.size w3 wd := Below.next (by repeat (first | with_reducible assumption | with_reducible exact Below.refl _ _ | (with_reducible refine Below.drew ?_) | (with_reducible apply below_alloc'))) hb; have HED := Lib.hid hE; clear hE hb)))
        | (go_at_call 15; (with_reducible refine Calls.mono (QN.out _ (by repeat (first | with_reducible assumption | with_reducible exact Below.refl _ _ | (with_reducible refine Below.drew ?_) | (with_reducible apply below_alloc')))) ?_); rintro e wn ⟨T2, rfl, hT2, hb⟩; have N3 : Below w3.heap.size w3 wn := Below.next (by repeat (first | with_reducible assumption | with_reducible exact Below.refl _ _ | (with_reducible refine Below.drew ?_) | (with_reducible apply below_alloc'))) hb; have HT2 := Lib.hid hT2; clear hT2 hb)
        | (go_at_call 21; (first
            | ((with_reducible refine Calls.mono (QS.out _ vd _ (by repeat (first | with_reducible exact HED.out | (with_reducible apply ents_drew'))) (HER.out _ (by repeat (first | with_reducible assumption | with_reducible exact Below.refl _ _ | (with_reducible refine Below.drew ?_) | (with_reducible apply below_alloc'))))) ?_); rintro e we ⟨rfl, hb⟩; have N5 : Below w3.heap.size w3 we := Below.next (by repeat (first | with_reducible assumption | with_reducible exact Below.refl _ _ | (with_reducible refine Below.drew ?_) | (with_reducible apply below_alloc'))) hb; clear hb)
            | ((with_reducible refine Calls.mono (QS.out _ va _ (by repeat (first | with_reducible exact HEA.out | (with_reducible apply ents_drew'))) (HER.out _ (by repeat (first | with_reducible assumption | with_reducible exact Below.refl _ _ | (with_reducible refine Below.drew ?_) | (with_reducible apply below_alloc'))))) ?_); rintro e ws ⟨rfl, hb⟩; have N2 : Below w3.heap.size w3 ws := Below.next (by repeat (first | with_reducible assumption | with_reducible exact Below.refl _ _ | (with_reducible refine Below.drew ?_) | (with_reducible apply below_alloc'))) hb; clear hb))))
    all_goals go_wp2_with fail
    all_goals go_meet
    all_goals exact ⟨rfl, Lib.hid N5⟩
  case rest =>
  obtain ⟨rfl, HC3⟩ := hcut
  obtain ⟨w4, h⟩ : ∃ w4, w4 = wc := ⟨_, rfl⟩
  subst h
  obtain ⟨h0, hh0⟩ : ∃ h0 : Nat, h0 = n % (b0.size + 1) := ⟨_, rfl⟩
  have hh1 : h0 ≤ b0.size := by rw [hh0]; exact Nat.le_of_lt_succ (Nat.mod_lt n (Nat.succ_pos _))
  have hm0 : ((n : Int)).tmod ((b0.size : Int) + 1) = (h0 : Int) := by rw [hh0]; exact tmod_nat n b0.size
  have hm1 : ((n : Int)) % ((b0.size : Int) + 1) = (h0 : Int) := by rw [hh0]; exact emod_nat n b0.size
  have hp1 : IntKind.i64.wrap ((b0.size : Int) + 1) = (b0.size : Int) + 1 := IntWalk.i64_in _ (by omega)
  have hp2 : IntKind.i64.wrap (h0 : Int) = (h0 : Int) := IntWalk.i64_in _ (by omega)
  have hp3 : IntKind.i64.wrap (n : Int) = (n : Int) := IntWalk.i64_in _ (by omega)
  have hp4 : (h0 : Int) ≤ (b0.size : Int) := by omega
  have hp5 : ¬ ((b0.size : Int) + 1 = 0) := by omega
  have HH0 := Lib.hid (And.intro hh0 hh1)
  clear hh0
  go_upto_block 2 with fail
  have START : Hid ((w4.alloc (.cells #[.string b0, .string (b0.extract 0 h0), .string ⟨#[]⟩] 9)).ownsRow w4.heap.size 9 1 (.slice (some ⟨w4.heap.size, 0, none⟩) 3 3) ([b0, b0.extract 0 h0, ⟨#[]⟩] : List ByteArray).length (strs [b0, b0.extract 0 h0, ⟨#[]⟩]) ∧ Below w4.heap.size w4 (w4.alloc (.cells #[.string b0, .string (b0.extract 0 h0), .string ⟨#[]⟩] 9))) := Lib.hid ⟨⟨rfl, .inr ⟨w4.heap.size, 3, _, rfl, Nat.le_refl _, heap_alloc_new w4 _, Nat.le_refl _, by unfold maxLen; omega, rfl, rfl⟩⟩, below_alloc _ _⟩
  clear hm0 hm1 hp1 hp2 hp3 hp4 hp5
  generalize w4.alloc (.cells #[.string b0, .string (b0.extract 0 h0), .string ⟨#[]⟩] 9) = w5 at START ⊢
  have HLs := Lib.hid hLs
  clear hLs
  go_cut [10, 11] from 92 to 121 (fun s10 s11 wx => ∃ (z : Value) (X : List ByteArray), s11 = z ∧ X.length ≤ 200 ∧ (∀ x ∈ X, x.size ≤ 300) ∧ Hid (wx.ownsRow w4.heap.size 9 1 s10 X.length (strs X) ∧ Below w4.heap.size w4 wx))
  case first =>
    go_wp2_with fail
    go_loopw [10, 11] (fun s10 s11 wr => ∃ (k : Nat) (X : List ByteArray), k ≤ L.length ∧ s11 = .int .i64 k ∧ Hid (X.length = 3 + 2 * k) ∧ Hid (∀ x ∈ X, x.size ≤ 300) ∧ Hid (wr.ownsRow w4.heap.size 9 1 s10 X.length (strs X) ∧ Below w4.heap.size w4 wr)) (fun _ s11 _ => L.length - (intOf s11).toNat)
    case atStart => exact ⟨0, [b0, b0.extract 0 h0, ⟨#[]⟩], Nat.zero_le _, rfl, Lib.hid rfl, Lib.hid (fun x hx => by
      simp only [List.mem_cons, List.not_mem_nil, or_false] at hx
      rcases hx with rfl | rfl | rfl
      · exact hb0s
      · rw [ByteArray.size_extract]; omega
      · decide), START⟩
    case round =>
      obtain ⟨k, X, hk, rfl, HXL, HXS, HI⟩ := hrel
      have hXlb : X.length ≤ 200 := by have := HXL.out; have := HLL.out; omega
      by_cases hlt : k < L.length
      · obtain ⟨ad', c', hv', hx⟩ := HEL.out _ HC3.out
        cases hv'
        obtain ⟨b, o, rfl, hE1⟩ := hx k hlt
        obtain ⟨y, hy⟩ : ∃ y, y = ent L k := ⟨_, rfl⟩
        rw [← hy] at hE1
        have hys : y.word.size ≤ 300 := by rw [hy]; exact HLs.out _ (ent_mem hlt)
        have CW : Hid (∀ W, Below w4.heap.size w4 W → W.cell? ⟨b, o + k * 3, none⟩ = some (.string y.word)) := Lib.hid fun W h => (hE1.below h).1
        clear hx hy hE1
        have c0 := CW.out _ HI.out.2
        have hbr := HI.out.2
        obtain ⟨h, hh⟩ : ∃ h : Nat, h = n % (y.word.size + 1) := ⟨_, rfl⟩
        have hh1 : h ≤ y.word.size := by rw [hh]; exact Nat.le_of_lt_succ (Nat.mod_lt n (Nat.succ_pos _))
        have hm0 : ((n : Int)).tmod ((y.word.size : Int) + 1) = (h : Int) := by rw [hh]; exact tmod_nat n y.word.size
        have hm1 : ((n : Int)) % ((y.word.size : Int) + 1) = (h : Int) := by rw [hh]; exact emod_nat n y.word.size
        have hp1 : IntKind.i64.wrap ((y.word.size : Int) + 1) = (y.word.size : Int) + 1 := IntWalk.i64_in _ (by omega)
        have hp2 : IntKind.i64.wrap (h : Int) = (h : Int) := IntWalk.i64_in _ (by omega)
        have hp2' : IntKind.i64.wrap (((n : Int)).tmod ((y.word.size : Int) + 1)) = (h : Int) := by rw [hm0]; exact hp2
        have hp3 : IntKind.i64.wrap (n : Int) = (n : Int) := IntWalk.i64_in _ (by omega)
        have hp4 : (h : Int) ≤ (y.word.size : Int) := by omega
        have hp5 : ¬ ((y.word.size : Int) + 1 = 0) := by omega
        have hp6 : (y.word.size : Int) ≤ 300 := by omega
        have hLl := HLL.out
        clear hh
        obtain ⟨adn, cn, rfl⟩ : ∃ ad c, u10 = .slice ad X.length c := by
          rcases HI.out.1.2 with ⟨rfl, h0⟩ | ⟨g, cap, cur, rfl, _⟩
          · exact ⟨none, 0, by rw [h0]⟩
          · exact ⟨_, _, rfl⟩
        have hownX := HI.out.1
        have hlen2 : X.length + 2 ≤ 1000000 := by omega
        have HCW : Hid (∀ W, Below w4.heap.size w4 W → W.cell? ⟨b, o + k * 3, none⟩ = some (.string y.word) ∧ Below w4.heap.size w4 W) := Lib.hid fun W h => ⟨CW.out _ h, h⟩
        go_wp2
        go_region_held_law (fun W => W.cell? ⟨b, o + k * 3, none⟩ = some (.string y.word) ∧ Below w4.heap.size w4 W)
          ((refine HCW.out _ ?_; repeat (first | (with_reducible assumption) | (with_reducible apply below_drew') | (with_reducible apply below_alloc'))))
          ((refine step_append_strs (w0 := w4) rfl (.tmp 98) (.tmp 120) rfl rfl (.slice adn X.length cn) (.slice (some ⟨_, 0, none⟩) 2 2) X [y.word, y.word.extract 0 h] rfl rfl (by repeat (first | (with_reducible assumption) | (with_reducible apply below_drew') | (with_reducible apply below_alloc'))) (by repeat (first | (with_reducible assumption) | (with_reducible apply owns_drew') | (with_reducible apply World.ownsRow.alloc))) (by repeat (first | (with_reducible exact strs_two rfl) | (with_reducible apply strs_drew'))) (by simpa using hlen2) ?_; intro v' w' o1 g1 b1))
        all_goals (simp only [Act.put, List.getElem_toArray, List.getElem_cons_succ, List.getElem_cons_zero, List.setIfInBounds_toArray, List.set_cons_zero, List.set_cons_succ])
        all_goals go_wp2_with fail
        all_goals
          have HXN : Hid (∀ x ∈ X ++ [y.word, y.word.extract 0 h], x.size ≤ 300) := Lib.hid (fun x hx => by
            rcases List.mem_append.1 hx with hx | hx
            · exact HXS.out x hx
            · simp only [List.mem_cons, List.not_mem_nil, or_false] at hx
              rcases hx with rfl | rfl
              · omega
              · rw [ByteArray.size_extract]; omega)
          exact ⟨⟨k + 1, X ++ [y.word, y.word.extract 0 h], by omega, by go_num, Lib.hid (by rw [List.length_append, HXL.out]; simp; omega), HXN, Lib.hid ⟨o1, b1⟩⟩, by simp [intOf]; omega⟩
      · go_wp2_with fail
        go_meet
        exact ⟨_, X, rfl, hXlb, HXS.out, HI⟩
  case rest =>
  obtain ⟨z11, X, rfl, hXlen, hXs, HW⟩ := hcut
  obtain ⟨w6, h⟩ : ∃ w6, w6 = wc := ⟨_, rfl⟩
  subst h
  obtain ⟨adx, cx, hvx, hxc⟩ := strs_of_owns HW.out.1
  subst hvx
  have HXC : Hid (∀ W, Below w6.heap.size w6 W → ∀ i, i < X.length → ∃ b o, adx = some ⟨b, o, none⟩ ∧ W.cell? ⟨b, o + i, none⟩ = some (.string (X.getD i ⟨#[]⟩))) := Lib.hid fun W h i hi => by
    obtain ⟨b, o, h1, h2⟩ := hxc i hi
    exact ⟨b, o, h1, (h.cell (p := ⟨b, o + i, none⟩) (block_lt_of_cell h2)).trans h2⟩
  have HXS := Lib.hid hXs
  have H36 : Hid (Below w3.heap.size w3 w6) := Lib.hid (Below.next HC3.out HW.out.2)
  have HPW6 := Lib.hid (fun W (h : Below w6.heap.size w6 W) => HPW.out W (Below.next H36.out h))
  clear hxc hXs START HW
  go_wp2_with fail
  go_loopw [12] (fun s12 wr => ∃ k : Nat, k ≤ X.length ∧ s12 = .int .i64 k ∧ Hid (Below w6.heap.size w6 wr)) (fun s12 _ => X.length - (intOf s12).toNat)
  case atStart => exact ⟨0, Nat.zero_le _, rfl, Lib.hid (Below.refl _ _)⟩
  case round =>
    obtain ⟨k, hk, rfl, HK⟩ := hrel
    obtain ⟨wz, h⟩ : ∃ wz, wz = wr := ⟨_, rfl⟩
    subst h
    by_cases hlt : k < X.length
    · obtain ⟨bx, ox, rfl, cxb⟩ := HXC.out _ HK.out k hlt
      obtain ⟨bs, hbs⟩ : ∃ bs, bs = X.getD k ⟨#[]⟩ := ⟨_, rfl⟩
      have hbz : bs.size ≤ 300 := by
        rw [hbs]
        refine HXS.out _ ?_
        rw [List.getD_eq_getElem?_getD, List.getElem?_eq_getElem hlt]
        exact List.getElem_mem hlt
      have HCX : Hid (∀ W, Below wz.heap.size wz W → W.cell? ⟨bx, ox + k, none⟩ = some (.string bs)) := Lib.hid fun W h => by
        obtain ⟨b', o', e1, e2⟩ := HXC.out W (Below.next HK.out h) k hlt
        injection e1 with e1
        injection e1 with e3 e4
        subst e3 e4
        rw [hbs]; exact e2
      rw [← hbs] at cxb
      clear hbs
      have HPZ : Hid (∀ W, Below wz.heap.size wz W → Pair w T R (.slice adl L.length cl) L t A W) := Lib.hid fun W h => HPW6.out W (Below.next HK.out h)
      obtain ⟨gE, hgE⟩ : ∃ gE, gE = gotE t bs := ⟨_, rfl⟩
      obtain ⟨gI, hgI⟩ : ∃ gI, gI = (t.get bs.data.toList).isSome := ⟨_, rfl⟩
      obtain ⟨U, hU⟩ : ∃ U, U = underT A bs.data.toList := ⟨_, rfl⟩
      have hUl : U.length ≤ 1000000 := by rw [hU]; exact Nat.le_trans (under_length A _) (by have := HAL.out; omega)
      have hA5 : ∀ x ∈ A, x.word.size ≤ 255 := by rw [HAt.out]; exact HFT.out.2
      have HG : Hid (∀ W, Below wz.heap.size wz W → Calls Try.prog 23 #[.pointer (some ⟨T, 0, none⟩), .string bs] W fun e w' => e = .returned (.tuple #[.agg #[.string gE.word, .int .u32 (gE.weight : Int), .bool gE.gone], .bool gI]) ∧ Below W.heap.size W w') := Lib.hid fun W h => by
        have := get_any t T _ bs W (HPZ.out W h).tr (by omega)
        unfold gotV at this
        rw [← hgE, ← hgI] at this
        exact this
      have HRG : Hid (∀ W, Below wz.heap.size wz W → Calls Try.prog 24 #[.pointer (some ⟨R, 0, none⟩), .string bs] W fun e w' => e = .returned (.tuple #[.agg #[.string gE.word, .int .u32 (gE.weight : Int), .bool gE.gone], .bool gI]) ∧ Below W.heap.size W w') := Lib.hid fun W h => by
        have := rget_any t R bs W (by have := (HPZ.out W h).rf; rw [HAt.out] at this; exact this) (by rw [← HAt.out]; exact HAL.out)
        unfold gotV at this
        rw [← hgE, ← hgI] at this
        exact this
      have HU : Hid (∀ W, Below wz.heap.size wz W → Calls Try.prog 25 #[.pointer (some ⟨T, 0, none⟩), .string bs] W fun e w' => ∃ v, e = .returned v ∧ Ents w' v U ∧ Below W.heap.size W w') := Lib.hid fun W h => by
        refine (under_at (HPZ.out W h).tr HFT.out bs (by omega)).mono ?_
        rintro e w' ⟨v, rfl, ho, hb⟩
        rw [← HAt.out, ← hU] at ho
        exact ⟨v, rfl, ents_of_owns ho, hb⟩
      have HRU : Hid (∀ W, Below wz.heap.size wz W → Calls Try.prog 26 #[.pointer (some ⟨R, 0, none⟩), .string bs] W fun e w' => ∃ v, e = .returned v ∧ Ents w' v U ∧ Below W.heap.size W w') := Lib.hid fun W h => by
        refine (runder_any A R bs W (HPZ.out W h).rf HAL.out hA5 (by omega)).mono ?_
        rintro e w' ⟨v, rfl, ho, hb⟩
        rw [← hU] at ho
        exact ⟨v, rfl, ents_of_owns ho, hb⟩
      have HND : Hid (∀ W, Below wz.heap.size wz W → Calls Try.prog 27 #[.pointer (some ⟨T, 0, none⟩), .pointer (some ⟨R, 0, none⟩), .string bs] W fun e w' => e = .returned (.bool true) ∧ Below W.heap.size W w') := Lib.hid fun W h => nodes_any t T R bs W (HPZ.out W h).trie HFT.out (by have := (HPZ.out W h).rf; rw [HAt.out] at this; exact this) (by omega)
      have HS : Hid (∀ W v1 v2, Ents W v1 U → Ents W v2 U → Calls Try.prog 21 #[v1, v2] W fun e w' => e = .returned (.bool true) ∧ Below W.heap.size W w') := Lib.hid fun W v1 v2 h1 h2 => same_true U v1 v2 W h1 h2 hUl
      have HNE : Hid (∀ W, Sem.run Try.prog (binOp .neq 33 (.agg #[.string gE.word, .int .u32 (gE.weight : Int), .bool gE.gone]) (.agg #[.string gE.word, .int .u32 (gE.weight : Int), .bool gE.gone])) W = .ok (.bool false) W) := Lib.hid fun W => by
        have := run_neT gE gE W
        rw [eqE_self] at this
        exact this
      have cxD := HCX.out wz.drew (Below.refl _ wz).drew
      clear hgE hgI hU hUl hA5
      go_upto_region 20 with (first
        | (go_at_call 23; (with_reducible refine Calls.mono (HG.out _ (Below.refl _ wz)) ?_); rintro e wg ⟨rfl, hb⟩; have N1 : Below wz.heap.size wz (wg.alloc (.cells #[.string gE.word, .int .u32 (gE.weight : Int), .bool gE.gone] 33)) := below_alloc' hb; have cxg := HCX.out _ N1; clear hb)
        | (go_at_call 24; (with_reducible refine Calls.mono (HRG.out _ N1) ?_); rintro e wh ⟨rfl, hb⟩; have NH := Lib.hid hb; have cxh := HCX.out _ (Below.next N1 hb); clear hb))
      obtain ⟨wB, hwB⟩ : ∃ wB, wB = wh.alloc (.cells #[.string gE.word, .int .u32 (gE.weight : Int), .bool gE.gone] 33) := ⟨_, rfl⟩
      have HZB : Hid (Below wz.heap.size wz wB) := Lib.hid (by rw [hwB]; exact below_alloc' (Below.next N1 NH.out))
      have CX : Hid (∀ W, Below wB.heap.size wB W → W.cell? ⟨bx, ox + k, none⟩ = some (.string bs) ∧ (W.cell? ⟨wg.heap.size, 0, none⟩ = some (.string gE.word) ∧ W.cell? ⟨wg.heap.size, 1, none⟩ = some (.int .u32 (gE.weight : Int)) ∧ W.cell? ⟨wg.heap.size, 2, none⟩ = some (.bool gE.gone)) ∧ (W.cell? ⟨wh.heap.size, 0, none⟩ = some (.string gE.word) ∧ W.cell? ⟨wh.heap.size, 1, none⟩ = some (.int .u32 (gE.weight : Int)) ∧ W.cell? ⟨wh.heap.size, 2, none⟩ = some (.bool gE.gone))) := Lib.hid fun W h => ⟨HCX.out W (Below.next HZB.out h), box_kept (Below.next (by rw [hwB]; exact below_alloc' NH.out) h), box_kept (by rw [← hwB]; exact h)⟩
      have HUB := Lib.hid (fun W (h : Below wB.heap.size wB W) => HU.out W (Below.next HZB.out h))
      have HRUB := Lib.hid (fun W (h : Below wB.heap.size wB W) => HRU.out W (Below.next HZB.out h))
      have HNDB := Lib.hid (fun W (h : Below wB.heap.size wB W) => HND.out W (Below.next HZB.out h))
      rw [← hwB]
      clear hwB N1 NH HU HRU HND HG HRG HPZ cxb cxD cxg cxh HCX
      obtain ⟨b0x, ⟨b1, b2, b3⟩, b4, b5, b6⟩ := CX.out _ (Below.refl _ wB)
      have hne := HNE.out
      have eI : (gI == gI) = true := by simp
      have CXB : Hid (∀ W, Below wB.heap.size wB W → W.cell? ⟨bx, ox + k, none⟩ = some (.string bs) ∧ (W.cell? ⟨wg.heap.size, 0, none⟩ = some (.string gE.word) ∧ W.cell? ⟨wg.heap.size, 1, none⟩ = some (.int .u32 (gE.weight : Int)) ∧ W.cell? ⟨wg.heap.size, 2, none⟩ = some (.bool gE.gone)) ∧ (W.cell? ⟨wh.heap.size, 0, none⟩ = some (.string gE.word) ∧ W.cell? ⟨wh.heap.size, 1, none⟩ = some (.int .u32 (gE.weight : Int)) ∧ W.cell? ⟨wh.heap.size, 2, none⟩ = some (.bool gE.gone)) ∧ Below wB.heap.size wB W) := Lib.hid fun W h => ⟨(CX.out W h).1, (CX.out W h).2.1, (CX.out W h).2.2, h⟩
      go_cut [183] from 146 to 182 (fun s183 wx => s183 = .bool false ∧ Hid (Below wB.heap.size wB wx))
      case first =>
        by_cases h12 : k < 12
        · have e12 : decide ((k : Int) < 12) = true := decide_eq_true (by omega)
          have e12' : (k : Int) < 12 := by omega
          have hME : Mono (fun v W => Ents W v U) := fun v W W' hb h => Ents.below h hb
          refine Said.region (by kernel_rfl) (by kernel_rfl) (by kernel_rfl) [.is (.agg #[.string gE.word, .int .u32 (gE.weight : Int), .bool gE.gone]), .is (.agg #[.string gE.word, .int .u32 (gE.weight : Int), .bool gE.gone]), .is (.bool false), .is (.bool false), .is (.bool gI), .is (.bool gI), .is (.bool false), .is (.bool false), .is (.bool false),
            .is (.pointer (some ⟨T, 0, none⟩)), .is (.slice (some ⟨bx, ox, none⟩) X.length cx), .is (.int .i64 (k : Int)), .is (.pointer (some ⟨bx, ox + k, none⟩)), .is (.string bs), .has (fun v W => Ents W v U),
            .is (.pointer (some ⟨R, 0, none⟩)), .is (.slice (some ⟨bx, ox, none⟩) X.length cx), .is (.int .i64 (k : Int)), .is (.pointer (some ⟨bx, ox + k, none⟩)), .is (.string bs), .has (fun v W => Ents W v U),
            .is (.bool true), .is (.bool false), .is (.bool false), .is (.bool false), .is (.int .i64 (k : Int)), .is (.bool true), .is (.bool true),
            .is (.pointer (some ⟨T, 0, none⟩)), .is (.pointer (some ⟨R, 0, none⟩)), .is (.slice (some ⟨bx, ox, none⟩) X.length cx), .is (.int .i64 (k : Int)), .is (.pointer (some ⟨bx, ox + k, none⟩)), .is (.string bs), .is (.bool true), .is (.bool false), .is (.bool false), .is (.bool false)] ?_
          simp only [List.toList_toArray]
          iterate 14 (
            refine sq_pure (by rfl) (fun W hb _ => ?_) ?_
            · obtain ⟨g0, ⟨g1, g2, g3⟩, g4, g5, g6⟩ := CX.out W hb
              go_simp
            simp only [Act.put, List.setIfInBounds_toArray, List.set_cons_zero, List.set_cons_succ])
          refine sq_calls (f := 25) (args := #[.pointer (some ⟨T, 0, none⟩), .string bs]) hME (by rfl) (fun W => by go_simp) (fun W hb _ => HUB.out W hb) (fun vu => ?_)
          simp only [Act.put, List.setIfInBounds_toArray, List.set_cons_zero, List.set_cons_succ]
          iterate 5 (
            refine sq_pure (by rfl) (fun W hb _ => ?_) ?_
            · obtain ⟨g0, ⟨g1, g2, g3⟩, g4, g5, g6⟩ := CX.out W hb
              go_simp
            simp only [Act.put, List.setIfInBounds_toArray, List.set_cons_zero, List.set_cons_succ])
          refine sq_calls (f := 26) (args := #[.pointer (some ⟨R, 0, none⟩), .string bs]) hME (by rfl) (fun W => by go_simp) (fun W hb _ => HRUB.out W hb) (fun vv => ?_)
          simp only [Act.put, List.setIfInBounds_toArray, List.set_cons_zero, List.set_cons_succ]
          refine sq_call (f := 21) (args := #[vu, vv]) (by rfl) (fun W => by go_simp) (fun W hb hf => HS.out W vu vv (hf.2.1 (by kernel_rfl)) (hf.1 (by kernel_rfl))) ?_
          simp only [Act.put, List.setIfInBounds_toArray, List.set_cons_zero, List.set_cons_succ]
          iterate 12 (
            refine sq_pure (by rfl) (fun W hb _ => ?_) ?_
            · obtain ⟨g0, ⟨g1, g2, g3⟩, g4, g5, g6⟩ := CX.out W hb
              go_simp
            simp only [Act.put, List.setIfInBounds_toArray, List.set_cons_zero, List.set_cons_succ])
          refine sq_call (f := 27) (args := #[.pointer (some ⟨T, 0, none⟩), .pointer (some ⟨R, 0, none⟩), .string bs]) (by rfl) (fun W => by go_simp) (fun W hb _ => HNDB.out W hb) ?_
          simp only [Act.put, List.setIfInBounds_toArray, List.set_cons_zero, List.set_cons_succ]
          iterate 3 (
            refine sq_pure (by rfl) (fun W hb _ => ?_) ?_
            · obtain ⟨g0, ⟨g1, g2, g3⟩, g4, g5, g6⟩ := CX.out W hb
              go_simp
            simp only [Act.put, List.setIfInBounds_toArray, List.set_cons_zero, List.set_cons_succ])
          refine sq_end (fun W hb _ => ?_)
          go_wp2_with fail
          go_meet
          exact ⟨rfl, Lib.hid hb⟩
        · have e12 : decide ((k : Int) < 12) = false := decide_eq_false (by omega)
          have e12' : ¬ (k : Int) < 12 := by omega
          have hME : Mono (fun v W => Ents W v U) := fun v W W' hb h => Ents.below h hb
          refine Said.region (by kernel_rfl) (by kernel_rfl) (by kernel_rfl) [.is (.agg #[.string gE.word, .int .u32 (gE.weight : Int), .bool gE.gone]), .is (.agg #[.string gE.word, .int .u32 (gE.weight : Int), .bool gE.gone]), .is (.bool false), .is (.bool false), .is (.bool gI), .is (.bool gI), .is (.bool false), .is (.bool false), .is (.bool false),
            .is (.pointer (some ⟨T, 0, none⟩)), .is (.slice (some ⟨bx, ox, none⟩) X.length cx), .is (.int .i64 (k : Int)), .is (.pointer (some ⟨bx, ox + k, none⟩)), .is (.string bs), .has (fun v W => Ents W v U),
            .is (.pointer (some ⟨R, 0, none⟩)), .is (.slice (some ⟨bx, ox, none⟩) X.length cx), .is (.int .i64 (k : Int)), .is (.pointer (some ⟨bx, ox + k, none⟩)), .is (.string bs), .has (fun v W => Ents W v U),
            .is (.bool true), .is (.bool false), .is (.bool false), .is (.bool false), .is (.int .i64 (k : Int)), .is (.bool false), .is (.bool false),
            .is undef, .is undef, .is undef, .is undef, .is undef, .is undef, .is undef, .is undef, .is (.bool false), .is (.bool false)] ?_
          simp only [List.toList_toArray]
          iterate 14 (
            refine sq_pure (by rfl) (fun W hb _ => ?_) ?_
            · obtain ⟨g0, ⟨g1, g2, g3⟩, g4, g5, g6⟩ := CX.out W hb
              go_simp
            simp only [Act.put, List.setIfInBounds_toArray, List.set_cons_zero, List.set_cons_succ])
          refine sq_calls (f := 25) (args := #[.pointer (some ⟨T, 0, none⟩), .string bs]) hME (by rfl) (fun W => by go_simp) (fun W hb _ => HUB.out W hb) (fun vu => ?_)
          simp only [Act.put, List.setIfInBounds_toArray, List.set_cons_zero, List.set_cons_succ]
          iterate 5 (
            refine sq_pure (by rfl) (fun W hb _ => ?_) ?_
            · obtain ⟨g0, ⟨g1, g2, g3⟩, g4, g5, g6⟩ := CX.out W hb
              go_simp
            simp only [Act.put, List.setIfInBounds_toArray, List.set_cons_zero, List.set_cons_succ])
          refine sq_calls (f := 26) (args := #[.pointer (some ⟨R, 0, none⟩), .string bs]) hME (by rfl) (fun W => by go_simp) (fun W hb _ => HRUB.out W hb) (fun vv => ?_)
          simp only [Act.put, List.setIfInBounds_toArray, List.set_cons_zero, List.set_cons_succ]
          refine sq_call (f := 21) (args := #[vu, vv]) (by rfl) (fun W => by go_simp) (fun W hb hf => HS.out W vu vv (hf.2.1 (by kernel_rfl)) (hf.1 (by kernel_rfl))) ?_
          simp only [Act.put, List.setIfInBounds_toArray, List.set_cons_zero, List.set_cons_succ]
          iterate 6 (
            refine sq_pure (by rfl) (fun W hb _ => ?_) ?_
            · obtain ⟨g0, ⟨g1, g2, g3⟩, g4, g5, g6⟩ := CX.out W hb
              go_simp
            simp only [Act.put, List.setIfInBounds_toArray, List.set_cons_zero, List.set_cons_succ])
          iterate 8 (
            refine sq_struck (by rfl) ?_
            simp only [Act.put, List.setIfInBounds_toArray, List.set_cons_zero, List.set_cons_succ])
          iterate 2 (
            refine sq_pure (by rfl) (fun W hb _ => ?_) ?_
            · obtain ⟨g0, ⟨g1, g2, g3⟩, g4, g5, g6⟩ := CX.out W hb
              go_simp
            simp only [Act.put, List.setIfInBounds_toArray, List.set_cons_zero, List.set_cons_succ])
          refine sq_end (fun W hb _ => ?_)
          go_wp2_with fail
          go_meet
          exact ⟨rfl, Lib.hid hb⟩
      case rest =>
      obtain ⟨rfl, HC⟩ := hcut
      go_wp2_with fail
      exact ⟨⟨k + 1, by omega, by go_num, Lib.hid (Below.next HK.out (Below.next HZB.out HC.out))⟩, by simp [intOf]; omega⟩
    · obtain rfl : k = X.length := by omega
      have QW := Lib.hid (works_any wz)
      go_wp2_with (go_at_call 28; (with_reducible refine Calls.mono QW.out ?_); rintro e wk ⟨rfl, hb⟩; have HB9 := Lib.hid hb; clear hb)
      go_ret
      exact ⟨rfl, Below.next (Below.next HWB.out H36.out) (Below.next HK.out HB9.out)⟩
end Go.Proofs.Ytclaadiclgfbmaa

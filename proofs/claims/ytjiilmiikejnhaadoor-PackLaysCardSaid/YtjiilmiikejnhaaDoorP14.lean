/-
  May a transducer be laid?
-/
import Derived.Test.YtjiilmiikejnhaaDoorP06
import Derived.WalkMore
import Derived.Deep.RegionWith
import Derived.BigQuiet
set_option linter.unusedVariables false
set_option linter.unusedSimpArgs false
namespace Go.Proofs.YtjiilmiikejnhaaDoor
open Go.RowKit Go.Shelf

theorem ArcIn.later {w w' : World} {b o : Nat} {a : DArc} (h : ArcIn w b o a) (hb : Below w.heap.size w w') : ArcIn w' b o a := h.kept (hb.block b h.lt)
theorem maySs_of : ∀ {l : List DSt} {o : Nat}, (∀ i, i < l.length → mayS (o + i) (stAt l i) = true) → maySs o l = true
  | [], _, _ => rfl
  | s :: l, o, h => by
    unfold maySs
    have h0 := h 0 (by simp)
    have h1 : maySs (o + 1) l = true := maySs_of fun i hi => by
      have := h (i + 1) (by simpa using hi)
      rw [show o + 1 + i = o + (i + 1) by omega]
      exact this
    rw [h1, Bool.and_true]
    exact h0
theorem maySs_not : ∀ {l : List DSt} {o i : Nat}, i < l.length → mayS (o + i) (stAt l i) = false → maySs o l = false
  | [], _, i, h, _ => by simp at h
  | s :: l, o, 0, _, h => by
    unfold maySs
    rw [show mayS o s = false from h, Bool.false_and]
  | s :: l, o, i + 1, hi, h => by
    unfold maySs
    rw [maySs_not (o := o + 1) (i := i) (by simpa using hi) (by rw [show o + 1 + i = o + (i + 1) by omega]; exact h), Bool.and_false]
theorem mayS_all {own : Nat} {s : DSt} (h1 : s.arcs.length ≤ 256) (h2 : s.fin = false → s.out = 0) (h3 : ∀ i, i < s.arcs.length → 0 ≤ (arcAt s.arcs i).to ∧ (arcAt s.arcs i).to < (own : Int)) : mayS own s = true := by
  unfold mayS
  rw [decide_eq_true h1, Bool.true_and, Bool.and_eq_true]
  refine ⟨?_, ?_⟩
  · cases hf : s.fin with
    | true => rfl
    | false => simp [h2 hf]
  · rw [List.all_eq_true]
    intro a ha
    obtain ⟨i, hi, rfl⟩ := List.getElem_of_mem ha
    have := h3 i hi
    rw [arcAt_lt hi] at this
    simp [mayA, this.1, this.2]
theorem mayS_long {own : Nat} {s : DSt} (h : ¬ s.arcs.length ≤ 256) : mayS own s = false := by simp [mayS, h]
theorem mayS_out {own : Nat} {s : DSt} (h1 : s.fin = false) (h2 : s.out ≠ 0) : mayS own s = false := by simp [mayS, h1, h2]
theorem mayS_arc {own : Nat} {s : DSt} {i : Nat} (hi : i < s.arcs.length) (h : ¬ (0 ≤ (arcAt s.arcs i).to ∧ (arcAt s.arcs i).to < (own : Int))) : mayS own s = false := by
  have : s.arcs.all (mayA own) = false := by
    rw [List.all_eq_false]
    refine ⟨s.arcs[i], List.getElem_mem hi, ?_⟩
    rw [arcAt_lt hi] at h
    simp only [mayA, Bool.and_eq_true, decide_eq_true_eq]
    exact h
  simp [mayS, this]

set_option maxHeartbeats 4000000 in
set_option maxRecDepth 100000 in
theorem may_any {w : World} {n : Int} {v : Value} {l : List DSt} {init : Nat} (h : Sts w v l) (hl : l.length ≤ 100000) (ha : ∀ s ∈ l, s.arcs.length ≤ 100000) :
    Calls Tryd.prog 25 #[.int .i64 n, .agg #[v, .int .u64 (init : Int)]] w fun e w' => e = .returned (.bool (mayT n l)) ∧ Below w.heap.size w w' := by
  obtain ⟨ad, c, rfl, hc⟩ := h
  have HC : Hid (∀ W, Below w.heap.size w W → ∀ i, i < l.length → ∃ b o, ad = some ⟨b, o, none⟩ ∧ StIn W b (o + i * 3) (stAt l i)) := Lib.hid fun W hb i hi => by
    obtain ⟨b, o, e, hE⟩ := hc i hi
    exact ⟨b, o, e, hE.below hb⟩
  have HA := Lib.hid ha
  have HL := Lib.hid hl
  clear hc ha
  by_cases hn0 : n < 0
  · have e0 : decide (n < 0) = true := decide_eq_true hn0
    have HRES := Lib.hid (show mayT n l = false by simp [mayT]; intro h; omega)
    clear hn0
    go_enter Tryd.func25, Tryd.ntmps25
    go_wp2
    go_ret
    exact ⟨by rw [HRES.out]; rfl, (Below.refl _ w).alloc (Nat.le_refl _) _⟩
  have e0 : decide (n < 0) = false := decide_eq_false hn0
  by_cases hn1 : 100000 < n
  · have e1 : decide (100000 < n) = true := decide_eq_true hn1
    have HRES := Lib.hid (show mayT n l = false by simp [mayT]; intro h h2; omega)
    clear hn0 hn1
    go_enter Tryd.func25, Tryd.ntmps25
    go_wp2
    go_ret
    exact ⟨by rw [HRES.out]; rfl, (Below.refl _ w).alloc (Nat.le_refl _) _⟩
  have e1 : decide (100000 < n) = false := decide_eq_false hn1
  by_cases hl0 : l.length = 0
  · have HRES := Lib.hid (show mayT n l = false by rw [List.length_eq_zero_iff] at hl0; simp [mayT, hl0])
    have e2 : ((l.length : Int) == 0) = true := by simp [hl0]
    have HL0 := Lib.hid hl0
    clear hn0 hn1 hl0
    go_enter Tryd.func25, Tryd.ntmps25
    go_wp2
    go_ret
    exact ⟨by rw [HRES.out]; rfl, (Below.refl _ w).alloc (Nat.le_refl _) _⟩
  have e2 : ((l.length : Int) == 0) = false := by simpa using hl0
  have HRES := Lib.hid (show mayT n l = maySs 0 l by
    have h1 : (0 : Int) ≤ n := by omega
    have h2 : n ≤ 100000 := by omega
    have h3 : l.isEmpty = false := by
      cases l with
      | nil => simp at hl0
      | cons x l => rfl
    simp [mayT, h1, h2, h3])
  clear hn0 hn1 hl0
  go_enter Tryd.func25, Tryd.ntmps25
  go_wp2
  go_loopw [24] (fun s24 wr => ∃ k : Nat, k ≤ l.length ∧ s24 = .int .i64 k ∧ Hid ((∀ i, i < k → mayS i (stAt l i) = true) ∧ Below w.heap.size w wr)) (fun s24 _ => l.length - (intOf s24).toNat)
  case atStart => exact ⟨0, Nat.zero_le _, rfl, Lib.hid ⟨fun i hi => absurd hi (Nat.not_lt_zero i), (Below.refl _ w).alloc (Nat.le_refl _) _⟩⟩
  case round =>
    obtain ⟨k, hk, rfl, HR⟩ := hrel
    obtain ⟨wo, hwo⟩ : ∃ wo, wo = wr := ⟨_, rfl⟩
    subst hwo
    by_cases hlt : k < l.length
    · have d0 : decide ((k : Int) < (l.length : Int)) = true := by simp only [decide_eq_true_eq]; omega
      have ix : (k : Int) < (l.length : Int) := by omega
      obtain ⟨b, o, rfl, vx, h1, h2, h3, h4⟩ := HC.out wo HR.out.2 k hlt
      obtain ⟨ad2, c2, rfl, hA⟩ := h4
      have HAR := Lib.hid (show ∀ W, Below wo.heap.size wo W → ∀ i, i < (stAt l k).arcs.length → ∃ b o, ad2 = some ⟨b, o, none⟩ ∧ ArcIn W b (o + i * 3) (arcAt (stAt l k).arcs i) from fun W hb i hi => by
        obtain ⟨b, o, e, hE⟩ := hA i hi
        exact ⟨b, o, e, hE.later hb⟩)
      have al := HA.out (stAt l k) (by rw [stAt_lt hlt]; exact List.getElem_mem hlt)
      obtain ⟨y, hy⟩ : ∃ y, stAt l k = y := ⟨_, rfl⟩
      have HY := Lib.hid hy
      rw [hy] at h1 h2 h3 HAR al
      clear hA hy
      by_cases h256 : 256 < y.arcs.length
      · have d1 : decide ((256 : Int) < (y.arcs.length : Int)) = true := by simp only [decide_eq_true_eq]; omega
        have HN := Lib.hid (show maySs 0 l = false from maySs_not (i := k) hlt (by rw [Nat.zero_add, HY.out]; exact mayS_long (by omega)))
        clear h256
        go_wp2
        go_ret
        exact ⟨by rw [HRES.out, HN.out]; rfl, HR.out.2.alloc HR.out.2.size _⟩
      · have d1 : decide ((256 : Int) < (y.arcs.length : Int)) = false := by simp only [decide_eq_false_iff_not]; omega
        have H256 := Lib.hid h256
        clear h256
        have HSZ := Lib.hid HR.out.2.size
        cases hf : y.fin with
        | true =>
          have HOUT := Lib.hid (show y.fin = false → y.out = 0 from fun e => by rw [hf] at e; cases e)
          rw [hf] at h2
          have HF := Lib.hid hf
          clear hf
          go_wp2
          go_loopw [46] (fun s46 wi => ∃ j : Nat, j ≤ y.arcs.length ∧ s46 = .int .i64 j ∧ Hid ((∀ i, i < j → 0 ≤ (arcAt y.arcs i).to ∧ (arcAt y.arcs i).to < (k : Int)) ∧ Below wo.heap.size wo wi)) (fun s46 _ => y.arcs.length - (intOf s46).toNat)
          case atStart => exact ⟨0, Nat.zero_le _, rfl, Lib.hid ⟨fun i hi => absurd hi (Nat.not_lt_zero i), (Below.refl _ _).alloc (Nat.le_refl _) _⟩⟩
          case round =>
            obtain ⟨j, hj, rfl, HI⟩ := hrel
            have hbwr := HR.out.2.trans (HI.out.2.mono HR.out.2.size)
            have HBR := Lib.hid hbwr
            clear hbwr
            by_cases hltj : j < y.arcs.length
            · have d3 : decide ((j : Int) < (y.arcs.length : Int)) = true := by simp only [decide_eq_true_eq]; omega
              have ixj : (j : Int) < (y.arcs.length : Int) := by omega
              obtain ⟨b2, o2, rfl, a1, a2, a3⟩ := HAR.out wr HI.out.2 j hltj
              obtain ⟨z, hz⟩ : ∃ z, arcAt y.arcs j = z := ⟨_, rfl⟩
              have HZ := Lib.hid hz
              rw [hz] at a1 a2 a3
              clear hz
              by_cases z0 : z.to < 0
              · have d4 : decide (z.to < 0) = true := decide_eq_true z0
                have HN := Lib.hid (show maySs 0 l = false from maySs_not (i := k) hlt (by rw [Nat.zero_add, HY.out]; exact mayS_arc hltj (by rw [HZ.out]; omega)))
                clear z0
                go_wp2
                go_ret
                exact ⟨by rw [HRES.out, HN.out]; rfl, HBR.out.alloc HBR.out.size _⟩
              · have d4 : decide (z.to < 0) = false := decide_eq_false z0
                by_cases z1 : (k : Int) ≤ z.to
                · have d5 : decide ((k : Int) ≤ z.to) = true := decide_eq_true z1
                  have HN := Lib.hid (show maySs 0 l = false from maySs_not (i := k) hlt (by rw [Nat.zero_add, HY.out]; exact mayS_arc hltj (by rw [HZ.out]; omega)))
                  clear z0 z1
                  go_wp2
                  go_ret
                  exact ⟨by rw [HRES.out, HN.out]; rfl, HBR.out.alloc HBR.out.size _⟩
                · have d5 : decide ((k : Int) ≤ z.to) = false := decide_eq_false z1
                  have HNX := Lib.hid (show ∀ i, i < j + 1 → 0 ≤ (arcAt y.arcs i).to ∧ (arcAt y.arcs i).to < (k : Int) from fun i hi => by
                    by_cases e : i = j
                    · rw [e, HZ.out]; omega
                    · exact HI.out.1 i (by omega))
                  have hwr : IntKind.i64.wrap ((j : Int) + 1) = ((j + 1 : Nat) : Int) := by rw [IntWalk.i64_in _ (by omega)]; omega
                  clear z0 z1
                  go_wp2
                  refine ⟨?_, ?_⟩
                  · exact ⟨j + 1, by omega, rfl, Lib.hid ⟨HNX.out, HI.out.2.alloc HI.out.2.size _⟩⟩
                  · simp [intOf]; omega
            · have d3 : decide ((j : Int) < (y.arcs.length : Int)) = false := by simp only [decide_eq_false_iff_not]; omega
              have HNX := Lib.hid (show ∀ i, i < k + 1 → mayS i (stAt l i) = true from fun i hi => by
                by_cases e : i = k
                · rw [e, HY.out]
                  exact mayS_all (by have := H256.out; omega) HOUT.out fun i hi => HI.out.1 i (by omega)
                · exact HR.out.1 i (by omega))
              have hwr : IntKind.i64.wrap ((k : Int) + 1) = ((k + 1 : Nat) : Int) := by rw [IntWalk.i64_in _ (by omega)]; omega
              go_wp2
              refine ⟨?_, ?_⟩
              · exact ⟨k + 1, by omega, rfl, Lib.hid ⟨HNX.out, HBR.out⟩⟩
              · simp [intOf]; omega
        | false =>
          rw [hf] at h2
          have HF := Lib.hid hf
          clear hf
          by_cases hout : y.out = 0
          · have HOUT := Lib.hid (show y.fin = false → y.out = 0 from fun _ => hout)
            rw [hout] at h3
            clear hout
            go_wp2
            go_loopw [46] (fun s46 wi => ∃ j : Nat, j ≤ y.arcs.length ∧ s46 = .int .i64 j ∧ Hid ((∀ i, i < j → 0 ≤ (arcAt y.arcs i).to ∧ (arcAt y.arcs i).to < (k : Int)) ∧ Below wo.heap.size wo wi)) (fun s46 _ => y.arcs.length - (intOf s46).toNat)
            case atStart => exact ⟨0, Nat.zero_le _, rfl, Lib.hid ⟨fun i hi => absurd hi (Nat.not_lt_zero i), (Below.refl _ _).alloc (Nat.le_refl _) _⟩⟩
            case round =>
              obtain ⟨j, hj, rfl, HI⟩ := hrel
              have hbwr := HR.out.2.trans (HI.out.2.mono HR.out.2.size)
              have HBR := Lib.hid hbwr
              clear hbwr
              by_cases hltj : j < y.arcs.length
              · have d3 : decide ((j : Int) < (y.arcs.length : Int)) = true := by simp only [decide_eq_true_eq]; omega
                have ixj : (j : Int) < (y.arcs.length : Int) := by omega
                obtain ⟨b2, o2, rfl, a1, a2, a3⟩ := HAR.out wr HI.out.2 j hltj
                obtain ⟨z, hz⟩ : ∃ z, arcAt y.arcs j = z := ⟨_, rfl⟩
                have HZ := Lib.hid hz
                rw [hz] at a1 a2 a3
                clear hz
                by_cases z0 : z.to < 0
                · have d4 : decide (z.to < 0) = true := decide_eq_true z0
                  have HN := Lib.hid (show maySs 0 l = false from maySs_not (i := k) hlt (by rw [Nat.zero_add, HY.out]; exact mayS_arc hltj (by rw [HZ.out]; omega)))
                  clear z0
                  go_wp2
                  go_ret
                  exact ⟨by rw [HRES.out, HN.out]; rfl, HBR.out.alloc HBR.out.size _⟩
                · have d4 : decide (z.to < 0) = false := decide_eq_false z0
                  by_cases z1 : (k : Int) ≤ z.to
                  · have d5 : decide ((k : Int) ≤ z.to) = true := decide_eq_true z1
                    have HN := Lib.hid (show maySs 0 l = false from maySs_not (i := k) hlt (by rw [Nat.zero_add, HY.out]; exact mayS_arc hltj (by rw [HZ.out]; omega)))
                    clear z0 z1
                    go_wp2
                    go_ret
                    exact ⟨by rw [HRES.out, HN.out]; rfl, HBR.out.alloc HBR.out.size _⟩
                  · have d5 : decide ((k : Int) ≤ z.to) = false := decide_eq_false z1
                    have HNX := Lib.hid (show ∀ i, i < j + 1 → 0 ≤ (arcAt y.arcs i).to ∧ (arcAt y.arcs i).to < (k : Int) from fun i hi => by
                      by_cases e : i = j
                      · rw [e, HZ.out]; omega
                      · exact HI.out.1 i (by omega))
                    have hwr : IntKind.i64.wrap ((j : Int) + 1) = ((j + 1 : Nat) : Int) := by rw [IntWalk.i64_in _ (by omega)]; omega
                    clear z0 z1
                    go_wp2
                    refine ⟨?_, ?_⟩
                    · exact ⟨j + 1, by omega, rfl, Lib.hid ⟨HNX.out, HI.out.2.alloc HI.out.2.size _⟩⟩
                    · simp [intOf]; omega
              · have d3 : decide ((j : Int) < (y.arcs.length : Int)) = false := by simp only [decide_eq_false_iff_not]; omega
                have HNX := Lib.hid (show ∀ i, i < k + 1 → mayS i (stAt l i) = true from fun i hi => by
                  by_cases e : i = k
                  · rw [e, HY.out]
                    exact mayS_all (by have := H256.out; omega) HOUT.out fun i hi => HI.out.1 i (by omega)
                  · exact HR.out.1 i (by omega))
                have hwr : IntKind.i64.wrap ((k : Int) + 1) = ((k + 1 : Nat) : Int) := by rw [IntWalk.i64_in _ (by omega)]; omega
                go_wp2
                refine ⟨?_, ?_⟩
                · exact ⟨k + 1, by omega, rfl, Lib.hid ⟨HNX.out, HBR.out⟩⟩
                · simp [intOf]; omega
          · have HN := Lib.hid (show maySs 0 l = false from maySs_not (i := k) hlt (by rw [Nat.zero_add, HY.out]; exact mayS_out HF.out hout))
            have d2 : ((y.out : Int) != 0) = true := by simp [hout]
            clear hout
            go_wp2
            go_ret
            exact ⟨by rw [HRES.out, HN.out]; rfl, HR.out.2.alloc HR.out.2.size _⟩
    · have d0 : decide ((k : Int) < (l.length : Int)) = false := by simp only [decide_eq_false_iff_not]; omega
      have HN := Lib.hid (show maySs 0 l = true from maySs_of fun i hi => by rw [Nat.zero_add]; exact HR.out.1 i (by omega))
      go_wp2
      go_ret
      exact ⟨by rw [HRES.out, HN.out]; rfl, HR.out.2⟩

end Go.Proofs.YtjiilmiikejnhaaDoor

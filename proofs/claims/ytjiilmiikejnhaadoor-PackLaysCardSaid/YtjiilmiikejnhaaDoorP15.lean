/-
  The document's May at a transducer that may be laid. The document's May, of whatever transducer.
-/
import Derived.Test.YtjiilmiikejnhaaDoorP13
import Derived.Test.YtjiilmiikejnhaaDoorP14
set_option linter.unusedVariables false
set_option linter.unusedSimpArgs false
namespace Go.Proofs.YtjiilmiikejnhaaDoor
open Go.RowKit Go.Shelf

theorem mayS_facts {own : Nat} {s : DSt} (h : mayS own s = true) : s.arcs.length ≤ 256 ∧ (s.fin = true ∨ s.out = 0) ∧ ∀ i, i < s.arcs.length → 0 ≤ (arcAt s.arcs i).to ∧ (arcAt s.arcs i).to < (own : Int) := by
  simp only [mayS, Bool.and_eq_true, decide_eq_true_eq, Bool.or_eq_true, beq_iff_eq, List.all_eq_true] at h
  obtain ⟨h1, h2, h3⟩ := h
  refine ⟨h1, h2, fun i hi => ?_⟩
  have := h3 _ (List.getElem_mem hi)
  rw [arcAt_lt hi]
  simpa [mayA] using this
theorem mayS_in {l : List DSt} {i : Nat} (h : maySs 0 l = true) (hi : i < l.length) : mayS i (stAt l i) = true := by
  cases hv : mayS i (stAt l i) with
  | true => rfl
  | false => rw [maySs_not (o := 0) hi (by rw [Nat.zero_add]; exact hv)] at h; cases h

set_option maxHeartbeats 2000000 in
set_option maxRecDepth 100000 in
theorem refMay_any {w : World} {n : Int} {v : Value} {l : List DSt} {init : Nat} (h : Sts w v l) (hm : maySs 0 l = true) (h0 : l ≠ []) (hl : l.length ≤ 100) (hn : 0 ≤ n) (hn2 : n ≤ 100000) :
    Calls Tryd.prog 30 #[.int .i64 n, .agg #[v, .int .u64 (init : Int)]] w fun e w' => e = .returned (.bool true) ∧ Below w.heap.size w w' := by
  have hst := h
  obtain ⟨ad, c, rfl, hc⟩ := h
  obtain ⟨m, hmm⟩ : ∃ m, l.length = m := ⟨_, rfl⟩
  rw [hmm] at hst hl ⊢
  have hm0 : 0 < m := by rw [← hmm]; exact List.length_pos_iff.2 h0
  obtain ⟨W1, hW1⟩ : ∃ W1, W1 = w.alloc (.cells #[.slice ad m c, .int .u64 (init : Int)] 25) := ⟨_, rfl⟩
  have hb1 : Below w.heap.size w W1 := by rw [hW1]; exact below_alloc _ _
  have f1 : FstB W1 w.heap.size (.slice ad m c) init := by rw [hW1]; exact heap_alloc_new w _
  have e0 : decide (n < 0) = false := decide_eq_false (by omega)
  have e1 : decide (100000 < n) = false := decide_eq_false (by omega)
  have e2 : ((m : Int) == 0) = false := by rw [beq_eq_false_iff_ne]; omega
  have c0 := f1.at0
  have H1 := Lib.hid (And.intro hb1 (And.intro f1 (And.intro (hst.below hb1) (And.intro hm hmm))))
  clear hc hst hm h0 hn hn2 hb1 f1 hmm
  go_enter Tryd.func30, Tryd.ntmps30
  go_upto_region 1 with fail
  rw [← hW1]
  clear hW1
  go_wp2
  go_loopw [5] (fun s5 wr => ∃ k : Nat, k ≤ m ∧ s5 = .int .i64 k ∧ Hid (Below W1.heap.size W1 wr)) (fun s5 _ => m - (intOf s5).toNat)
  case atStart => exact ⟨0, Nat.zero_le _, rfl, Lib.hid (Below.refl _ _)⟩
  case round =>
    obtain ⟨k, hk, rfl, HR⟩ := hrel
    have f2 : FstB wr w.heap.size (.slice ad m c) init := FstB.kp H1.out.2.1 (Kp.below (M := fun _ => False) HR.out) (fun h => h)
    have c1 := f2.at0
    by_cases hlt : k < m
    · obtain ⟨ad', c', e, hc⟩ := H1.out.2.2.1.below HR.out
      injection e with i1 i2 i3
      obtain ⟨b, o, had, u, h1, h2, h3, ea, qa, rfl, h4⟩ := hc k (by rw [H1.out.2.2.2.2]; exact hlt)
      have ha1 := i1.trans had
      subst ha1
      clear hc i1 i2 i3 had
      obtain ⟨m1, m2, m3⟩ := mayS_facts (mayS_in H1.out.2.2.2.1 (by rw [H1.out.2.2.2.2]; exact hlt))
      obtain ⟨y, hy⟩ : ∃ y, stAt l k = y := ⟨_, rfl⟩
      rw [hy] at h1 h2 h3 h4 m1 m2 m3
      obtain ⟨na, hna⟩ : ∃ na, y.arcs.length = na := ⟨_, rfl⟩
      obtain ⟨f, hf⟩ : ∃ f, y.fin = f := ⟨_, rfl⟩
      obtain ⟨ou, hou⟩ : ∃ ou, y.out = ou := ⟨_, rfl⟩
      rw [hna] at h1 m1 m3 h4
      rw [hf] at h2 m2
      rw [hou] at h3 m2
      have d1 : decide ((k : Int) < (m : Int)) = true := by simp; omega
      have il : (k : Int) < (m : Int) := by omega
      have dn : decide ((256 : Int) < (na : Int)) = false := by simp; omega
      have HY := Lib.hid (And.intro h4 (And.intro m3 f2))
      have hsz := HR.out.size
      clear h4 m3 hy hna hf hou f2
      rcases (show f = true ∨ (f = false ∧ ou = 0) by cases f with
        | true => exact .inl rfl
        | false => exact .inr ⟨rfl, m2.resolve_left (by simp)⟩) with rfl | ⟨rfl, rfl⟩
      · go_wp2
        obtain ⟨W2, hW2⟩ : ∃ W2, W2 = wr.alloc (.cells #[.slice ea na qa, .bool true, .int .u64 (ou : Int)] 64) := ⟨_, rfl⟩
        obtain ⟨g, hg⟩ : ∃ g, g = wr.heap.size := ⟨_, rfl⟩
        have sb : StB W2 g (.slice ea na qa) true ou := by rw [hW2, hg]; exact heap_alloc_new wr _
        have bb : Below wr.heap.size wr W2 := by rw [hW2]; exact below_alloc _ _
        rw [← hW2, ← hg]
        have y0 := sb.at0
        have HB := Lib.hid bb
        clear hW2 hg sb bb
        go_loopw [7] (fun s7 W => ∃ j : Nat, j ≤ na ∧ s7 = .int .i64 j ∧ Hid (W = W2)) (fun s7 _ => na - (intOf s7).toNat)
        case atStart => exact ⟨0, Nat.zero_le _, rfl, Lib.hid rfl⟩
        case round =>
          obtain ⟨j, hj, rfl, HEQ⟩ := hrel
          have heq := HEQ.out
          clear HEQ
          subst heq
          by_cases hlj : j < na
          · have dj : decide ((j : Int) < (na : Int)) = true := by simp; omega
            have ij : (j : Int) < (na : Int) := by omega
            obtain ⟨b', o', e', hE⟩ := HY.out.1 j hlj
            subst e'
            obtain ⟨g2, g3, g4⟩ := hE.later HB.out
            obtain ⟨t1, t2⟩ := HY.out.2.1 j hlj
            obtain ⟨x, hx⟩ : ∃ x, (arcAt y.arcs j).to = x := ⟨_, rfl⟩
            rw [hx] at g4 t1 t2
            have dt1 : decide (x < 0) = false := decide_eq_false (by omega)
            have dt2 : decide ((k : Int) ≤ x) = false := decide_eq_false (by omega)
            clear hE hx
            go_wp2
            exact ⟨⟨j + 1, by omega, by go_num, Lib.hid trivial⟩, by simp [intOf]; omega⟩
          · have hjn : j = na := by omega
            subst hjn
            have dj : decide ((j : Int) < (j : Int)) = false := by simp
            clear hlj
            go_wp2
            exact ⟨⟨k + 1, by omega, by go_num, Lib.hid (HR.out.trans (HB.out.mono hsz))⟩, by simp [intOf]; omega⟩
      · go_wp2
        obtain ⟨W2, hW2⟩ : ∃ W2, W2 = wr.alloc (.cells #[.slice ea na qa, .bool false, .int .u64 0] 64) := ⟨_, rfl⟩
        obtain ⟨g, hg⟩ : ∃ g, g = wr.heap.size := ⟨_, rfl⟩
        have sb : StB W2 g (.slice ea na qa) false 0 := by rw [hW2, hg]; exact heap_alloc_new wr _
        have bb : Below wr.heap.size wr W2 := by rw [hW2]; exact below_alloc _ _
        rw [← hW2, ← hg]
        have y0 := sb.at0
        have HB := Lib.hid bb
        clear hW2 hg sb bb
        go_loopw [7] (fun s7 W => ∃ j : Nat, j ≤ na ∧ s7 = .int .i64 j ∧ Hid (W = W2)) (fun s7 _ => na - (intOf s7).toNat)
        case atStart => exact ⟨0, Nat.zero_le _, rfl, Lib.hid rfl⟩
        case round =>
          obtain ⟨j, hj, rfl, HEQ⟩ := hrel
          have heq := HEQ.out
          clear HEQ
          subst heq
          by_cases hlj : j < na
          · have dj : decide ((j : Int) < (na : Int)) = true := by simp; omega
            have ij : (j : Int) < (na : Int) := by omega
            obtain ⟨b', o', e', hE⟩ := HY.out.1 j hlj
            subst e'
            obtain ⟨g2, g3, g4⟩ := hE.later HB.out
            obtain ⟨t1, t2⟩ := HY.out.2.1 j hlj
            obtain ⟨x, hx⟩ : ∃ x, (arcAt y.arcs j).to = x := ⟨_, rfl⟩
            rw [hx] at g4 t1 t2
            have dt1 : decide (x < 0) = false := decide_eq_false (by omega)
            have dt2 : decide ((k : Int) ≤ x) = false := decide_eq_false (by omega)
            clear hE hx
            go_wp2
            exact ⟨⟨j + 1, by omega, by go_num, Lib.hid trivial⟩, by simp [intOf]; omega⟩
          · have hjn : j = na := by omega
            subst hjn
            have dj : decide ((j : Int) < (j : Int)) = false := by simp
            clear hlj
            go_wp2
            exact ⟨⟨k + 1, by omega, by go_num, Lib.hid (HR.out.trans (HB.out.mono hsz))⟩, by simp [intOf]; omega⟩
    · have hkm : k = m := by omega
      subst hkm
      have d1 : decide ((k : Int) < (k : Int)) = false := by simp
      clear hlt
      go_wp2
      go_ret
      exact ⟨rfl, H1.out.1.trans (HR.out.mono H1.out.1.size)⟩
end Go.Proofs.YtjiilmiikejnhaaDoor
namespace Go.Proofs.YtjiilmiikejnhaaDoor
open Go.RowKit Go.Shelf

set_option maxHeartbeats 4000000 in
set_option maxRecDepth 100000 in
theorem refMay_is {w : World} {n : Int} {v : Value} {l : List DSt} {init : Nat} (h : Sts w v l) (hl : l.length ≤ 100000) (ha : ∀ s ∈ l, s.arcs.length ≤ 100000) :
    Calls Tryd.prog 30 #[.int .i64 n, .agg #[v, .int .u64 (init : Int)]] w fun e w' => e = .returned (.bool (mayT n l)) ∧ Below w.heap.size w w' := by
  have hst := h
  obtain ⟨ad, c, rfl, hc⟩ := h
  obtain ⟨m, hmm⟩ : ∃ m, l.length = m := ⟨_, rfl⟩
  rw [hmm] at hst hl ⊢
  obtain ⟨W1, hW1⟩ : ∃ W1, W1 = w.alloc (.cells #[.slice ad m c, .int .u64 (init : Int)] 25) := ⟨_, rfl⟩
  have hb1 : Below w.heap.size w W1 := by rw [hW1]; exact below_alloc _ _
  have f1 : FstB W1 w.heap.size (.slice ad m c) init := by rw [hW1]; exact heap_alloc_new w _
  have c0 := f1.at0
  have H1 := Lib.hid (And.intro hb1 (And.intro f1 (And.intro (hst.below hb1) (And.intro ha hmm))))
  clear hc hst hb1 f1 ha
  by_cases hn0 : n < 0
  · have e0 : decide (n < 0) = true := decide_eq_true hn0
    have HRES := Lib.hid (show mayT n l = false by simp [mayT]; intro h; omega)
    clear hn0 hmm
    go_enter Tryd.func30, Tryd.ntmps30
    go_upto_region 1 with fail
    rw [← hW1]
    clear hW1
    go_wp2
    go_ret
    exact ⟨by rw [HRES.out]; rfl, H1.out.1⟩
  have e0 : decide (n < 0) = false := decide_eq_false hn0
  by_cases hn1 : 100000 < n
  · have e1 : decide (100000 < n) = true := decide_eq_true hn1
    have HRES := Lib.hid (show mayT n l = false by simp [mayT]; intro h h2; omega)
    clear hn0 hn1 hmm
    go_enter Tryd.func30, Tryd.ntmps30
    go_upto_region 1 with fail
    rw [← hW1]
    clear hW1
    go_wp2
    go_ret
    exact ⟨by rw [HRES.out]; rfl, H1.out.1⟩
  have e1 : decide (100000 < n) = false := decide_eq_false hn1
  by_cases hl0 : m = 0
  · have HRES := Lib.hid (show mayT n l = false by rw [hl0, List.length_eq_zero_iff] at hmm; simp [mayT, hmm])
    have e2 : ((m : Int) == 0) = true := by simp [hl0]
    clear hn0 hn1 hl0 hmm
    go_enter Tryd.func30, Tryd.ntmps30
    go_upto_region 1 with fail
    rw [← hW1]
    clear hW1
    go_wp2
    go_ret
    exact ⟨by rw [HRES.out]; rfl, H1.out.1⟩
  have e2 : ((m : Int) == 0) = false := by rw [beq_eq_false_iff_ne]; omega
  have HRES := Lib.hid (show mayT n l = maySs 0 l by
    have h1 : (0 : Int) ≤ n := by omega
    have h2 : n ≤ 100000 := by omega
    have h3 : l.isEmpty = false := by
      cases l with
      | nil => simp at hmm; omega
      | cons x l => rfl
    simp [mayT, h1, h2, h3])
  clear hn0 hn1 hl0 hmm
  go_enter Tryd.func30, Tryd.ntmps30
  go_upto_region 1 with fail
  rw [← hW1]
  clear hW1
  go_wp2
  go_loopw [5] (fun s5 wr => ∃ k : Nat, k ≤ m ∧ s5 = .int .i64 k ∧ Hid ((∀ i, i < k → mayS i (stAt l i) = true) ∧ Below W1.heap.size W1 wr)) (fun s5 _ => m - (intOf s5).toNat)
  case atStart => exact ⟨0, Nat.zero_le _, rfl, Lib.hid ⟨fun i hi => absurd hi (Nat.not_lt_zero i), Below.refl _ _⟩⟩
  case round =>
    obtain ⟨k, hk, rfl, HR⟩ := hrel
    have f2 : FstB wr w.heap.size (.slice ad m c) init := FstB.kp H1.out.2.1 (Kp.below (M := fun _ => False) HR.out.2) (fun h => h)
    have c1 := f2.at0
    have HBW := Lib.hid (H1.out.1.trans (HR.out.2.mono H1.out.1.size))
    by_cases hlt : k < m
    · have hlk : k < l.length := by rw [H1.out.2.2.2.2]; exact hlt
      obtain ⟨ad', c', e, hc⟩ := H1.out.2.2.1.below HR.out.2
      injection e with i1 i2 i3
      obtain ⟨b, o, had, u, h1, h2, h3, ea, qa, rfl, h4⟩ := hc k hlk
      have ha1 := i1.trans had
      subst ha1
      clear hc i1 i2 i3 had
      have ha5 := H1.out.2.2.2.1 (stAt l k) (by rw [stAt_lt hlk]; exact List.getElem_mem hlk)
      obtain ⟨y, hy⟩ : ∃ y, stAt l k = y := ⟨_, rfl⟩
      rw [hy] at h1 h2 h3 h4 ha5
      obtain ⟨na, hna⟩ : ∃ na, y.arcs.length = na := ⟨_, rfl⟩
      obtain ⟨f, hf⟩ : ∃ f, y.fin = f := ⟨_, rfl⟩
      obtain ⟨ou, hou⟩ : ∃ ou, y.out = ou := ⟨_, rfl⟩
      rw [hna] at h1 h4 ha5
      rw [hf] at h2
      rw [hou] at h3
      have d1 : decide ((k : Int) < (m : Int)) = true := by simp; omega
      have il : (k : Int) < (m : Int) := by omega
      have HN : Hid (mayS k y = false → maySs 0 l = false) := Lib.hid fun e => maySs_not (i := k) hlk (by rw [Nat.zero_add, hy]; exact e)
      have HNX : Hid (mayS k y = true → ∀ i, i < k + 1 → mayS i (stAt l i) = true) := Lib.hid fun e i hi => by
        by_cases e2 : i = k
        · rw [e2, hy]; exact e
        · exact HR.out.1 i (by omega)
      have HY := Lib.hid (And.intro h4 (And.intro hna (And.intro hf hou)))
      have hsz := HR.out.2.size
      clear h4 hy hna hf hou f2 hlk
      by_cases h256 : 256 < na
      · have dn : decide ((256 : Int) < (na : Int)) = true := by simp; omega
        have HFS := Lib.hid (HN.out (mayS_long (by rw [HY.out.2.1]; omega)))
        clear h256
        go_wp2
        go_ret
        exact ⟨by rw [HRES.out, HFS.out]; rfl, HBW.out.trans ((below_alloc wr _).mono HBW.out.size)⟩
      have dn : decide ((256 : Int) < (na : Int)) = false := by simp; omega
      rcases (show f = true ∨ (f = false ∧ ou = 0) ∨ (f = false ∧ ou ≠ 0) by cases f with
        | true => exact .inl rfl
        | false => by_cases h : ou = 0
                   · exact .inr (.inl ⟨rfl, h⟩)
                   · exact .inr (.inr ⟨rfl, h⟩)) with rfl | ⟨rfl, rfl⟩ | ⟨rfl, hne⟩
      · go_wp2
        obtain ⟨W2, hW2⟩ : ∃ W2, W2 = wr.alloc (.cells #[.slice ea na qa, .bool true, .int .u64 (ou : Int)] 64) := ⟨_, rfl⟩
        obtain ⟨g, hg⟩ : ∃ g, g = wr.heap.size := ⟨_, rfl⟩
        have sb : StB W2 g (.slice ea na qa) true ou := by rw [hW2, hg]; exact heap_alloc_new wr _
        have bb : Below wr.heap.size wr W2 := by rw [hW2]; exact below_alloc _ _
        rw [← hW2, ← hg]
        obtain ⟨wo, hwo⟩ : ∃ wo, wo = wr := ⟨_, rfl⟩
        subst hwo
        have HS : Hid (∀ W, Below W2.heap.size W2 W → StB W g (.slice ea na qa) true ou) := Lib.hid fun W hb => sb.kp (Kp.below (M := fun _ => False) hb) (fun h => h)
        have HB := Lib.hid bb
        have HOUT := Lib.hid (show y.fin = false → y.out = 0 from fun e => by first | exact HY.out.2.2.2 | (rw [HY.out.2.2.1] at e; cases e))
        clear hW2 hg sb bb
        go_loopw [7] (fun s7 W => ∃ j : Nat, j ≤ na ∧ s7 = .int .i64 j ∧ Hid (∀ i, i < j → 0 ≤ (arcAt y.arcs i).to ∧ (arcAt y.arcs i).to < (k : Int)) ∧ Hid (Below W2.heap.size W2 W)) (fun s7 _ => na - (intOf s7).toNat)
        case atStart => exact ⟨0, Nat.zero_le _, rfl, Lib.hid fun i hi => absurd hi (Nat.not_lt_zero i), Lib.hid (Below.refl _ _)⟩
        case round =>
          obtain ⟨j, hj, rfl, HA, HJ⟩ := hrel
          have y0 := (HS.out wr HJ.out).at0
          have HBJ := Lib.hid (HB.out.trans (HJ.out.mono HB.out.size))
          have HBZ := Lib.hid (HBW.out.trans (HBJ.out.mono HBW.out.size))
          by_cases hlj : j < na
          · have dj : decide ((j : Int) < (na : Int)) = true := by simp; omega
            have ij : (j : Int) < (na : Int) := by omega
            obtain ⟨b', o', e', hE⟩ := HY.out.1 j hlj
            subst e'
            obtain ⟨g2, g3, g4⟩ := hE.later HBJ.out
            have hlj2 : j < y.arcs.length := by rw [HY.out.2.1]; exact hlj
            obtain ⟨x, hx⟩ : ∃ x, (arcAt y.arcs j).to = x := ⟨_, rfl⟩
            rw [hx] at g4
            have HX := Lib.hid (And.intro hx hlj2)
            clear hE hx hlj2
            by_cases x0 : x < 0
            · have dt1 : decide (x < 0) = true := decide_eq_true x0
              have HFS := Lib.hid (HN.out (mayS_arc HX.out.2 (by rw [HX.out.1]; omega)))
              clear x0
              go_wp2
              go_ret
              exact ⟨by rw [HRES.out, HFS.out]; rfl, HBZ.out⟩
            have dt1 : decide (x < 0) = false := decide_eq_false x0
            by_cases x1 : (k : Int) ≤ x
            · have dt2 : decide ((k : Int) ≤ x) = true := decide_eq_true x1
              have HFS := Lib.hid (HN.out (mayS_arc HX.out.2 (by rw [HX.out.1]; omega)))
              clear x0 x1
              go_wp2
              go_ret
              exact ⟨by rw [HRES.out, HFS.out]; rfl, HBZ.out⟩
            have dt2 : decide ((k : Int) ≤ x) = false := decide_eq_false x1
            have HAX := Lib.hid (show ∀ i, i < j + 1 → 0 ≤ (arcAt y.arcs i).to ∧ (arcAt y.arcs i).to < (k : Int) from fun i hi => by
              by_cases e : i = j
              · rw [e, HX.out.1]; omega
              · exact HA.out i (by omega))
            clear x0 x1
            go_wp2
            exact ⟨⟨j + 1, by omega, by go_num, HAX, HJ⟩, by simp [intOf]; omega⟩
          · have hjn : j = na := by omega
            subst hjn
            have dj : decide ((j : Int) < (j : Int)) = false := by simp
            have HNY := Lib.hid (HNX.out (mayS_all (by rw [HY.out.2.1]; omega) HOUT.out fun i hi => HA.out i (by rw [HY.out.2.1] at hi; exact hi)))
            clear hlj
            go_wp2
            exact ⟨⟨k + 1, by omega, by go_num, Lib.hid ⟨HNY.out, HR.out.2.trans (HBJ.out.mono hsz)⟩⟩, by simp [intOf]; omega⟩
      · go_wp2
        obtain ⟨W2, hW2⟩ : ∃ W2, W2 = wr.alloc (.cells #[.slice ea na qa, .bool false, .int .u64 0] 64) := ⟨_, rfl⟩
        obtain ⟨g, hg⟩ : ∃ g, g = wr.heap.size := ⟨_, rfl⟩
        have sb : StB W2 g (.slice ea na qa) false 0 := by rw [hW2, hg]; exact heap_alloc_new wr _
        have bb : Below wr.heap.size wr W2 := by rw [hW2]; exact below_alloc _ _
        rw [← hW2, ← hg]
        obtain ⟨wo, hwo⟩ : ∃ wo, wo = wr := ⟨_, rfl⟩
        subst hwo
        have HS : Hid (∀ W, Below W2.heap.size W2 W → StB W g (.slice ea na qa) false 0) := Lib.hid fun W hb => sb.kp (Kp.below (M := fun _ => False) hb) (fun h => h)
        have HB := Lib.hid bb
        have HOUT := Lib.hid (show y.fin = false → y.out = 0 from fun e => by first | exact HY.out.2.2.2 | (rw [HY.out.2.2.1] at e; cases e))
        clear hW2 hg sb bb
        go_loopw [7] (fun s7 W => ∃ j : Nat, j ≤ na ∧ s7 = .int .i64 j ∧ Hid (∀ i, i < j → 0 ≤ (arcAt y.arcs i).to ∧ (arcAt y.arcs i).to < (k : Int)) ∧ Hid (Below W2.heap.size W2 W)) (fun s7 _ => na - (intOf s7).toNat)
        case atStart => exact ⟨0, Nat.zero_le _, rfl, Lib.hid fun i hi => absurd hi (Nat.not_lt_zero i), Lib.hid (Below.refl _ _)⟩
        case round =>
          obtain ⟨j, hj, rfl, HA, HJ⟩ := hrel
          have y0 := (HS.out wr HJ.out).at0
          have HBJ := Lib.hid (HB.out.trans (HJ.out.mono HB.out.size))
          have HBZ := Lib.hid (HBW.out.trans (HBJ.out.mono HBW.out.size))
          by_cases hlj : j < na
          · have dj : decide ((j : Int) < (na : Int)) = true := by simp; omega
            have ij : (j : Int) < (na : Int) := by omega
            obtain ⟨b', o', e', hE⟩ := HY.out.1 j hlj
            subst e'
            obtain ⟨g2, g3, g4⟩ := hE.later HBJ.out
            have hlj2 : j < y.arcs.length := by rw [HY.out.2.1]; exact hlj
            obtain ⟨x, hx⟩ : ∃ x, (arcAt y.arcs j).to = x := ⟨_, rfl⟩
            rw [hx] at g4
            have HX := Lib.hid (And.intro hx hlj2)
            clear hE hx hlj2
            by_cases x0 : x < 0
            · have dt1 : decide (x < 0) = true := decide_eq_true x0
              have HFS := Lib.hid (HN.out (mayS_arc HX.out.2 (by rw [HX.out.1]; omega)))
              clear x0
              go_wp2
              go_ret
              exact ⟨by rw [HRES.out, HFS.out]; rfl, HBZ.out⟩
            have dt1 : decide (x < 0) = false := decide_eq_false x0
            by_cases x1 : (k : Int) ≤ x
            · have dt2 : decide ((k : Int) ≤ x) = true := decide_eq_true x1
              have HFS := Lib.hid (HN.out (mayS_arc HX.out.2 (by rw [HX.out.1]; omega)))
              clear x0 x1
              go_wp2
              go_ret
              exact ⟨by rw [HRES.out, HFS.out]; rfl, HBZ.out⟩
            have dt2 : decide ((k : Int) ≤ x) = false := decide_eq_false x1
            have HAX := Lib.hid (show ∀ i, i < j + 1 → 0 ≤ (arcAt y.arcs i).to ∧ (arcAt y.arcs i).to < (k : Int) from fun i hi => by
              by_cases e : i = j
              · rw [e, HX.out.1]; omega
              · exact HA.out i (by omega))
            clear x0 x1
            go_wp2
            exact ⟨⟨j + 1, by omega, by go_num, HAX, HJ⟩, by simp [intOf]; omega⟩
          · have hjn : j = na := by omega
            subst hjn
            have dj : decide ((j : Int) < (j : Int)) = false := by simp
            have HNY := Lib.hid (HNX.out (mayS_all (by rw [HY.out.2.1]; omega) HOUT.out fun i hi => HA.out i (by rw [HY.out.2.1] at hi; exact hi)))
            clear hlj
            go_wp2
            exact ⟨⟨k + 1, by omega, by go_num, Lib.hid ⟨HNY.out, HR.out.2.trans (HBJ.out.mono hsz)⟩⟩, by simp [intOf]; omega⟩
      · have ho : ((ou : Int) == 0) = false := by rw [beq_eq_false_iff_ne]; omega
        have HFS := Lib.hid (HN.out (mayS_out HY.out.2.2.1 (by rw [HY.out.2.2.2]; exact hne)))
        clear hne
        go_wp2
        go_ret
        exact ⟨by rw [HRES.out, HFS.out]; rfl, HBW.out.trans ((below_alloc wr _).mono HBW.out.size)⟩
    · have hkm : k = m := by omega
      subst hkm
      have d1 : decide ((k : Int) < (k : Int)) = false := by simp
      have HTR := Lib.hid (show maySs 0 l = true from maySs_of fun i hi => by rw [Nat.zero_add]; exact HR.out.1 i (by rw [← H1.out.2.2.2.2]; exact hi))
      clear hlt
      go_wp2
      go_ret
      exact ⟨by rw [HRES.out, HTR.out]; rfl, HBW.out⟩
end Go.Proofs.YtjiilmiikejnhaaDoor

/-
  The document's May at a transducer that may be laid.
-/
import Derived.Test.YtjiilmiikejnhaaDoorP33
import Derived.Test.YtjiilmiikejnhaaDoorP23
set_option linter.unusedVariables false
set_option linter.unusedSimpArgs false
namespace Go.Proofs.YtjiilmiikejnhaaDoor
open Go.RowKit Go.Shelf

theorem mayS_facts {own : Nat} {s : DSt} (h : mayS own s = true) : s.arcs.length ≤ 256 ∧ (s.fin = true ∨ s.out = 0) ∧ ∀ i, i < s.arcs.length → 0 ≤ (arcAt s.arcs i).to ∧ (arcAt s.arcs i).to < (own : Int) := by
  simp only [mayS, Bool.and_eq_true, decide_eq_true_eq, Bool.or_eq_true, beq_iff_eq, List.all_eq_true] at h
  obtain ⟨h1, h2, h3⟩ := h
  refine ⟨h1, h2, fun i hi => ?_⟩
  have := h3 _ (List.getElem_mem hi)
  rw [arcAt_lt hi]
  simpa [mayA] using this
theorem mayS_in {l : List DSt} {i : Nat} (h : maySs 0 l = true) (hi : i < l.length) : mayS i (stAt l i) = true := by
  cases hv : mayS i (stAt l i) with
  | true => rfl
  | false => rw [maySs_not (o := 0) hi (by rw [Nat.zero_add]; exact hv)] at h; cases h

set_option maxHeartbeats 2000000 in
set_option maxRecDepth 100000 in
theorem refMay_any {w : World} {n : Int} {v : Value} {l : List DSt} {init : Nat} (h : Sts w v l) (hm : maySs 0 l = true) (h0 : l ≠ []) (hl : l.length ≤ 100) (hn : 0 ≤ n) (hn2 : n ≤ 100000) :
    Calls Tryd.prog 30 #[.int .i64 n, .agg #[v, .int .u64 (init : Int)]] w fun e w' => e = .returned (.bool true) ∧ Below w.heap.size w w' := by
  have hst := h
  obtain ⟨ad, c, rfl, hc⟩ := h
  obtain ⟨m, hmm⟩ : ∃ m, l.length = m := ⟨_, rfl⟩
  rw [hmm] at hst hl ⊢
  have hm0 : 0 < m := by rw [← hmm]; exact List.length_pos_iff.2 h0
  obtain ⟨W1, hW1⟩ : ∃ W1, W1 = w.alloc (.cells #[.slice ad m c, .int .u64 (init : Int)] 25) := ⟨_, rfl⟩
  have hb1 : Below w.heap.size w W1 := by rw [hW1]; exact below_alloc _ _
  have f1 : FstB W1 w.heap.size (.slice ad m c) init := by rw [hW1]; exact heap_alloc_new w _
  have e0 : decide (n < 0) = false := decide_eq_false (by omega)
  have e1 : decide (100000 < n) = false := decide_eq_false (by omega)
  have e2 : ((m : Int) == 0) = false := by rw [beq_eq_false_iff_ne]; omega
  have c0 := f1.at0
  have H1 := Lib.hid (And.intro hb1 (And.intro f1 (And.intro (hst.below hb1) (And.intro hm hmm))))
  clear hc hst hm h0 hn hn2 hb1 f1 hmm
  go_enter Tryd.func30, Tryd.ntmps30
  go_upto_region 1 with fail
  rw [← hW1]
  clear hW1
  go_wp2
  go_loopw [5] (fun s5 wr => ∃ k : Nat, k ≤ m ∧ s5 = .int .i64 k ∧ Hid (Below W1.heap.size W1 wr)) (fun s5 _ => m - (intOf s5).toNat)
  case atStart => exact ⟨0, Nat.zero_le _, rfl, Lib.hid (Below.refl _ _)⟩
  case round =>
    obtain ⟨k, hk, rfl, HR⟩ := hrel
    have f2 : FstB wr w.heap.size (.slice ad m c) init := FstB.kp H1.out.2.1 (Kp.below (M := fun _ => False) HR.out) (fun h => h)
    have c1 := f2.at0
    by_cases hlt : k < m
    · obtain ⟨ad', c', e, hc⟩ := H1.out.2.2.1.below HR.out
      injection e with i1 i2 i3
      obtain ⟨b, o, had, u, h1, h2, h3, ea, qa, rfl, h4⟩ := hc k (by rw [H1.out.2.2.2.2]; exact hlt)
      have ha1 := i1.trans had
      subst ha1
      clear hc i1 i2 i3 had
      obtain ⟨m1, m2, m3⟩ := mayS_facts (mayS_in H1.out.2.2.2.1 (by rw [H1.out.2.2.2.2]; exact hlt))
      obtain ⟨y, hy⟩ : ∃ y, stAt l k = y := ⟨_, rfl⟩
      rw [hy] at h1 h2 h3 h4 m1 m2 m3
      obtain ⟨na, hna⟩ : ∃ na, y.arcs.length = na := ⟨_, rfl⟩
      obtain ⟨f, hf⟩ : ∃ f, y.fin = f := ⟨_, rfl⟩
      obtain ⟨ou, hou⟩ : ∃ ou, y.out = ou := ⟨_, rfl⟩
      rw [hna] at h1 m1 m3 h4
      rw [hf] at h2 m2
      rw [hou] at h3 m2
      have d1 : decide ((k : Int) < (m : Int)) = true := by simp; omega
      have il : (k : Int) < (m : Int) := by omega
      have dn : decide ((256 : Int) < (na : Int)) = false := by simp; omega
      have HY := Lib.hid (And.intro h4 (And.intro m3 f2))
      have hsz := HR.out.size
      clear h4 m3 hy hna hf hou f2
      rcases (show f = true ∨ (f = false ∧ ou = 0) by cases f with
        | true => exact .inl rfl
        | false => exact .inr ⟨rfl, m2.resolve_left (by simp)⟩) with rfl | ⟨rfl, rfl⟩
      · go_wp2
        obtain ⟨W2, hW2⟩ : ∃ W2, W2 = wr.alloc (.cells #[.slice ea na qa, .bool true, .int .u64 (ou : Int)] 64) := ⟨_, rfl⟩
        obtain ⟨g, hg⟩ : ∃ g, g = wr.heap.size := ⟨_, rfl⟩
        have sb : StB W2 g (.slice ea na qa) true ou := by rw [hW2, hg]; exact heap_alloc_new wr _
        have bb : Below wr.heap.size wr W2 := by rw [hW2]; exact below_alloc _ _
        rw [← hW2, ← hg]
        have y0 := sb.at0
        have HB := Lib.hid bb
        clear hW2 hg sb bb
        go_loopw [7] (fun s7 W => ∃ j : Nat, j ≤ na ∧ s7 = .int .i64 j ∧ Hid (W = W2)) (fun s7 _ => na - (intOf s7).toNat)
        case atStart => exact ⟨0, Nat.zero_le _, rfl, Lib.hid rfl⟩
        case round =>
          obtain ⟨j, hj, rfl, HEQ⟩ := hrel
          have heq := HEQ.out
          clear HEQ
          subst heq
          by_cases hlj : j < na
          · have dj : decide ((j : Int) < (na : Int)) = true := by simp; omega
            have ij : (j : Int) < (na : Int) := by omega
            obtain ⟨b', o', e', hE⟩ := HY.out.1 j hlj
            subst e'
            obtain ⟨g2, g3, g4⟩ := hE.later HB.out
            obtain ⟨t1, t2⟩ := HY.out.2.1 j hlj
            obtain ⟨x, hx⟩ : ∃ x, (arcAt y.arcs j).to = x := ⟨_, rfl⟩
            rw [hx] at g4 t1 t2
            have dt1 : decide (x < 0) = false := decide_eq_false (by omega)
            have dt2 : decide ((k : Int) ≤ x) = false := decide_eq_false (by omega)
            clear hE hx
            go_wp2
            exact ⟨⟨j + 1, by omega, by go_num, Lib.hid trivial⟩, by simp [intOf]; omega⟩
          · have hjn : j = na := by omega
            subst hjn
            have dj : decide ((j : Int) < (j : Int)) = false := by simp
            clear hlj
            go_wp2
            exact ⟨⟨k + 1, by omega, by go_num, Lib.hid (HR.out.trans (HB.out.mono hsz))⟩, by simp [intOf]; omega⟩
      · go_wp2
        obtain ⟨W2, hW2⟩ : ∃ W2, W2 = wr.alloc (.cells #[.slice ea na qa, .bool false, .int .u64 0] 64) := ⟨_, rfl⟩
        obtain ⟨g, hg⟩ : ∃ g, g = wr.heap.size := ⟨_, rfl⟩
        have sb : StB W2 g (.slice ea na qa) false 0 := by rw [hW2, hg]; exact heap_alloc_new wr _
        have bb : Below wr.heap.size wr W2 := by rw [hW2]; exact below_alloc _ _
        rw [← hW2, ← hg]
        have y0 := sb.at0
        have HB := Lib.hid bb
        clear hW2 hg sb bb
        go_loopw [7] (fun s7 W => ∃ j : Nat, j ≤ na ∧ s7 = .int .i64 j ∧ Hid (W = W2)) (fun s7 _ => na - (intOf s7).toNat)
        case atStart => exact ⟨0, Nat.zero_le _, rfl, Lib.hid rfl⟩
        case round =>
          obtain ⟨j, hj, rfl, HEQ⟩ := hrel
          have heq := HEQ.out
          clear HEQ
          subst heq
          by_cases hlj : j < na
          · have dj : decide ((j : Int) < (na : Int)) = true := by simp; omega
            have ij : (j : Int) < (na : Int) := by omega
            obtain ⟨b', o', e', hE⟩ := HY.out.1 j hlj
            subst e'
            obtain ⟨g2, g3, g4⟩ := hE.later HB.out
            obtain ⟨t1, t2⟩ := HY.out.2.1 j hlj
            obtain ⟨x, hx⟩ : ∃ x, (arcAt y.arcs j).to = x := ⟨_, rfl⟩
            rw [hx] at g4 t1 t2
            have dt1 : decide (x < 0) = false := decide_eq_false (by omega)
            have dt2 : decide ((k : Int) ≤ x) = false := decide_eq_false (by omega)
            clear hE hx
            go_wp2
            exact ⟨⟨j + 1, by omega, by go_num, Lib.hid trivial⟩, by simp [intOf]; omega⟩
          · have hjn : j = na := by omega
            subst hjn
            have dj : decide ((j : Int) < (j : Int)) = false := by simp
            clear hlj
            go_wp2
            exact ⟨⟨k + 1, by omega, by go_num, Lib.hid (HR.out.trans (HB.out.mono hsz))⟩, by simp [intOf]; omega⟩
    · have hkm : k = m := by omega
      subst hkm
      have d1 : decide ((k : Int) < (k : Int)) = false := by simp
      clear hlt
      go_wp2
      go_ret
      exact ⟨rfl, H1.out.1.trans (HR.out.mono H1.out.1.size)⟩
end Go.Proofs.YtjiilmiikejnhaaDoor

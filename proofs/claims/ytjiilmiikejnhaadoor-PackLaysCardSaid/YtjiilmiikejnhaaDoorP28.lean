/-
  The document's: are two states alike? The answer at any two. The document's: are two transducers alike? The answer at any two.
-/
import Derived.Test.YtjiilmiikejnhaaDoorP14
import Derived.Laws.StructEq
import Derived.Test.YtjiilmiikejnhaaDoorP09
set_option linter.unusedVariables false
set_option linter.unusedSimpArgs false
namespace Go.Proofs.YtjiilmiikejnhaaDoor
open Go.RowKit Go.Shelf Said

def arcE (x y : DArc) : Bool := ((x.b : Int) == (y.b : Int)) && (((x.out : Int) == (y.out : Int)) && (x.to == y.to))
theorem arcE_iff (x y : DArc) : arcE x y = true ↔ x = y := by
  unfold arcE
  rw [Bool.and_eq_true, Bool.and_eq_true, beq_iff_eq, beq_iff_eq, beq_iff_eq]
  constructor
  · rintro ⟨h1, h2, h3⟩
    obtain ⟨a, n, g⟩ := x
    obtain ⟨b, m, k⟩ := y
    simp only at h1 h2 h3
    have e1 : a = b := by omega
    have e2 : n = m := by omega
    rw [e1, e2, h3]
  · rintro rfl
    exact ⟨rfl, rfl, rfl⟩

theorem run_neA (x y : DArc) (w : World) : Sem.run Tryd.prog (binOp .neq 66 (.agg #[.int .u8 (x.b : Int), .int .u64 (x.out : Int), .int .i64 x.to]) (.agg #[.int .u8 (y.b : Int), .int .u64 (y.out : Int), .int .i64 y.to])) w = .ok (.bool (!arcE x y)) w := by
  have u9 := Tryd.underlying5
  have a9 := Tryd.isAgg5
  have z9 := Tryd.sizeOf5
  have u22 := Tryd.underlying23
  have a22 := Tryd.isAgg23
  have z22 := Tryd.sizeOf23
  have u4 := Tryd.underlying3
  have a4 := Tryd.isAgg3
  have z4 := Tryd.sizeOf3
  have hS : Tryd.prog.underlying 66 = some (.struct (Tryd.prog.fieldsOf 66)) := by kernel_rfl
  have hp : Tryd.prog.stoodInHeld 66 = false := by kernel_rfl
  unfold arcE
  rw [run_neq_struct, show (10000 : Nat) = 9999 + 1 from rfl, run_equalIn_agg w 9999 66 _ _ hS hp]
  simp only [Program.fieldsOf, Tryd.underlying66]
  go_simp
  cases h1 : ((x.b : Int) == (y.b : Int)) <;> cases h2 : ((x.out : Int) == (y.out : Int)) <;> cases h3 : (x.to == y.to) <;> simp_all

set_option maxHeartbeats 2000000 in
set_option maxRecDepth 100000 in
theorem alike_same {w : World} {v1 v2 : Value} {s t : DSt} (h1 : Arcs w v1 s.arcs) (h2 : Arcs w v2 t.arcs) (hl : s.arcs.length ≤ 1000000) (hfin : s.fin = t.fin) (hout : s.out = t.out) (hlen : s.arcs.length = t.arcs.length) :
    Calls Tryd.prog 40 #[.agg #[v1, .bool s.fin, .int .u64 (s.out : Int)], .agg #[v2, .bool t.fin, .int .u64 (t.out : Int)]] w fun e w' => e = .returned (.bool (decide (s = t))) ∧ Below w.heap.size w w' := by
  obtain ⟨ad1, c1, rfl, hc1⟩ := h1
  rw [← hfin, ← hout]
  obtain ⟨ad2, c2, rfl, hc2⟩ := h2
  rw [← hlen] at hc2 ⊢
  have HC : Hid (∀ W, Below w.heap.size w W → ∀ i, i < s.arcs.length → (∃ b o, ad1 = some ⟨b, o, none⟩ ∧ ArcIn W b (o + i * 3) (arcAt s.arcs i)) ∧ ∃ b o, ad2 = some ⟨b, o, none⟩ ∧ ArcIn W b (o + i * 3) (arcAt t.arcs i)) := Lib.hid fun W hb i hi => by
    obtain ⟨b, o, e, hE⟩ := hc1 i hi
    obtain ⟨b', o', e', hE'⟩ := hc2 i hi
    exact ⟨⟨b, o, e, hE.later hb⟩, b', o', e', hE'.later hb⟩
  have HB0 := Lib.hid ((below_alloc w (.cells #[.slice ad1 s.arcs.length c1, .bool s.fin, .int .u64 (s.out : Int)] 64)).alloc (by simp) (.cells #[.slice ad2 s.arcs.length c2, .bool s.fin, .int .u64 (s.out : Int)] 64))
  have HX : Hid (∀ W, Below (w.heap.size + 2) ((w.alloc (.cells #[.slice ad1 s.arcs.length c1, .bool s.fin, .int .u64 (s.out : Int)] 64)).alloc (.cells #[.slice ad2 s.arcs.length c2, .bool s.fin, .int .u64 (s.out : Int)] 64)) W → W.cell? ⟨w.heap.size, 0, none⟩ = some (.slice ad1 s.arcs.length c1) ∧ W.cell? ⟨w.heap.size + 1, 0, none⟩ = some (.slice ad2 s.arcs.length c2)) := Lib.hid fun W hb => by
    have e0 := hb.cell (p := ⟨w.heap.size, 0, none⟩) (show w.heap.size < w.heap.size + 2 by omega)
    have e1 := hb.cell (p := ⟨w.heap.size + 1, 0, none⟩) (show w.heap.size + 1 < w.heap.size + 2 by omega)
    rw [e0, e1]
    constructor <;> simp
  have HT := Lib.hid (And.intro hfin (And.intro hout hlen))
  clear hc1 hc2 hfin hout hlen
  go_enter Tryd.func40, Tryd.ntmps40
  go_wp2
  go_loopw [5] (fun s5 wr => ∃ k : Nat, k ≤ s.arcs.length ∧ s5 = .int .i64 k ∧ (∀ j, j < k → arcAt s.arcs j = arcAt t.arcs j) ∧ Hid (Below (w.heap.size + 2) ((w.alloc (.cells #[.slice ad1 s.arcs.length c1, .bool s.fin, .int .u64 (s.out : Int)] 64)).alloc (.cells #[.slice ad2 s.arcs.length c2, .bool s.fin, .int .u64 (s.out : Int)] 64)) wr)) (fun s5 _ => s.arcs.length - (intOf s5).toNat)
  case atStart => exact ⟨0, Nat.zero_le _, rfl, fun j hj => absurd hj (Nat.not_lt_zero j), Lib.hid (Below.refl _ _)⟩
  case round =>
    obtain ⟨k, hk, rfl, hpre, HR⟩ := hrel
    have HP := Lib.hid hpre
    clear hpre
    obtain ⟨x1, x2⟩ := HX.out wr HR.out
    have HBW := Lib.hid (HB0.out.trans (HR.out.mono (by omega)))
    by_cases hlt : k < s.arcs.length
    · obtain ⟨⟨b, o, rfl, hE⟩, b', o', rfl, hE'⟩ := HC.out wr HBW.out k hlt
      obtain ⟨x, hx⟩ : ∃ x, arcAt s.arcs k = x := ⟨_, rfl⟩
      obtain ⟨y, hy⟩ : ∃ y, arcAt t.arcs k = y := ⟨_, rfl⟩
      rw [hx] at hE
      rw [hy] at hE'
      obtain ⟨p1, p2, p3⟩ := hE
      obtain ⟨p4, p5, p6⟩ := hE'
      have hne := run_neA x y
      by_cases hxy : x = y
      · rw [(arcE_iff x y).2 hxy, Bool.not_true] at hne
        have HN : Hid (∀ j, j < k + 1 → arcAt s.arcs j = arcAt t.arcs j) := Lib.hid fun j hj => by
          rcases Nat.lt_or_ge j k with h | h
          · exact HP.out j h
          · rw [show j = k by omega, hx, hy, hxy]
        clear hx hy hxy
        go_wp2
        go_quiet (fail)
        have HB := Lib.hid (below_drewN HR.out nq)
        generalize wr.drewN nq = w2 at HB ⊢
        go_wp2
        exact ⟨⟨k + 1, by omega, by go_num, HN.out, HB⟩, by simp [intOf]; omega⟩
      · have hf : arcE x y = false := by
          cases h : arcE x y
          · rfl
          · exact absurd ((arcE_iff x y).1 h) hxy
        rw [hf, Bool.not_false] at hne
        have hst : decide (s = t) = false := decide_eq_false fun e => hxy (by rw [← hx, ← hy, e])
        have HST := Lib.hid hst
        clear hx hy hxy hf hst
        go_wp2
        go_quiet (fail)
        have HB := Lib.hid (below_drewN HBW.out nq)
        generalize wr.drewN nq = w2 at HB ⊢
        go_wp2
        go_ret
        exact ⟨by rw [HST.out]; rfl, HB.out⟩
    · have hst : decide (s = t) = true := decide_eq_true (by
        obtain ⟨e1, e2, e3⟩ := HT.out
        have e4 : s.arcs = t.arcs := List.ext_getElem e3 fun i h1 h2 => by
          have := HP.out i (by omega)
          rwa [arcAt_lt h1, arcAt_lt h2] at this
        obtain ⟨x1, x2, x3⟩ := s
        obtain ⟨y1, y2, y3⟩ := t
        simp only at e1 e2 e4
        rw [e1, e2, e4])
      have HST := Lib.hid hst
      clear hst
      go_wp2
      go_ret
      exact ⟨by rw [HST.out]; rfl, HBW.out⟩

set_option maxHeartbeats 2000000 in
set_option maxRecDepth 100000 in
theorem alike_not {w : World} {v1 v2 : Value} {s t : DSt} (h1 : Arcs w v1 s.arcs) (h2 : Arcs w v2 t.arcs) (hl : s.arcs.length ≤ 1000000) (hl2 : t.arcs.length ≤ 1000000) (hne : ¬ (s.fin = t.fin ∧ s.out = t.out ∧ s.arcs.length = t.arcs.length)) :
    Calls Tryd.prog 40 #[.agg #[v1, .bool s.fin, .int .u64 (s.out : Int)], .agg #[v2, .bool t.fin, .int .u64 (t.out : Int)]] w fun e w' => e = .returned (.bool false) ∧ Below w.heap.size w w' := by
  obtain ⟨ad1, c1, rfl, hc1⟩ := h1
  obtain ⟨ad2, c2, rfl, hc2⟩ := h2
  have HB0 := Lib.hid ((below_alloc w (.cells #[.slice ad1 s.arcs.length c1, .bool s.fin, .int .u64 (s.out : Int)] 64)).alloc (by simp) (.cells #[.slice ad2 t.arcs.length c2, .bool t.fin, .int .u64 (t.out : Int)] 64))
  clear hc1 hc2
  obtain ⟨la, hla⟩ : ∃ n, s.arcs.length = n := ⟨_, rfl⟩
  obtain ⟨lb, hlb⟩ : ∃ n, t.arcs.length = n := ⟨_, rfl⟩
  obtain ⟨fa, hfa⟩ : ∃ n, s.fin = n := ⟨_, rfl⟩
  obtain ⟨fb, hfb⟩ : ∃ n, t.fin = n := ⟨_, rfl⟩
  obtain ⟨oa, hoa⟩ : ∃ n, s.out = n := ⟨_, rfl⟩
  obtain ⟨ob, hob⟩ : ∃ n, t.out = n := ⟨_, rfl⟩
  rw [hla, hfa, hoa, hlb, hfb, hob] at hne HB0 ⊢
  clear hla hlb hfa hfb hoa hob
  go_enter Tryd.func40, Tryd.ntmps40
  by_cases x1 : fa = fb
  · subst x1
    by_cases x2 : oa = ob
    · subst x2
      have x3 : la ≠ lb := fun h => hne ⟨rfl, rfl, h⟩
      have x4 : ((la : Int) == (lb : Int)) = false := by rw [beq_eq_false_iff_ne]; omega
      clear hne
      cases fa <;> (
        go_wp2
        go_ret
        exact ⟨rfl, HB0.out⟩)
    · have x4 : ((oa : Int) == (ob : Int)) = false := by rw [beq_eq_false_iff_ne]; omega
      clear hne
      cases fa <;> (
        go_wp2
        go_ret
        exact ⟨rfl, HB0.out⟩)
  · clear hne
    cases fa <;> cases fb <;> first
      | exact absurd rfl x1
      | (go_wp2
         go_ret
         exact ⟨rfl, HB0.out⟩)

theorem alike_any {w : World} {v1 v2 : Value} {s t : DSt} (h1 : Arcs w v1 s.arcs) (h2 : Arcs w v2 t.arcs) (hl : s.arcs.length ≤ 1000000) (hl2 : t.arcs.length ≤ 1000000) :
    Calls Tryd.prog 40 #[.agg #[v1, .bool s.fin, .int .u64 (s.out : Int)], .agg #[v2, .bool t.fin, .int .u64 (t.out : Int)]] w fun e w' => e = .returned (.bool (decide (s = t))) ∧ Below w.heap.size w w' := by
  by_cases h : s.fin = t.fin ∧ s.out = t.out ∧ s.arcs.length = t.arcs.length
  · exact alike_same h1 h2 hl h.1 h.2.1 h.2.2
  · rw [decide_eq_false (fun e => h (by rw [e]; exact ⟨rfl, rfl, rfl⟩))]
    exact alike_not h1 h2 hl hl2 h

end Go.Proofs.YtjiilmiikejnhaaDoor
namespace Go.Proofs.YtjiilmiikejnhaaDoor
open Go.RowKit Go.Shelf Said

set_option maxHeartbeats 4000000 in
set_option maxRecDepth 100000 in
theorem sameF_same {w : World} {v1 v2 : Value} {l m : List DSt} {n : Nat} (h1 : Sts w v1 l) (h2 : Sts w v2 m) (hl : l.length ≤ 100000) (ha : ∀ s ∈ l, s.arcs.length ≤ 100000) (ha2 : ∀ s ∈ m, s.arcs.length ≤ 100000) (hlen : l.length = m.length) :
    Calls Tryd.prog 19 #[.agg #[v1, .int .u64 (n : Int)], .agg #[v2, .int .u64 (n : Int)]] w fun e w' => e = .returned (.bool (decide (l = m))) ∧ Below w.heap.size w w' := by
  obtain ⟨ad1, c1, rfl, hc1⟩ := h1
  obtain ⟨ad2, c2, rfl, hc2⟩ := h2
  rw [← hlen] at hc2 ⊢
  have HC : Hid (∀ W, Below w.heap.size w W → ∀ i, i < l.length → (∃ b o, ad1 = some ⟨b, o, none⟩ ∧ StIn W b (o + i * 3) (stAt l i)) ∧ ∃ b o, ad2 = some ⟨b, o, none⟩ ∧ StIn W b (o + i * 3) (stAt m i)) := Lib.hid fun W hb i hi => by
    obtain ⟨b, o, e, hE⟩ := hc1 i hi
    obtain ⟨b', o', e', hE'⟩ := hc2 i hi
    exact ⟨⟨b, o, e, hE.below hb⟩, b', o', e', hE'.below hb⟩
  have HB0 := Lib.hid ((below_alloc w (.cells #[.slice ad1 l.length c1, .int .u64 (n : Int)] 25)).alloc (by simp) (.cells #[.slice ad2 l.length c2, .int .u64 (n : Int)] 25))
  have HX : Hid (∀ W, Below (w.heap.size + 2) ((w.alloc (.cells #[.slice ad1 l.length c1, .int .u64 (n : Int)] 25)).alloc (.cells #[.slice ad2 l.length c2, .int .u64 (n : Int)] 25)) W → W.cell? ⟨w.heap.size, 0, none⟩ = some (.slice ad1 l.length c1) ∧ W.cell? ⟨w.heap.size + 1, 0, none⟩ = some (.slice ad2 l.length c2)) := Lib.hid fun W hb => by
    have e0 := hb.cell (p := ⟨w.heap.size, 0, none⟩) (show w.heap.size < w.heap.size + 2 by omega)
    have e1 := hb.cell (p := ⟨w.heap.size + 1, 0, none⟩) (show w.heap.size + 1 < w.heap.size + 2 by omega)
    rw [e0, e1]
    constructor <;> simp
  have HA := Lib.hid (And.intro ha ha2)
  have HT := Lib.hid hlen
  clear hc1 hc2 ha ha2 hlen
  go_enter Tryd.func19, Tryd.ntmps19
  go_wp2
  go_loopw [5] (fun s5 wr => ∃ k : Nat, k ≤ l.length ∧ s5 = .int .i64 k ∧ Hid (∀ j, j < k → stAt l j = stAt m j) ∧ Hid (Below (w.heap.size + 2) ((w.alloc (.cells #[.slice ad1 l.length c1, .int .u64 (n : Int)] 25)).alloc (.cells #[.slice ad2 l.length c2, .int .u64 (n : Int)] 25)) wr)) (fun s5 _ => l.length - (intOf s5).toNat)
  case atStart => exact ⟨0, Nat.zero_le _, rfl, Lib.hid fun j hj => absurd hj (Nat.not_lt_zero j), Lib.hid (Below.refl _ _)⟩
  case round =>
    obtain ⟨k, hk, rfl, HP, HR⟩ := hrel
    have HBW := Lib.hid (HB0.out.trans (HR.out.mono (by omega)))
    have hzz : w.heap.size + 2 ≤ wr.heap.size := by have := HR.out.size; simpa using this
    by_cases hlt : k < l.length
    · obtain ⟨⟨b, o, rfl, u0, p1, p2, p3, p4⟩, b', o', rfl, u1, p5, p6, p7, p8⟩ := HC.out wr HBW.out k hlt
      obtain ⟨e1, f1, rfl, -⟩ := id p4
      obtain ⟨e2, f2, rfl, -⟩ := id p8
      have hmem : stAt l k ∈ l := by rw [stAt_lt hlt]; exact List.getElem_mem hlt
      have hmem2 : stAt m k ∈ m := by rw [stAt_lt (by rw [← HT.out]; exact hlt)]; exact List.getElem_mem _
      obtain ⟨x, hx⟩ : ∃ x, stAt l k = x := ⟨_, rfl⟩
      obtain ⟨y, hy⟩ : ∃ y, stAt m k = y := ⟨_, rfl⟩
      rw [hx] at p1 p2 p3 p4 hmem
      rw [hy] at p5 p6 p7 p8 hmem2
      have HY : Hid (∀ W, Below wr.heap.size wr W → (W.cell? ⟨w.heap.size, 0, none⟩ = some (.slice (some ⟨b, o, none⟩) l.length c1) ∧ W.cell? ⟨w.heap.size + 1, 0, none⟩ = some (.slice (some ⟨b', o', none⟩) l.length c2)) ∧ (W.cell? ⟨b, o + k * 3, none⟩ = some (.slice e1 x.arcs.length f1) ∧ W.cell? ⟨b, o + k * 3 + 1, none⟩ = some (.bool x.fin) ∧ W.cell? ⟨b, o + k * 3 + 2, none⟩ = some (.int .u64 (x.out : Int))) ∧ (W.cell? ⟨b', o' + k * 3, none⟩ = some (.slice e2 y.arcs.length f2) ∧ W.cell? ⟨b', o' + k * 3 + 1, none⟩ = some (.bool y.fin) ∧ W.cell? ⟨b', o' + k * 3 + 2, none⟩ = some (.int .u64 (y.out : Int)))) := Lib.hid fun W hb => by
        have s1 := hb.block b (block_lt_of_cell p1)
        have s2 := hb.block b' (block_lt_of_cell p5)
        exact ⟨HX.out W (HR.out.trans (hb.mono hzz)), ⟨(cell_same s1).trans p1, (cell_same s1).trans p2, (cell_same s1).trans p3⟩, (cell_same s2).trans p5, (cell_same s2).trans p6, (cell_same s2).trans p7⟩
      have HQ : Hid (∀ W, Below wr.heap.size wr W → Calls Tryd.prog 40 #[.agg #[.slice e1 x.arcs.length f1, .bool x.fin, .int .u64 (x.out : Int)], .agg #[.slice e2 y.arcs.length f2, .bool y.fin, .int .u64 (y.out : Int)]] W fun e w' => e = .returned (.bool (decide (x = y))) ∧ Below W.heap.size W w') := Lib.hid fun W hb => alike_any (p4.below hb) (p8.below hb) (Nat.le_trans (HA.out.1 x hmem) (by omega)) (Nat.le_trans (HA.out.2 y hmem2) (by omega))
      obtain ⟨x1, x2⟩ := HX.out wr HR.out
      have il : (k : Int) < (l.length : Int) := by omega
      obtain ⟨q, hq⟩ : ∃ q, decide (x = y) = q := ⟨_, rfl⟩
      rw [hq] at HQ
      have HE := Lib.hid (And.intro hq (And.intro hx hy))
      clear p1 p2 p3 p4 p5 p6 p7 p8 hmem hmem2 hx hy hq
      go_wp2
      refine Said.region (by kernel_rfl) (by kernel_rfl) (by kernel_rfl) [.is (.pointer (some ⟨w.heap.size, 0, none⟩)), .is (.slice (some ⟨b, o, none⟩) l.length c1), .is (.int .i64 (k : Int)), .is (.pointer (some ⟨b, o + k * 3, none⟩)), .is (.agg #[.slice e1 x.arcs.length f1, .bool x.fin, .int .u64 (x.out : Int)]),
        .is (.pointer (some ⟨w.heap.size + 1, 0, none⟩)), .is (.slice (some ⟨b', o', none⟩) l.length c2), .is (.int .i64 (k : Int)), .is (.pointer (some ⟨b', o' + k * 3, none⟩)), .is (.agg #[.slice e2 y.arcs.length f2, .bool y.fin, .int .u64 (y.out : Int)]), .is (.bool q), .is (.bool (!q))] ?_
      simp only [List.toList_toArray]
      iterate 10 (
        refine sq_pure (by rfl) (fun W hb _ => ?_) ?_
        · obtain ⟨⟨a1, a2⟩, ⟨a3, a4, a5⟩, a6, a7, a8⟩ := HY.out W hb
          go_simp
        simp only [Act.put, List.setIfInBounds_toArray, List.set_cons_zero, List.set_cons_succ])
      refine sq_call (f := 40) (args := #[.agg #[.slice e1 x.arcs.length f1, .bool x.fin, .int .u64 (x.out : Int)], .agg #[.slice e2 y.arcs.length f2, .bool y.fin, .int .u64 (y.out : Int)]]) (by rfl) (fun W => by go_simp) (fun W hb _ => HQ.out W hb) ?_
      simp only [Act.put, List.setIfInBounds_toArray, List.set_cons_zero, List.set_cons_succ]
      refine sq_pure (by rfl) (fun W hb _ => by go_simp) ?_
      simp only [Act.put, List.setIfInBounds_toArray, List.set_cons_zero, List.set_cons_succ]
      refine sq_end (fun W hb hK9 => ?_)
      have HN := Lib.hid (HR.out.trans (hb.mono hzz))
      have HNW := Lib.hid (HB0.out.trans (HN.out.mono (by omega)))
      clear hK9 hb
      cases q
      · have HST : Hid (decide (l = m) = false) := Lib.hid (decide_eq_false fun e => by
          obtain ⟨h1, h2, h3⟩ := HE.out
          exact absurd (h2.symm.trans ((congrArg (fun z => stAt z k) e).trans h3)) (of_decide_eq_false h1))
        go_wp2
        go_ret
        exact ⟨by rw [HST.out]; rfl, HNW.out⟩
      · have HQN : Hid (∀ j, j < k + 1 → stAt l j = stAt m j) := Lib.hid fun j hj => by
          obtain ⟨h1, h2, h3⟩ := HE.out
          rcases Nat.lt_or_ge j k with h | h
          · exact HP.out j h
          · rw [show j = k by omega, h2, h3]
            exact of_decide_eq_true h1
        go_wp2
        exact ⟨⟨k + 1, by omega, by go_num, HQN, HN⟩, by simp [intOf]; omega⟩
    · obtain ⟨x1, x2⟩ := HX.out wr HR.out
      have HST : Hid (decide (l = m) = true) := Lib.hid (decide_eq_true (List.ext_getElem HT.out fun i h1 h2 => by
        have := HP.out i (by omega)
        rwa [stAt_lt h1, stAt_lt h2] at this))
      go_wp2
      go_ret
      exact ⟨by rw [HST.out]; rfl, HBW.out⟩

set_option maxHeartbeats 2000000 in
set_option maxRecDepth 100000 in
theorem sameF_not {w : World} {v1 v2 : Value} {l m : List DSt} {n1 n2 : Nat} (h1 : Sts w v1 l) (h2 : Sts w v2 m) (hl : l.length ≤ 100000) (hl2 : m.length ≤ 100000) (hne : ¬ (n1 = n2 ∧ l.length = m.length)) :
    Calls Tryd.prog 19 #[.agg #[v1, .int .u64 (n1 : Int)], .agg #[v2, .int .u64 (n2 : Int)]] w fun e w' => e = .returned (.bool false) ∧ Below w.heap.size w w' := by
  obtain ⟨ad1, c1, rfl, hc1⟩ := h1
  obtain ⟨ad2, c2, rfl, hc2⟩ := h2
  have HB0 := Lib.hid ((below_alloc w (.cells #[.slice ad1 l.length c1, .int .u64 (n1 : Int)] 25)).alloc (by simp) (.cells #[.slice ad2 m.length c2, .int .u64 (n2 : Int)] 25))
  clear hc1 hc2
  obtain ⟨la, hla⟩ : ∃ n, l.length = n := ⟨_, rfl⟩
  obtain ⟨lb, hlb⟩ : ∃ n, m.length = n := ⟨_, rfl⟩
  rw [hla, hlb] at hne HB0 ⊢
  clear hla hlb
  go_enter Tryd.func19, Tryd.ntmps19
  by_cases x2 : n1 = n2
  · subst x2
    have x3 : la ≠ lb := fun h => hne ⟨rfl, h⟩
    have x4 : ((la : Int) == (lb : Int)) = false := by rw [beq_eq_false_iff_ne]; omega
    clear hne
    go_wp2
    go_ret
    exact ⟨rfl, HB0.out⟩
  · have x4 : ((n1 : Int) == (n2 : Int)) = false := by rw [beq_eq_false_iff_ne]; omega
    clear hne
    go_wp2
    go_ret
    exact ⟨rfl, HB0.out⟩

theorem sameF_any {w : World} {v1 v2 : Value} {l m : List DSt} {n1 n2 : Nat} (h1 : Sts w v1 l) (h2 : Sts w v2 m) (hl : l.length ≤ 100000) (hl2 : m.length ≤ 100000) (ha : ∀ s ∈ l, s.arcs.length ≤ 100000) (ha2 : ∀ s ∈ m, s.arcs.length ≤ 100000) :
    Calls Tryd.prog 19 #[.agg #[v1, .int .u64 (n1 : Int)], .agg #[v2, .int .u64 (n2 : Int)]] w fun e w' => e = .returned (.bool (decide (n1 = n2 ∧ l = m))) ∧ Below w.heap.size w w' := by
  by_cases h : n1 = n2 ∧ l.length = m.length
  · obtain ⟨rfl, h⟩ := h
    have := sameF_same (n := n1) h1 h2 hl ha ha2 h
    rwa [show decide (l = m) = decide (n1 = n1 ∧ l = m) from decide_eq_decide.2 ⟨fun h => ⟨rfl, h⟩, fun h => h.2⟩] at this
  · rw [decide_eq_false (fun e => h ⟨e.1, by rw [e.2]⟩)]
    exact sameF_not h1 h2 hl hl2 h
end Go.Proofs.YtjiilmiikejnhaaDoor

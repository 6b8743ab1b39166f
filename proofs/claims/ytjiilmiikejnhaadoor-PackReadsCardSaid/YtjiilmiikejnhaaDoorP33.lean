/-
  The document's: of few states. The document's: a transducer that may be laid, of whatever came. A region that draws its order: two calls' transducers are put into two new boxes.
-/
import Derived.Test.YtjiilmiikejnhaaDoorP31
import Derived.Test.YtjiilmiikejnhaaDoorP32
import Derived.Test.YtjiilmiikejnhaaDoorP08
import Derived.Test.YtjiilmiikejnhaaDoorP11
set_option linter.unusedVariables false
set_option linter.unusedSimpArgs false
namespace Go.Proofs.YtjiilmiikejnhaaDoor
open Go.RowKit Go.Shelf Said

/-- Arcs that are read, in a row that has room for them. -/
def ArcsC (w : World) (v : Value) (l : List DArc) : Prop := Arcs w v l ∧ ∃ ad c, v = .slice ad l.length c ∧ l.length ≤ c
theorem ArcsC.below {w w' : World} {v : Value} {l : List DArc} (h : ArcsC w v l) (hb : Below w.heap.size w w') : ArcsC w' v l := ⟨h.1.below hb, h.2⟩
/-- A transducer's states as they come. -/
def StsC (w : World) (v : Value) (l : List DSt) : Prop :=
  ∃ ad c, v = .slice ad l.length c ∧ ∀ i, i < l.length → ∃ b o, ad = some ⟨b, o, none⟩ ∧ ∃ u, w.cell? ⟨b, o + i * 3, none⟩ = some u ∧ w.cell? ⟨b, o + i * 3 + 1, none⟩ = some (.bool (stAt l i).fin) ∧ w.cell? ⟨b, o + i * 3 + 2, none⟩ = some (.int .u64 ((stAt l i).out : Int)) ∧ ArcsC w u (stAt l i).arcs
theorem StsC.below {w w' : World} {v : Value} {l : List DSt} (h : StsC w v l) (hb : Below w.heap.size w w') : StsC w' v l := by
  obtain ⟨ad, c, rfl, hc⟩ := h
  refine ⟨ad, c, rfl, fun i hi => ?_⟩
  obtain ⟨b, o, e, u, h1, h2, h3, h4⟩ := hc i hi
  have hs := hb.block b (block_lt_of_cell h1)
  exact ⟨b, o, e, u, (cell_same hs).trans h1, (cell_same hs).trans h2, (cell_same hs).trans h3, h4.below hb⟩
theorem StsC.sts {w : World} {v : Value} {l : List DSt} (h : StsC w v l) : Sts w v l := by
  obtain ⟨ad, c, rfl, hc⟩ := h
  refine ⟨ad, c, rfl, fun i hi => ?_⟩
  obtain ⟨b, o, e, u, h1, h2, h3, h4⟩ := hc i hi
  exact ⟨b, o, e, u, h1, h2, h3, h4.1⟩
theorem arcs_take {w : World} {ad : Option Addr} {n c : Nat} {l : List DArc} (h : Arcs w (.slice ad n c) l) {k c' : Nat} (hk : k ≤ l.length) : Arcs w (.slice ad k c') (l.take k) := by
  obtain ⟨ad', c0, e, hc⟩ := h
  injection e with e1 e2 e3
  subst e1
  refine ⟨ad, c', by simp [Nat.min_eq_left hk], fun i hi => ?_⟩
  have hik : i < k := by simp at hi; omega
  obtain ⟨b, o, e4, hE⟩ := hc i (by omega)
  refine ⟨b, o, e4, ?_⟩
  rw [show arcAt (l.take k) i = arcAt l i by simp [arcAt, List.getD, List.getElem?_take, hik]]
  exact hE

/-- A row of states of one's own, whose arcs are read. -/
def RowsA (w : World) (base : Nat) (v : Value) (xs : List (Value × DSt)) : Prop := SRow w base v xs ∧ ∀ x ∈ xs, ArcsC w x.1 x.2.arcs
theorem RowsA.sts {w : World} {base : Nat} {v : Value} {xs : List (Value × DSt)} (h : RowsA w base v xs) : Sts w v (xs.map (·.2)) := sts_of' h.1 fun x hx => (h.2 x hx).1

/-- A state more stands in the row, and the row in its box. -/
theorem srow_next {w1 w5 : World} {base q n : Nat} {xs : List (Value × DSt)} {y : Value × DSt} {v v5 v0 : Value} (hs : FstB w1 q v n) (hrow : SRow w1 base v xs) (hq : base ≤ q)
    (hA : Appd w1 base 64 v (xs.length + 1) (stsC xs ++ stC y) q 0 v0 v5 w5) :
    FstB (w5.setCell ⟨q, 0, none⟩ v5) q v5 n ∧ SRow (w5.setCell ⟨q, 0, none⟩ v5) base v5 (xs ++ [y]) ∧ Kp (fun g => v.ownBlock = some g ∨ g = q) w1 (w5.setCell ⟨q, 0, none⟩ v5) := by
  obtain ⟨a1, a2, a3', -, -⟩ := hA
  have nb : ∀ b o, w1.heap[b]? = some o → (∀ cs fz, o ≠ .cells cs 64 fz) → ¬ v.ownBlock = some b := fun b o ho hne e => by
    obtain ⟨_, cs, fz, hc⟩ := owns_cells hrow b e
    rw [ho] at hc
    exact hne cs fz (Option.some.inj hc)
  have hs' : w1.heap[q]? = some _ := hs
  have hk := kp_set w5 q 0 v5
  have hs5 := hs.kp a2 (nb q _ hs' (fun cs fz e => by cases e))
  have nq : ∀ b, v5.ownBlock = some b → b ≠ q := fun b hb e => by
    subst e
    rcases a3' with e | e
    · rw [e] at hb
      exact nb b _ hs' (fun cs fz e => by cases e) hb
    · have := e b hb
      have := hs.lt
      omega
  refine ⟨hs5.set0 v5, ?_, (a2.mono fun g e => .inl (.inl e)).trans hk (fun g e => .inl (.inr e))⟩
  unfold SRow
  rw [List.length_append, List.length_singleton, stsC_snoc]
  exact owns_same a1 fun b hb => hk.block b (a1.lt b hb).2 (nq b hb)

theorem fst_apart {w : World} {base p n : Nat} {v u : Value} {xs : List (Value × DSt)} (h : FstB w p u n) (hr : SRow w base v xs) : v.ownBlock ≠ some p := fun e => by
  obtain ⟨_, cs, fz, hc⟩ := owns_cells hr p e
  have h' : w.heap[p]? = some _ := h
  rw [h'] at hc
  cases hc

set_option maxHeartbeats 2000000 in
set_option maxRecDepth 100000 in
theorem few_any {w : World} {v : Value} {l : List DSt} {init : Nat} (h : StsC w v l) :
    Calls Tryd.prog 9 #[.agg #[v, .int .u64 (init : Int)]] w fun e w' => ∃ ad c xs, e = .returned (.agg #[.slice ad xs.length c, .int .u64 (init : Int)]) ∧ RowsA w' w.heap.size (.slice ad xs.length c) xs ∧ xs.map (·.2) = fewT l ∧ Below w.heap.size w w' := by
  have hst := h
  obtain ⟨ad, c, rfl, hc⟩ := h
  obtain ⟨n, hn⟩ : ∃ n, l.length = n := ⟨_, rfl⟩
  rw [hn] at hc ⊢
  obtain ⟨w0, hw0⟩ : ∃ w0, w0 = ((w.alloc (.cells #[.slice ad n c, .int .u64 (init : Int)] 25)).alloc (.cells #[.slice none 0 0, .int .u64 0] 25)).alloc (.cells #[.slice none 0 0, .int .u64 (init : Int)] 25) := ⟨_, rfl⟩
  have hb0 : Below w.heap.size w w0 := by rw [hw0]; exact ((below_alloc w _).alloc (by simp) _).alloc (by simp; try omega) _
  have f0 : FstB w0 w.heap.size (.slice ad n c) init := by rw [hw0]; exact (alloc_old _ _ (by simp; try omega)).trans ((alloc_old _ _ (by simp)).trans (heap_alloc_new w _))
  have f1 : FstB w0 (w.heap.size + 1) (.slice none 0 0) 0 := by rw [hw0]; exact (alloc_old _ _ (by simp; try omega)).trans (alloc_at _ _ (by simp))
  have f2 : FstB w0 (w.heap.size + 1 + 1) (.slice none 0 0) init := by rw [hw0]; exact alloc_at _ _ (by simp)
  have HC := Lib.hid hc
  have HN := Lib.hid hn
  have H0 := Lib.hid (And.intro hb0 (And.intro f0 (And.intro f1 f2)))
  clear hc hn hst hb0 f0 f1 f2
  go_enter Tryd.func9, Tryd.ntmps9
  go_upto_region 3 with fail
  rw [← hw0]
  clear hw0
  go_loopw [4] (fun s4 wr => ∃ (k : Nat) (xs : List (Value × DSt)) (ar : Option Addr) (cr : Nat), k ≤ n ∧ k ≤ 12 ∧ s4 = .int .i64 k ∧ Hid (xs.length = k ∧ SRow wr w.heap.size (.slice ar k cr) xs ∧ (∀ x ∈ xs, ArcsC w x.1 x.2.arcs) ∧ xs.map (·.2) = (l.take k).map fewS) ∧ Hid (FstB wr w.heap.size (.slice ad n c) init ∧ FstB wr (w.heap.size + 1) (.slice none 0 0) 0 ∧ FstB wr (w.heap.size + 1 + 1) (.slice ar k cr) init) ∧ Hid (Below w.heap.size w wr)) (fun s4 _ => 12 - (intOf s4).toNat)
  case atStart => exact ⟨0, [], none, 0, Nat.zero_le _, Nat.zero_le _, rfl, Lib.hid ⟨rfl, World.ownsRow_nil w0 _ 64 3, List.forall_mem_nil _, rfl⟩, Lib.hid H0.out.2, Lib.hid H0.out.1⟩
  case round =>
    obtain ⟨k, xs, ar, cr, hk, hk12, rfl, HR, HF, HB⟩ := hrel
    by_cases hlt : k < n ∧ k < 12
    · obtain ⟨hl1, hl2⟩ := hlt
      obtain ⟨b, o, rfl, u, h1, h2, h3, h4, e1, q1, rfl, hcap⟩ := HC.out k hl1
      have hs := HB.out.block b (block_lt_of_cell h1)
      have h1 := (cell_same (p := ⟨b, o + k * 3, none⟩) hs).trans h1
      have h2 := (cell_same (p := ⟨b, o + k * 3 + 1, none⟩) hs).trans h2
      have h3 := (cell_same (p := ⟨b, o + k * 3 + 2, none⟩) hs).trans h3
      have hmem : stAt l k = l[k]'(by rw [HN.out]; exact hl1) := stAt_lt _
      obtain ⟨y, hy⟩ : ∃ y, stAt l k = y := ⟨_, rfl⟩
      rw [hy] at h1 h2 h3 h4 hcap hmem
      obtain ⟨m, hm⟩ : ∃ m, y.arcs.length = m := ⟨_, rfl⟩
      rw [hm] at h1 h4 hcap
      obtain ⟨km, hkm⟩ : ∃ km, km = min 6 m := ⟨_, rfl⟩
      have hkm6 : km ≤ 6 := by omega
      have hkmm : km ≤ m := by omega
      have hmin : min (m : Int) 6 = (km : Int) := by omega
      have hkq : km ≤ q1 := by omega
      have d1 : decide ((k : Int) < (n : Int)) = true := by simp; omega
      have d2 : decide ((k : Int) < 12) = true := by simp; omega
      have il : (k : Int) < (n : Int) := by omega
      have c0 := HF.out.1.at0
      have c2 := fun o => FstB.at0 (HF.out.2.2.kp (Kp.below (M := fun _ => False) (below_alloc wr o)) (fun h => h))
      have HX := Lib.hid (And.intro h4 (And.intro hm (And.intro hmem (And.intro hkm hcap))))
      clear hs h4 hm hmem hy hkm hcap
      obtain ⟨ob, hob⟩ : ∃ ob, ob = Obj.cells #[.slice e1 km q1, .bool y.fin, .int .u64 (y.out : Int)] 64 (0, 0) := ⟨_, rfl⟩
      have HA : SRow (wr.alloc ob) w.heap.size (.slice ar k cr) xs := owns_same HR.out.2.1 fun g hg => alloc_old _ _ (HR.out.2.1.lt g hg).2
      have HBB : FstB (wr.alloc ob) (w.heap.size + 1 + 1) (.slice ar k cr) init := HF.out.2.2.kp (Kp.below (M := fun _ => False) (below_alloc wr ob)) (fun h => h)
      have HA' := HA
      unfold SRow at HA'
      rw [HR.out.1] at HA'
      have HW := Lib.hid (And.intro (show ((wr.alloc ob).alloc ob).heap[wr.heap.size + 1]? = some ob from alloc_at _ _ (by simp)) (And.intro HA' (And.intro (show k ≤ 100000 by omega) (And.intro (show w.heap.size ≤ (wr.alloc ob).heap.size by have := HB.out.size; simp; omega)
        (And.intro (show ∀ u ∈ [Value.slice e1 km q1, .bool y.fin, .int .u64 (y.out : Int)], u.oneCell' = true by intro u hu; simp at hu; rcases hu with rfl | rfl | rfl <;> rfl) (And.intro (fst_apart HBB HA) (And.intro HBB.at0 (And.intro (HBB.free 0) HBB.lt))))))))
      have HNX := Lib.hid (And.intro HBB HA)
      rw [hob] at HW HNX
      clear HA HBB HA' hob
      go_wp2_with (at_builtin
                   go_loud (refine wpList_append_row (w2 := wr.alloc (.cells #[.slice e1 km q1, .bool y.fin, .int .u64 (y.out : Int)] 64)) (vs := .slice ar k cr) rfl (.tmp 34) (.tmp 36) rfl rfl Tryd.underlying22 iState rfl (by decide) w.heap.size (w.heap.size + 1 + 1) 0 (.slice ar k cr) k (stsC xs) [.slice e1 km q1, .bool y.fin, .int .u64 (y.out : Int)] (wr.heap.size + 1) rfl rfl HW.out.1 (below_alloc _ _) HW.out.2.1 HW.out.2.2.1 HW.out.2.2.2.1 rfl HW.out.2.2.2.2.1 HW.out.2.2.2.2.2.1 HW.out.2.2.2.2.2.2.1 HW.out.2.2.2.2.2.2.2.1 HW.out.2.2.2.2.2.2.2.2 ?_)
                   intro a5 n5 c5 w5 hA5 r1 r2
                   have HA5 := Lib.hid hA5
                   clear hA5 c2)
      have hy6 : ArcsC w (.slice e1 km q1) (fewS y).arcs := by
        obtain ⟨x1, x2, x3, x4, x5⟩ := HX.out
        have hl : (fewS y).arcs.length = km := by simp [fewS]; omega
        refine ⟨?_, e1, q1, by rw [hl], by omega⟩
        have := arcs_take x1 (k := km) (c' := q1) (by omega)
        rwa [show (fewS y).arcs = y.arcs.take km by simp only [fewS]; rw [x4, ← List.take_take, x2.symm, List.take_length]]
      obtain ⟨n1, n2, n3⟩ := srow_next (y := (.slice e1 km q1, fewS y)) (v5 := .slice a5 n5 c5) HNX.out.1 HNX.out.2 (by omega) (by rw [HR.out.1]; exact HA5.out)
      obtain ⟨ar', cr', e⟩ := n2.form
      injection e with i1 i2 i3
      subst i1 i2 i3
      have hlen : (xs ++ [((.slice e1 km q1, fewS y) : Value × DSt)]).length = k + 1 := by simp [HR.out.1]
      rw [hlen] at n1 n2 n3 ⊢
      have hkp : Kp (fun g => (Value.slice ar k cr).ownBlock = some g ∨ g = w.heap.size + 1 + 1) wr _ := ((Kp.below (M := fun _ => False) (below_alloc wr _)).mono (fun g h => absurd h (fun h => h))).trans n3 (fun g e => .inl e)
      refine ⟨⟨k + 1, xs ++ [(.slice e1 km q1, fewS y)], a5, c5, by omega, by omega, by go_num, Lib.hid ⟨hlen, n2, fun x hx => ?_, ?_⟩, Lib.hid ⟨HF.out.1.kp hkp ?_, HF.out.2.1.kp hkp ?_, n1⟩, Lib.hid (((Kp.below (M := fun g => w.heap.size ≤ g) HB.out).trans hkp (fun g e => .inl ?_)).to (Nat.le_refl _) fun g e => e)⟩, by simp [intOf]; omega⟩
      · rcases List.mem_append.1 hx with hx | hx
        · exact HR.out.2.2.1 x hx
        · rw [List.mem_singleton.1 hx]; exact hy6
      · have hkl : k < l.length := by rw [HN.out]; exact hl1
        rw [List.map_append, HR.out.2.2.2, List.take_succ_eq_append_getElem hkl, List.map_append]
        simp [HX.out.2.2.1]
      · rintro (e | e)
        · exact fst_apart HF.out.1 HR.out.2.1 e
        · omega
      · rintro (e | e)
        · exact fst_apart HF.out.2.1 HR.out.2.1 e
        · omega
      · rcases e with e | e
        · exact (HR.out.2.1.lt g e).1
        · omega
    · obtain ⟨e0, e1⟩ : k = min 12 n ∧ True := ⟨by omega, trivial⟩
      have hfin : xs.map (·.2) = fewT l := by
        rw [HR.out.2.2.2, e0]
        unfold fewT
        rw [← HN.out]
        congr 1
        rcases Nat.le_total 12 l.length with h | h
        · rw [Nat.min_eq_left h]
        · rw [Nat.min_eq_right h, List.take_length, List.take_of_length_le h]
      have HFIN := Lib.hid (And.intro hfin (show RowsA wr w.heap.size (.slice ar xs.length cr) xs from ⟨by rw [HR.out.1]; exact HR.out.2.1, fun x hx => (HR.out.2.2.1 x hx).below HB.out⟩))
      have c0 := HF.out.1.at0
      have c2 := HF.out.2.2.at0
      have c3 := HF.out.2.2.at1
      have z1 := HF.out.2.1.free 0
      have z11 := HF.out.2.1.free 1
      have r0 := HF.out.2.1.at0
      have r1 := HF.out.2.1.at1
      have hxl := HR.out.1
      by_cases hl1 : k < n
      · have hl2 : k = 12 := by omega
        have d1 : decide ((k : Int) < (n : Int)) = true := by simp; omega
        have d2 : decide ((k : Int) < 12) = false := by simp; omega
        clear hfin hlt e0 hxl
        go_wp2
        obtain ⟨W, hW⟩ : ∃ W, W = (wr.setCell ⟨w.heap.size + 1, 0, none⟩ (.slice ar 12 cr)).setCell ⟨w.heap.size + 1, 1, none⟩ (.int .u64 (init : Int)) := ⟨_, rfl⟩
        have hf3 := (HF.out.2.1.set0 (.slice ar 12 cr)).set1 init
        have hk3 := (kp_set wr (w.heap.size + 1) 0 (.slice ar 12 cr)).trans (kp_set _ (w.heap.size + 1) 1 (.int .u64 (init : Int))) (fun g e => .inl e)
        rw [← hW] at hf3 hk3 ⊢
        clear hW
        have q1 := hf3.at0
        have q2 := hf3.at1
        simp [bodyPost, results, Tryd.results9, go_sem, q1, q2]
        have hBW : Below w.heap.size w W := ((Kp.below (M := fun g => w.heap.size ≤ g) HB.out).trans hk3 (fun g e => .inl (by omega))).to (Nat.le_refl _) fun g e => e
        refine ⟨ar, cr, xs, ⟨rfl, by rw [HR.out.1]; try omega, rfl⟩, ⟨owns_same HFIN.out.2.1 fun g hg => hk3.block g (HFIN.out.2.1.lt g hg).2 (fun e => ?_), fun x hx => (HR.out.2.2.1 x hx).below hBW⟩, HFIN.out.1, hBW⟩
        rw [e] at hg
        exact fst_apart HF.out.2.1 HFIN.out.2.1 hg
      · have d1 : decide ((k : Int) < (n : Int)) = false := by simp; omega
        clear hfin hlt e0 hxl
        go_wp2
        obtain ⟨W, hW⟩ : ∃ W, W = (wr.setCell ⟨w.heap.size + 1, 0, none⟩ (.slice ar k cr)).setCell ⟨w.heap.size + 1, 1, none⟩ (.int .u64 (init : Int)) := ⟨_, rfl⟩
        have hf3 := (HF.out.2.1.set0 (.slice ar k cr)).set1 init
        have hk3 := (kp_set wr (w.heap.size + 1) 0 (.slice ar k cr)).trans (kp_set _ (w.heap.size + 1) 1 (.int .u64 (init : Int))) (fun g e => .inl e)
        rw [← hW] at hf3 hk3 ⊢
        clear hW
        have q1 := hf3.at0
        have q2 := hf3.at1
        simp [bodyPost, results, Tryd.results9, go_sem, q1, q2]
        have hBW : Below w.heap.size w W := ((Kp.below (M := fun g => w.heap.size ≤ g) HB.out).trans hk3 (fun g e => .inl (by omega))).to (Nat.le_refl _) fun g e => e
        refine ⟨ar, cr, xs, ⟨rfl, by rw [HR.out.1]; try omega, rfl⟩, ⟨owns_same HFIN.out.2.1 fun g hg => hk3.block g (HFIN.out.2.1.lt g hg).2 (fun e => ?_), fun x hx => (HR.out.2.2.1 x hx).below hBW⟩, HFIN.out.1, hBW⟩
        rw [e] at hg
        exact fst_apart HF.out.2.1 HFIN.out.2.1 hg
end Go.Proofs.YtjiilmiikejnhaaDoor
namespace Go.Proofs.YtjiilmiikejnhaaDoor
open Go.RowKit Go.Shelf Said

theorem st_apart {w : World} {base p n : Nat} {f : Bool} {v u : Value} {xs : List DArc} (h : StB w p u f n) (hr : ARow w base v xs) : v.ownBlock ≠ some p := fun e => by
  obtain ⟨_, cs, fz, hc⟩ := owns_cells hr p e
  have h' : w.heap[p]? = some _ := h
  rw [h'] at hc
  cases hc
theorem fst_apartA {w : World} {base p n : Nat} {v u : Value} {xs : List DArc} (h : FstB w p u n) (hr : ARow w base v xs) : v.ownBlock ≠ some p := fun e => by
  obtain ⟨_, cs, fz, hc⟩ := owns_cells hr p e
  have h' : w.heap[p]? = some _ := h
  rw [h'] at hc
  cases hc
theorem rowsI_next {w1 w5 : World} {base q n : Nat} {xs : List (Value × DSt)} {y : Value × DSt} {v v5 v0 : Value} (hs : FstB w1 q v n) (hrow : RowsI w1 base v xs) (hy : ARow w1 base y.1 y.2.arcs) (hq : base ≤ q)
    (hA : Appd w1 base 64 v (xs.length + 1) (stsC xs ++ stC y) q 0 v0 v5 w5) :
    FstB (w5.setCell ⟨q, 0, none⟩ v5) q v5 n ∧ RowsI (w5.setCell ⟨q, 0, none⟩ v5) base v5 (xs ++ [y]) ∧ Kp (fun g => v.ownBlock = some g ∨ g = q) w1 (w5.setCell ⟨q, 0, none⟩ v5) := by
  obtain ⟨h1, h2, h3⟩ := srow_next hs hrow.1 hq hA
  refine ⟨h1, ⟨h2, fun x hx => ?_⟩, h3⟩
  have hold : ∀ x : Value × DSt, ARow w1 base x.1 x.2.arcs → ARow (w5.setCell ⟨q, 0, none⟩ v5) base x.1 x.2.arcs := fun x hx => hx.kp h3 fun g hg e => by
    obtain ⟨_, cs, fz, hc⟩ := owns_cells hx g hg
    rcases e with e | e
    · obtain ⟨_, cs', fz', hc'⟩ := owns_cells hrow.1 g e
      rw [hc] at hc'
      cases hc'
    · subst e
      exact fst_apartA hs hx hg
  rcases List.mem_append.1 hx with h | h
  · exact hold x (hrow.2 x h)
  · rw [List.mem_singleton.1 h]
    exact hold y hy
/-- An arc more stands in the row, and the row in the state's box. -/
theorem arow_next {w1 w5 : World} {base q n : Nat} {f : Bool} {l : List DArc} {y : DArc} {v v5 v0 : Value} (hs : StB w1 q v f n) (hrow : ARow w1 base v l)
    (hA : Appd w1 base 66 v (l.length + 1) (arcsC l ++ arcC y) q 0 v0 v5 w5) :
    StB (w5.setCell ⟨q, 0, none⟩ v5) q v5 f n ∧ ARow (w5.setCell ⟨q, 0, none⟩ v5) base v5 (l ++ [y]) ∧ Kp (fun g => v.ownBlock = some g ∨ g = q) w1 (w5.setCell ⟨q, 0, none⟩ v5) := by
  obtain ⟨a1, a2, a3', -, -⟩ := hA
  have hk := kp_set w5 q 0 v5
  have hs5 := hs.kp a2 (st_apart hs hrow)
  have nq : ∀ b, v5.ownBlock = some b → b ≠ q := fun b hb e => by
    subst e
    rcases a3' with e | e
    · rw [e] at hb
      exact st_apart hs hrow hb
    · have := e b hb
      have := hs.lt
      omega
  refine ⟨cells_setCell hs5 0 _, ?_, (a2.mono fun g e => .inl (.inl e)).trans hk (fun g e => .inl (.inr e))⟩
  unfold ARow
  rw [List.length_append, List.length_singleton, arcsC_snoc]
  exact owns_same a1 fun b hb => hk.block b (a1.lt b hb).2 (nq b hb)
theorem ARow.form' {w : World} {base : Nat} {v : Value} {l : List DArc} (h : ARow w base v l) : ∃ ad c, v = .slice ad l.length c := by
  obtain ⟨ad, c, e, -⟩ := h.arcs
  exact ⟨ad, c, e⟩

theorem fst_cell {w : World} {p n o : Nat} {v : Value} (h : FstB w p v n) : w.cell? ⟨p, o, none⟩ = (#[v, Value.int .u64 (n : Int)] : Array Value)[o]? := by
  rw [cell_of_row w p o _ _ _ h]
theorem ArcIn.ne {w : World} {b o p n : Nat} {a : DArc} {v : Value} {ad : Option Addr} {k c : Nat} (h : ArcIn w b o a) (hf : FstB w p v n) (hv : v = .slice ad k c) : b ≠ p := fun e => by
  subst e hv
  have h0 := h.1
  rw [fst_cell hf] at h0
  match o, h0 with
  | 0, h0 => simp at h0
  | 1, h0 => simp at h0
  | o + 2, h0 => simp at h0
theorem bool_ne {w : World} {b o p n : Nat} {f : Bool} {v : Value} (h : w.cell? ⟨b, o + 1, none⟩ = some (.bool f)) (hf : FstB w p v n) : b ≠ p := fun e => by
  subst e
  rw [fst_cell hf] at h
  match o, h with
  | 0, h => simp at h
  | o + 1, h => simp at h
theorem Sts.set {w w' : World} {p n : Nat} {v u : Value} {l : List DSt} {ad : Option Addr} {k c : Nat} (h : Sts w v l) (hf : FstB w p u n) (hu : u = .slice ad k c) (hk : Kp (fun g => g = p) w w') : Sts w' v l := by
  obtain ⟨ad', c', rfl, hc⟩ := h
  refine ⟨ad', c', rfl, fun i hi => ?_⟩
  obtain ⟨b, o, e, x, h1, h2, h3, ad2, c2, rfl, h4⟩ := hc i hi
  have hs := hk.block b (block_lt_of_cell h1) (bool_ne h2 hf)
  refine ⟨b, o, e, _, (cell_same hs).trans h1, (cell_same hs).trans h2, (cell_same hs).trans h3, ad2, c2, rfl, fun j hj => ?_⟩
  obtain ⟨b', o', e', hE⟩ := h4 j hj
  exact ⟨b', o', e', hE.kept (hk.block b' hE.lt (hE.ne hf hu))⟩

theorem fst_out {w W : World} {p init : Nat} {v : Value} {S : List DSt} {ad : Option Addr} {k c : Nat} (hf : FstB w p (.slice none 0 0) 0) (hS : Sts w v S) (_hv : v = .slice ad k c) (hW : W = (w.setCell ⟨p, 0, none⟩ v).setCell ⟨p, 1, none⟩ (.int .u64 (init : Int))) :
    FstB W p v init ∧ Sts W v S ∧ Kp (fun g => g = p) w W := by
  have hk := (kp_set w p 0 v).trans (kp_set _ p 1 (.int .u64 (init : Int))) (fun g e => .inl e)
  rw [← hW] at hk
  refine ⟨by rw [hW]; exact (hf.set0 v).set1 init, hS.set hf rfl hk, hk⟩

set_option maxHeartbeats 4000000 in
set_option maxRecDepth 100000 in
theorem formed_any {w : World} {v : Value} {l : List DSt} {init : Nat} (h : StsC w v l) :
    Calls Tryd.prog 10 #[.agg #[v, .int .u64 (init : Int)]] w fun e w' => ∃ ad c, e = .returned (.agg #[.slice ad (formedT l).length c, .int .u64 (init : Int)]) ∧ Sts w' (.slice ad (formedT l).length c) (formedT l) ∧ Below w.heap.size w w' := by
  have hst := h
  obtain ⟨ad, c, rfl, hc⟩ := h
  obtain ⟨n, hn⟩ : ∃ n, l.length = n := ⟨_, rfl⟩
  rw [hn] at hst hc ⊢
  obtain ⟨w0, hw0⟩ : ∃ w0, w0 = (w.alloc (.cells #[.slice ad n c, .int .u64 (init : Int)] 25)).alloc (.cells #[.slice none 0 0, .int .u64 0] 25) := ⟨_, rfl⟩
  have hb0 : Below w.heap.size w w0 := by rw [hw0]; exact (below_alloc w _).alloc (by simp) _
  have f0 : FstB w0 w.heap.size (.slice ad n c) init := by rw [hw0]; exact (alloc_old _ _ (by simp)).trans (heap_alloc_new w _)
  have f1 : FstB w0 (w.heap.size + 1) (.slice none 0 0) 0 := by rw [hw0]; exact alloc_at _ _ (by simp)
  have Q := Lib.hid (few_any (init := init) (hst.below hb0))
  have H0 := Lib.hid (And.intro hb0 (And.intro f0 f1))
  have z0 := f0.at0
  have z1 := f0.at1
  clear hc hst hb0 f0 f1
  go_enter Tryd.func10, Tryd.ntmps10
  go_upto_region 1 with fail
  rw [← hw0]
  clear hw0
  go_wp2_with (go_at_call 9
               (with_reducible refine Q.out.mono ?_)
               go_loud (
               rintro e' w1 ⟨a1, c1, ys, rfl, hr1, hm1, hb1⟩
               have f0 := FstB.kp H0.out.2.1 (Kp.below (M := fun _ => False) hb1) (fun h => h)
               have x0 := f0.at0
               have x1 := f0.at1
               have x2 := f0.free 0
               have x3 := f0.free 1
               have H1 := Lib.hid (And.intro hr1 (And.intro hm1 (And.intro hb1 (And.intro f0 (FstB.kp H0.out.2.2 (Kp.below (M := fun _ => False) hb1) (fun h => h))))))
               clear hr1 hm1 hb1 f0))
  obtain ⟨w1s, hw1s⟩ : ∃ w1s, w1s = (w1.setCell ⟨w.heap.size, 0, none⟩ (.slice a1 ys.length c1)).setCell ⟨w.heap.size, 1, none⟩ (.int .u64 (init : Int)) := ⟨_, rfl⟩
  have hsz : w1s.heap.size = w1.heap.size := by rw [hw1s]; simp [World.setCell]
  have hkk := (kp_set w1 w.heap.size 0 (.slice a1 ys.length c1)).trans (kp_set _ w.heap.size 1 (.int .u64 (init : Int))) (fun g e => .inl e)
  have hf1 := (H1.out.2.2.2.1.set0 (.slice a1 ys.length c1)).set1 init
  rw [← hw1s] at hkk hf1 ⊢
  rw [← hsz]
  have hsts : Sts w1s (.slice a1 ys.length c1) (fewT l) := by
    have := H1.out.1.sts
    rw [H1.out.2.1] at this
    exact this.set H1.out.2.2.2.1 rfl hkk
  have hyl : (fewT l).length = ys.length := by rw [← H1.out.2.1]; simp
  obtain ⟨F, hF⟩ : ∃ F, F = fewT l := ⟨_, rfl⟩
  have hform : formedT l = if n = 0 then [⟨[], false, 0⟩] else formSs 0 F := by
    unfold formedT
    rw [hF, ← hn]
    cases l <;> simp
  rw [← hF] at hsts hyl
  have hF12 : F.length ≤ 12 ∧ (F.length = 0 ↔ n = 0) := by rw [hF, fewT_length, hn]; omega
  have hF6 : ∀ s ∈ F, s.arcs.length ≤ 6 := by rw [hF]; exact fewT_arcs l
  obtain ⟨m, hm⟩ : ∃ m, ys.length = m := ⟨_, rfl⟩
  rw [hm] at hsts hyl hf1 ⊢
  have hb0 : Below w.heap.size w w1s := ((Kp.below (M := fun g => w.heap.size ≤ g) (H0.out.1.trans (H1.out.2.2.1.mono H0.out.1.size))).trans hkk (fun g e => .inl (by omega))).to (Nat.le_refl _) fun g e => e
  have hf2 : FstB w1s (w.heap.size + 1) (.slice none 0 0) 0 := H1.out.2.2.2.2.kp hkk (by omega)
  have hlt1 := hf2.lt
  have HG := Lib.hid (And.intro hsts (And.intro hyl (And.intro hform (And.intro hF12 (And.intro hF6 (And.intro hb0 (And.intro hf1 hf2)))))))
  have hm12 : m ≤ 12 := by omega
  clear hsts hyl hform hF12 hF6 hb0 hf1 hf2 hw1s hsz hkk hm hF hn z0 z1 x0 x1 x2 x3
  go_wp2
  go_loopw [4] (fun s4 wr => ∃ (k : Nat) (xs : List (Value × DSt)) (ar : Option Addr) (cr : Nat), k ≤ m ∧ s4 = .int .i64 k ∧ Hid (xs.length = k ∧ RowsI wr w1s.heap.size (.slice ar k cr) xs ∧ xs.map (·.2) = formSs 0 (F.take k)) ∧ Hid (FstB wr w1s.heap.size (.slice ar k cr) init ∧ w1s.heap.size < wr.heap.size) ∧ Hid (Below w1s.heap.size w1s wr)) (fun s4 _ => m - (intOf s4).toNat)
  case atStart => exact ⟨0, [], none, 0, Nat.zero_le _, rfl, Lib.hid ⟨rfl, ⟨World.ownsRow_nil _ _ 64 3, List.forall_mem_nil _⟩, rfl⟩, Lib.hid ⟨alloc_at _ _ rfl, by simp⟩, Lib.hid (below_alloc _ _)⟩
  case round =>
    obtain ⟨k, xs, ar, cr, hk, rfl, HR, HF, HB⟩ := hrel
    by_cases hlt : k < m
    · obtain ⟨ad', c', e, hc⟩ := HG.out.1.below HB.out
      injection e with i1 i2 i3
      obtain ⟨b, o, had, u, h1, h2, h3, e1, q1, rfl, h4⟩ := hc k (by rw [HG.out.2.1]; exact hlt)
      have ha1 := i1.trans had
      subst ha1
      clear hc i1 i2 i3 had
      have hmem : stAt F k = F[k]'(by rw [HG.out.2.1]; exact hlt) := stAt_lt _
      obtain ⟨y, hy⟩ : ∃ y, stAt F k = y := ⟨_, rfl⟩
      rw [hy] at h1 h2 h3 h4 hmem
      obtain ⟨na, hna⟩ : ∃ na, y.arcs.length = na := ⟨_, rfl⟩
      obtain ⟨f, hf⟩ : ∃ f, y.fin = f := ⟨_, rfl⟩
      have hna6 : na ≤ 6 := by rw [← hna]; exact HG.out.2.2.2.2.1 y (by rw [hmem]; exact List.getElem_mem _)
      rw [hna] at h1
      rw [hf] at h2
      have d1 : decide ((k : Int) < (m : Int)) = true := by simp; omega
      have il : (k : Int) < (m : Int) := by omega
      have f0 := FstB.kp HG.out.2.2.2.2.2.2.1 (Kp.below (M := fun _ => False) HB.out) (fun h => h)
      have c0 := f0.at0
      have cc0 := fun ob => FstB.at0 (f0.kp (Kp.below (M := fun _ => False) (below_alloc wr ob)) (fun h => h))
      have hh1 := fun ob => (cell_same (p := ⟨b, o + k * 3, none⟩) (alloc_old wr ob (block_lt_of_cell h1))).trans h1
      have hh3 := fun ob => (cell_same (p := ⟨b, o + k * 3 + 2, none⟩) (alloc_old wr ob (block_lt_of_cell h3))).trans h3
      have HY := Lib.hid (And.intro hmem (And.intro hna (And.intro hf (And.intro h4 (And.intro f0 (And.intro h1 (And.intro h2 h3)))))))
      have HLE := Lib.hid HB.out.size
      clear h3 h4 hmem hy hna hf f0
      cases f
      · go_wp2
        obtain ⟨wo, hwo⟩ : ∃ wo, wo = wr := ⟨_, rfl⟩
        subst hwo
        obtain ⟨O, hO⟩ : ∃ O : Nat, O = 0 := ⟨_, rfl⟩
        obtain ⟨W2, hW2⟩ : ∃ W2, W2 = wo.alloc (.cells #[.slice none 0 0, .bool false, .int .u64 (0 : Int)] 64) := ⟨_, rfl⟩
        have hs2 : StB W2 wo.heap.size (.slice none 0 0) false O := by rw [hW2, hO]; exact alloc_at _ _ rfl
        have hb2 : Below wo.heap.size wo W2 := by rw [hW2]; exact below_alloc _ _
        have hl2 : wo.heap.size < W2.heap.size := by rw [hW2]; simp
        rw [← hW2]
        have HO := Lib.hid hO
        have H2 := Lib.hid (And.intro hs2 (And.intro hb2 hl2))
        clear hW2 hO hs2 hb2 hl2 hh1 hh3 cc0
        go_loopw [6] (fun s6 W => ∃ (j : Nat) (zs : List DArc) (av : Option Addr) (cv : Nat), j ≤ na ∧ (k = 0 → j = 0) ∧ s6 = .int .i64 j ∧ Hid (zs.length = j ∧ zs = (y.arcs.take j).map (formA k)) ∧ Hid (ARow W wo.heap.size (.slice av j cv) zs ∧ StB W wo.heap.size (.slice av j cv) false O) ∧ Hid (Below wo.heap.size wo W)) (fun s6 _ => na - (intOf s6).toNat)
        case atStart => exact ⟨0, [], none, 0, Nat.zero_le _, fun _ => rfl, rfl, Lib.hid ⟨rfl, rfl⟩, Lib.hid ⟨World.ownsRow_nil _ _ 66 3, H2.out.1⟩, Lib.hid H2.out.2.1⟩
        case round =>
          obtain ⟨j, zs, av, cv, hj, hkj, rfl, JZ, JS, JB⟩ := hrel
          have g0 := FstB.kp HY.out.2.2.2.2.1 (Kp.below (M := fun _ => False) JB.out) (fun h => h)
          have c1' := g0.at0
          have hbb := block_lt_of_cell h1
          have g1 := (cell_same (p := ⟨b, o + k * 3, none⟩) (JB.out.block b hbb)).trans HY.out.2.2.2.2.2.1
          by_cases hlj : j < na ∧ 0 < k
          · obtain ⟨hj1, hk1⟩ := hlj
            obtain ⟨b', o', e', hE⟩ := HY.out.2.2.2.1 j (by rw [HY.out.2.1]; exact hj1)
            subst e'
            obtain ⟨x, hx⟩ : ∃ x, arcAt y.arcs j = x := ⟨_, rfl⟩
            rw [hx] at hE
            obtain ⟨g2, g3, g4⟩ := hE.kept (JB.out.block b' hE.lt)
            obtain ⟨r, hr⟩ : ∃ r : Nat, x.to % 4294967296 = (r : Int) := ⟨(x.to % 4294967296).toNat, by omega⟩
            obtain ⟨q, hq⟩ : ∃ q : Nat, r % k = q := ⟨_, rfl⟩
            have hrem : x.to % 4294967296 % (k : Int) = (q : Int) := by rw [hr, ← hq]; rfl
            have hk0 : ¬ ((k : Int) = 0) := by omega
            have i2 : (j : Int) < (na : Int) := by omega
            have d2 : decide ((j : Int) < (na : Int)) = true := by simp; omega
            have d22 : decide (j < na) = true := by simp; omega
            have d33 : decide (0 < k) = true := by simp; omega
            have d3 : decide ((0 : Int) < (k : Int)) = true := by simp; omega
            have HX := Lib.hid (And.intro hx (And.intro hr (And.intro hq hkj)))
            have y0 := fun ob => StB.at0 (JS.out.2.kp (Kp.below (M := fun _ => False) (below_alloc wr ob)) (fun h => h))
            obtain ⟨ob, hob⟩ : ∃ ob, ob = Obj.cells #[.int .u8 (x.b : Int), .int .u64 (x.out : Int), .int .i64 (q : Int)] 66 (0, 0) := ⟨_, rfl⟩
            have HA : ARow (wr.alloc ob) wo.heap.size (.slice av j cv) zs := owns_same JS.out.1 fun g hg => alloc_old _ _ (JS.out.1.lt g hg).2
            have HBB : StB (wr.alloc ob) wo.heap.size (.slice av j cv) false O := JS.out.2.kp (Kp.below (M := fun _ => False) (below_alloc wr ob)) (fun h => h)
            have HA' := HA
            unfold ARow at HA'
            rw [JZ.out.1] at HA'
            have HW := Lib.hid (And.intro (show ((wr.alloc ob).alloc ob).heap[wr.heap.size + 1]? = some ob from alloc_at _ _ (by simp)) (And.intro HA' (And.intro (show j ≤ 100000 by omega) (And.intro (show wo.heap.size ≤ (wr.alloc ob).heap.size by have := JB.out.size; simp; omega)
              (And.intro (show ∀ u ∈ [Value.int .u8 (x.b : Int), .int .u64 (x.out : Int), .int .i64 (q : Int)], u.oneCell' = true by intro u hu; simp at hu; rcases hu with rfl | rfl | rfl <;> rfl) (And.intro (st_apart HBB HA) (And.intro HBB.at0 (And.intro (HBB.free 0) HBB.lt))))))))
            have HNX := Lib.hid (And.intro HBB HA)
            rw [hob] at HW HNX
            clear hx hE hkj HA HBB HA' hob hr hq
            go_wp2_with (at_builtin
                         go_loud (refine wpList_append_row (w2 := wr.alloc (.cells #[.int .u8 (x.b : Int), .int .u64 (x.out : Int), .int .i64 (q : Int)] 66)) (vs := .slice av j cv) rfl (.tmp 68) (.tmp 70) rfl rfl Tryd.underlying62 iArc rfl (by decide) wo.heap.size wo.heap.size 0 (.slice av j cv) j (arcsC zs) [.int .u8 (x.b : Int), .int .u64 (x.out : Int), .int .i64 (q : Int)] (wr.heap.size + 1) rfl rfl HW.out.1 (below_alloc _ _) HW.out.2.1 HW.out.2.2.1 HW.out.2.2.2.1 rfl HW.out.2.2.2.2.1 HW.out.2.2.2.2.2.1 HW.out.2.2.2.2.2.2.1 HW.out.2.2.2.2.2.2.2.1 HW.out.2.2.2.2.2.2.2.2 ?_)
                         intro a5 n5 c5 w5 hA5 r1 r2
                         have HA5 := Lib.hid hA5
                         clear hA5 y0)
            obtain ⟨n1, n2, n3⟩ := arow_next (y := ⟨x.b, x.out, (q : Int)⟩) (v5 := .slice a5 n5 c5) HNX.out.1 HNX.out.2 (by rw [JZ.out.1]; exact HA5.out)
            obtain ⟨ar', cr', e⟩ := n2.form'
            injection e with i1 i2 i3
            subst i1 i2 i3
            have hlen : (zs ++ [(⟨x.b, x.out, (q : Int)⟩ : DArc)]).length = j + 1 := by simp [JZ.out.1]
            rw [hlen] at n1 n2 n3 ⊢
            refine ⟨⟨j + 1, zs ++ [(⟨x.b, x.out, (q : Int)⟩ : DArc)], a5, c5, by omega, fun h => by omega, by go_num, Lib.hid ⟨hlen, ?_⟩, Lib.hid ⟨n2, n1⟩, Lib.hid (((Kp.below (M := fun g => wo.heap.size ≤ g) JB.out).trans (((Kp.below (M := fun _ => False) (below_alloc wr _)).mono (N := fun g => wo.heap.size ≤ g) (fun g h => absurd h (fun h => h))).trans n3 (fun g e => .inl ?_)) (fun g e => .inl e)).to (Nat.le_refl _) fun g e => e)⟩, by simp [intOf]; omega⟩
            · obtain ⟨x1, x2, x3, x4⟩ := HX.out
              have hjl : j < y.arcs.length := by rw [HY.out.2.1]; exact hj1
              rw [List.take_succ_eq_append_getElem hjl, List.map_append, ← JZ.out.2]
              congr 1
              rw [arcAt_lt hjl] at x1
              rw [x1]
              simp only [List.map_cons, List.map_nil, formA, x2, Int.toNat_natCast, x3]
            · rcases e with e | e
              · exact (JS.out.1.lt g e).1
              · omega
          · have hje : j = na ∨ k = 0 := by omega
            have i0 := FstB.kp HF.out.1 (Kp.below (M := fun _ => False) JB.out) (fun h => h)
            have r0 : RowsI wr w1s.heap.size (.slice ar k cr) xs := HR.out.2.1.kp (Kp.below (M := fun _ => False) JB.out) (fun _ _ _ _ _ h => h)
            have y0 := JS.out.2.at0
            have y1 := JS.out.2.at1
            have y2 := JS.out.2.at2
            have i1 := fun ob => FstB.at0 (i0.kp (Kp.below (M := fun _ => False) (below_alloc wr ob)) (fun h => h))
            have i11 := i0.at0
            have hr0 := r0.1
            unfold SRow at hr0
            rw [HR.out.1] at hr0
            have hya : ARow wr w1s.heap.size (.slice av j cv) zs := owns_base JS.out.1 HLE.out
            have HW := Lib.hid (And.intro (show (wr.alloc (.cells #[.slice av j cv, .bool false, .int .u64 (O : Int)] 64)).heap[wr.heap.size]? = some (.cells #[.slice av j cv, .bool false, .int .u64 (O : Int)] 64 (0, 0)) from heap_alloc_new wr _) (And.intro hr0 (And.intro (show k ≤ 100000 by omega) (And.intro (show w1s.heap.size ≤ wr.heap.size by have := JB.out.size; have := HLE.out; omega)
              (And.intro (show ∀ u ∈ [Value.slice av j cv, .bool false, .int .u64 (O : Int)], u.oneCell' = true by intro u hu; simp at hu; rcases hu with rfl | rfl | rfl <;> rfl) (And.intro (fst_apart i0 r0.1) (And.intro i0.at0 (And.intro (i0.free 0) i0.lt))))))))
            have HNX := Lib.hid (And.intro i0 (And.intro r0 hya))
            have HJE := Lib.hid (And.intro hje hkj)
            clear i0 r0 hr0 hya
            have hdd : decide ((j : Int) < (na : Int)) = false ∨ (decide ((j : Int) < (na : Int)) = true ∧ decide ((0 : Int) < (k : Int)) = false) := by
              rcases Nat.lt_or_ge j na with h | h
              · exact .inr ⟨by simp; omega, by simp; omega⟩
              · exact .inl (by simp; omega)
            have hend : Hid (∀ a5 n5 c5 w5, Appd wr w1s.heap.size 64 (.slice ar k cr) (k + 1) (stsC xs ++ [.slice av j cv, .bool false, .int .u64 (O : Int)]) w1s.heap.size 0 (.slice ar k cr) (.slice a5 n5 c5) w5 →
                n5 = k + 1 ∧ (xs ++ [((.slice av j cv, ⟨zs, false, O⟩) : Value × DSt)]).length = k + 1 ∧ RowsI (w5.setCell ⟨w1s.heap.size, 0, none⟩ (.slice a5 (k + 1) c5)) w1s.heap.size (.slice a5 (k + 1) c5) (xs ++ [((.slice av j cv, ⟨zs, false, O⟩) : Value × DSt)]) ∧ (xs ++ [((.slice av j cv, ⟨zs, false, O⟩) : Value × DSt)]).map (·.2) = formSs 0 (F.take (k + 1)) ∧
                FstB (w5.setCell ⟨w1s.heap.size, 0, none⟩ (.slice a5 (k + 1) c5)) w1s.heap.size (.slice a5 (k + 1) c5) init ∧ w1s.heap.size < (w5.setCell ⟨w1s.heap.size, 0, none⟩ (.slice a5 (k + 1) c5)).heap.size ∧ Below w1s.heap.size w1s (w5.setCell ⟨w1s.heap.size, 0, none⟩ (.slice a5 (k + 1) c5))) := Lib.hid fun a5 n5 c5 w5 hA => by
              obtain ⟨n1, n2, n3⟩ := rowsI_next (y := (.slice av j cv, ⟨zs, false, O⟩)) (v5 := .slice a5 n5 c5) HNX.out.1 HNX.out.2.1 HNX.out.2.2 (Nat.le_refl _) (by rw [HR.out.1]; exact hA)
              obtain ⟨ar', cr', e⟩ := n2.1.form
              injection e with i1 i2 i3
              subst i1 i2 i3
              have hlen : (xs ++ [((.slice av j cv, ⟨zs, false, O⟩) : Value × DSt)]).length = k + 1 := by simp [HR.out.1]
              rw [hlen] at n1 n2 n3 ⊢
              refine ⟨rfl, rfl, n2, ?_, n1, n1.lt, ((Kp.below (M := fun g => w1s.heap.size ≤ g) (HB.out.trans (JB.out.mono HLE.out))).trans n3 (fun g e => .inl ?_)).to (Nat.le_refl _) fun g e => e⟩
              · rw [List.map_append, HR.out.2.2, formSs_take (by rw [HG.out.2.1]; exact hlt), ← HY.out.1]
                congr 1
                have hyz : formS k y = ⟨zs, false, O⟩ := by
                  unfold formS
                  rw [HY.out.2.2.1, HO.out, JZ.out.2]
                  have hz : (if k = 0 then [] else y.arcs.map (formA k)) = (y.arcs.take j).map (formA k) := by
                    rcases HJE.out.1 with h | h
                    · split
                      · rename_i h0
                        rw [HJE.out.2 h0]; rfl
                      · rw [h, ← HY.out.2.1, List.take_length]
                    · rw [if_pos h, HJE.out.2 h]; rfl
                  rw [hz]
                  simp
                rw [hyz]
                rfl
              · rcases e with e | e
                · exact (HNX.out.2.1.1.lt g e).1
                · omega
            rcases hdd with d4 | ⟨d4, d5⟩
            · have d6 : decide (j < na) = false := by simp at d4 ⊢; omega
              go_wp2_with (at_builtin
                           go_loud (refine wpList_append_row (w2 := wr) (vs := .slice ar k cr) rfl (.tmp 74) (.tmp 76) rfl rfl Tryd.underlying22 iState rfl (by decide) w1s.heap.size w1s.heap.size 0 (.slice ar k cr) k (stsC xs) [.slice av j cv, .bool false, .int .u64 (O : Int)] wr.heap.size rfl rfl HW.out.1 (below_alloc _ _) HW.out.2.1 HW.out.2.2.1 HW.out.2.2.2.1 rfl HW.out.2.2.2.2.1 HW.out.2.2.2.2.2.1 HW.out.2.2.2.2.2.2.1 HW.out.2.2.2.2.2.2.2.1 HW.out.2.2.2.2.2.2.2.2 ?_)
                           intro a5 n5 c5 w5 hA5 r1 r2
                           obtain ⟨rfl, hz⟩ := hend.out _ _ _ _ hA5
                           have HZ := Lib.hid hz
                           clear hA5 hz i1 i11)
              exact ⟨⟨k + 1, _, a5, c5, by omega, by go_num, Lib.hid ⟨HZ.out.1, HZ.out.2.1, HZ.out.2.2.1⟩, Lib.hid ⟨HZ.out.2.2.2.1, HZ.out.2.2.2.2.1⟩, Lib.hid HZ.out.2.2.2.2.2⟩, by simp [intOf]; omega⟩
            · have d6 : decide (j < na) = true := by simp at d4 ⊢; omega
              have d7 : decide (0 < k) = false := by simp at d5 ⊢; omega
              go_wp2_with (at_builtin
                           go_loud (refine wpList_append_row (w2 := wr) (vs := .slice ar k cr) rfl (.tmp 74) (.tmp 76) rfl rfl Tryd.underlying22 iState rfl (by decide) w1s.heap.size w1s.heap.size 0 (.slice ar k cr) k (stsC xs) [.slice av j cv, .bool false, .int .u64 (O : Int)] wr.heap.size rfl rfl HW.out.1 (below_alloc _ _) HW.out.2.1 HW.out.2.2.1 HW.out.2.2.2.1 rfl HW.out.2.2.2.2.1 HW.out.2.2.2.2.2.1 HW.out.2.2.2.2.2.2.1 HW.out.2.2.2.2.2.2.2.1 HW.out.2.2.2.2.2.2.2.2 ?_)
                           intro a5 n5 c5 w5 hA5 r1 r2
                           obtain ⟨rfl, hz⟩ := hend.out _ _ _ _ hA5
                           have HZ := Lib.hid hz
                           clear hA5 hz i1 i11)
              exact ⟨⟨k + 1, _, a5, c5, by omega, by go_num, Lib.hid ⟨HZ.out.1, HZ.out.2.1, HZ.out.2.2.1⟩, Lib.hid ⟨HZ.out.2.2.2.1, HZ.out.2.2.2.2.1⟩, Lib.hid HZ.out.2.2.2.2.2⟩, by simp [intOf]; omega⟩
      · go_wp2
        obtain ⟨wo, hwo⟩ : ∃ wo, wo = wr := ⟨_, rfl⟩
        subst hwo
        obtain ⟨O, hO⟩ : ∃ O : Nat, O = y.out := ⟨_, rfl⟩
        obtain ⟨W2, hW2⟩ : ∃ W2, W2 = wo.alloc (.cells #[.slice none 0 0, .bool true, .int .u64 (y.out : Int)] 64) := ⟨_, rfl⟩
        have hs2 : StB W2 wo.heap.size (.slice none 0 0) true O := by rw [hW2, hO]; exact alloc_at _ _ rfl
        have hb2 : Below wo.heap.size wo W2 := by rw [hW2]; exact below_alloc _ _
        have hl2 : wo.heap.size < W2.heap.size := by rw [hW2]; simp
        rw [← hW2]
        have HO := Lib.hid hO
        have H2 := Lib.hid (And.intro hs2 (And.intro hb2 hl2))
        clear hW2 hO hs2 hb2 hl2 hh1 hh3 cc0
        go_loopw [6] (fun s6 W => ∃ (j : Nat) (zs : List DArc) (av : Option Addr) (cv : Nat), j ≤ na ∧ (k = 0 → j = 0) ∧ s6 = .int .i64 j ∧ Hid (zs.length = j ∧ zs = (y.arcs.take j).map (formA k)) ∧ Hid (ARow W wo.heap.size (.slice av j cv) zs ∧ StB W wo.heap.size (.slice av j cv) true O) ∧ Hid (Below wo.heap.size wo W)) (fun s6 _ => na - (intOf s6).toNat)
        case atStart => exact ⟨0, [], none, 0, Nat.zero_le _, fun _ => rfl, rfl, Lib.hid ⟨rfl, rfl⟩, Lib.hid ⟨World.ownsRow_nil _ _ 66 3, H2.out.1⟩, Lib.hid H2.out.2.1⟩
        case round =>
          obtain ⟨j, zs, av, cv, hj, hkj, rfl, JZ, JS, JB⟩ := hrel
          have g0 := FstB.kp HY.out.2.2.2.2.1 (Kp.below (M := fun _ => False) JB.out) (fun h => h)
          have c1' := g0.at0
          have hbb := block_lt_of_cell h1
          have g1 := (cell_same (p := ⟨b, o + k * 3, none⟩) (JB.out.block b hbb)).trans HY.out.2.2.2.2.2.1
          by_cases hlj : j < na ∧ 0 < k
          · obtain ⟨hj1, hk1⟩ := hlj
            obtain ⟨b', o', e', hE⟩ := HY.out.2.2.2.1 j (by rw [HY.out.2.1]; exact hj1)
            subst e'
            obtain ⟨x, hx⟩ : ∃ x, arcAt y.arcs j = x := ⟨_, rfl⟩
            rw [hx] at hE
            obtain ⟨g2, g3, g4⟩ := hE.kept (JB.out.block b' hE.lt)
            obtain ⟨r, hr⟩ : ∃ r : Nat, x.to % 4294967296 = (r : Int) := ⟨(x.to % 4294967296).toNat, by omega⟩
            obtain ⟨q, hq⟩ : ∃ q : Nat, r % k = q := ⟨_, rfl⟩
            have hrem : x.to % 4294967296 % (k : Int) = (q : Int) := by rw [hr, ← hq]; rfl
            have hk0 : ¬ ((k : Int) = 0) := by omega
            have i2 : (j : Int) < (na : Int) := by omega
            have d2 : decide ((j : Int) < (na : Int)) = true := by simp; omega
            have d22 : decide (j < na) = true := by simp; omega
            have d33 : decide (0 < k) = true := by simp; omega
            have d3 : decide ((0 : Int) < (k : Int)) = true := by simp; omega
            have HX := Lib.hid (And.intro hx (And.intro hr (And.intro hq hkj)))
            have y0 := fun ob => StB.at0 (JS.out.2.kp (Kp.below (M := fun _ => False) (below_alloc wr ob)) (fun h => h))
            obtain ⟨ob, hob⟩ : ∃ ob, ob = Obj.cells #[.int .u8 (x.b : Int), .int .u64 (x.out : Int), .int .i64 (q : Int)] 66 (0, 0) := ⟨_, rfl⟩
            have HA : ARow (wr.alloc ob) wo.heap.size (.slice av j cv) zs := owns_same JS.out.1 fun g hg => alloc_old _ _ (JS.out.1.lt g hg).2
            have HBB : StB (wr.alloc ob) wo.heap.size (.slice av j cv) true O := JS.out.2.kp (Kp.below (M := fun _ => False) (below_alloc wr ob)) (fun h => h)
            have HA' := HA
            unfold ARow at HA'
            rw [JZ.out.1] at HA'
            have HW := Lib.hid (And.intro (show ((wr.alloc ob).alloc ob).heap[wr.heap.size + 1]? = some ob from alloc_at _ _ (by simp)) (And.intro HA' (And.intro (show j ≤ 100000 by omega) (And.intro (show wo.heap.size ≤ (wr.alloc ob).heap.size by have := JB.out.size; simp; omega)
              (And.intro (show ∀ u ∈ [Value.int .u8 (x.b : Int), .int .u64 (x.out : Int), .int .i64 (q : Int)], u.oneCell' = true by intro u hu; simp at hu; rcases hu with rfl | rfl | rfl <;> rfl) (And.intro (st_apart HBB HA) (And.intro HBB.at0 (And.intro (HBB.free 0) HBB.lt))))))))
            have HNX := Lib.hid (And.intro HBB HA)
            rw [hob] at HW HNX
            clear hx hE hkj HA HBB HA' hob hr hq
            go_wp2_with (at_builtin
                         go_loud (refine wpList_append_row (w2 := wr.alloc (.cells #[.int .u8 (x.b : Int), .int .u64 (x.out : Int), .int .i64 (q : Int)] 66)) (vs := .slice av j cv) rfl (.tmp 68) (.tmp 70) rfl rfl Tryd.underlying62 iArc rfl (by decide) wo.heap.size wo.heap.size 0 (.slice av j cv) j (arcsC zs) [.int .u8 (x.b : Int), .int .u64 (x.out : Int), .int .i64 (q : Int)] (wr.heap.size + 1) rfl rfl HW.out.1 (below_alloc _ _) HW.out.2.1 HW.out.2.2.1 HW.out.2.2.2.1 rfl HW.out.2.2.2.2.1 HW.out.2.2.2.2.2.1 HW.out.2.2.2.2.2.2.1 HW.out.2.2.2.2.2.2.2.1 HW.out.2.2.2.2.2.2.2.2 ?_)
                         intro a5 n5 c5 w5 hA5 r1 r2
                         have HA5 := Lib.hid hA5
                         clear hA5 y0)
            obtain ⟨n1, n2, n3⟩ := arow_next (y := ⟨x.b, x.out, (q : Int)⟩) (v5 := .slice a5 n5 c5) HNX.out.1 HNX.out.2 (by rw [JZ.out.1]; exact HA5.out)
            obtain ⟨ar', cr', e⟩ := n2.form'
            injection e with i1 i2 i3
            subst i1 i2 i3
            have hlen : (zs ++ [(⟨x.b, x.out, (q : Int)⟩ : DArc)]).length = j + 1 := by simp [JZ.out.1]
            rw [hlen] at n1 n2 n3 ⊢
            refine ⟨⟨j + 1, zs ++ [(⟨x.b, x.out, (q : Int)⟩ : DArc)], a5, c5, by omega, fun h => by omega, by go_num, Lib.hid ⟨hlen, ?_⟩, Lib.hid ⟨n2, n1⟩, Lib.hid (((Kp.below (M := fun g => wo.heap.size ≤ g) JB.out).trans (((Kp.below (M := fun _ => False) (below_alloc wr _)).mono (N := fun g => wo.heap.size ≤ g) (fun g h => absurd h (fun h => h))).trans n3 (fun g e => .inl ?_)) (fun g e => .inl e)).to (Nat.le_refl _) fun g e => e)⟩, by simp [intOf]; omega⟩
            · obtain ⟨x1, x2, x3, x4⟩ := HX.out
              have hjl : j < y.arcs.length := by rw [HY.out.2.1]; exact hj1
              rw [List.take_succ_eq_append_getElem hjl, List.map_append, ← JZ.out.2]
              congr 1
              rw [arcAt_lt hjl] at x1
              rw [x1]
              simp only [List.map_cons, List.map_nil, formA, x2, Int.toNat_natCast, x3]
            · rcases e with e | e
              · exact (JS.out.1.lt g e).1
              · omega
          · have hje : j = na ∨ k = 0 := by omega
            have i0 := FstB.kp HF.out.1 (Kp.below (M := fun _ => False) JB.out) (fun h => h)
            have r0 : RowsI wr w1s.heap.size (.slice ar k cr) xs := HR.out.2.1.kp (Kp.below (M := fun _ => False) JB.out) (fun _ _ _ _ _ h => h)
            have y0 := JS.out.2.at0
            have y1 := JS.out.2.at1
            have y2 := JS.out.2.at2
            have i1 := fun ob => FstB.at0 (i0.kp (Kp.below (M := fun _ => False) (below_alloc wr ob)) (fun h => h))
            have i11 := i0.at0
            have hr0 := r0.1
            unfold SRow at hr0
            rw [HR.out.1] at hr0
            have hya : ARow wr w1s.heap.size (.slice av j cv) zs := owns_base JS.out.1 HLE.out
            have HW := Lib.hid (And.intro (show (wr.alloc (.cells #[.slice av j cv, .bool true, .int .u64 (O : Int)] 64)).heap[wr.heap.size]? = some (.cells #[.slice av j cv, .bool true, .int .u64 (O : Int)] 64 (0, 0)) from heap_alloc_new wr _) (And.intro hr0 (And.intro (show k ≤ 100000 by omega) (And.intro (show w1s.heap.size ≤ wr.heap.size by have := JB.out.size; have := HLE.out; omega)
              (And.intro (show ∀ u ∈ [Value.slice av j cv, .bool true, .int .u64 (O : Int)], u.oneCell' = true by intro u hu; simp at hu; rcases hu with rfl | rfl | rfl <;> rfl) (And.intro (fst_apart i0 r0.1) (And.intro i0.at0 (And.intro (i0.free 0) i0.lt))))))))
            have HNX := Lib.hid (And.intro i0 (And.intro r0 hya))
            have HJE := Lib.hid (And.intro hje hkj)
            clear i0 r0 hr0 hya
            have hdd : decide ((j : Int) < (na : Int)) = false ∨ (decide ((j : Int) < (na : Int)) = true ∧ decide ((0 : Int) < (k : Int)) = false) := by
              rcases Nat.lt_or_ge j na with h | h
              · exact .inr ⟨by simp; omega, by simp; omega⟩
              · exact .inl (by simp; omega)
            have hend : Hid (∀ a5 n5 c5 w5, Appd wr w1s.heap.size 64 (.slice ar k cr) (k + 1) (stsC xs ++ [.slice av j cv, .bool true, .int .u64 (O : Int)]) w1s.heap.size 0 (.slice ar k cr) (.slice a5 n5 c5) w5 →
                n5 = k + 1 ∧ (xs ++ [((.slice av j cv, ⟨zs, true, O⟩) : Value × DSt)]).length = k + 1 ∧ RowsI (w5.setCell ⟨w1s.heap.size, 0, none⟩ (.slice a5 (k + 1) c5)) w1s.heap.size (.slice a5 (k + 1) c5) (xs ++ [((.slice av j cv, ⟨zs, true, O⟩) : Value × DSt)]) ∧ (xs ++ [((.slice av j cv, ⟨zs, true, O⟩) : Value × DSt)]).map (·.2) = formSs 0 (F.take (k + 1)) ∧
                FstB (w5.setCell ⟨w1s.heap.size, 0, none⟩ (.slice a5 (k + 1) c5)) w1s.heap.size (.slice a5 (k + 1) c5) init ∧ w1s.heap.size < (w5.setCell ⟨w1s.heap.size, 0, none⟩ (.slice a5 (k + 1) c5)).heap.size ∧ Below w1s.heap.size w1s (w5.setCell ⟨w1s.heap.size, 0, none⟩ (.slice a5 (k + 1) c5))) := Lib.hid fun a5 n5 c5 w5 hA => by
              obtain ⟨n1, n2, n3⟩ := rowsI_next (y := (.slice av j cv, ⟨zs, true, O⟩)) (v5 := .slice a5 n5 c5) HNX.out.1 HNX.out.2.1 HNX.out.2.2 (Nat.le_refl _) (by rw [HR.out.1]; exact hA)
              obtain ⟨ar', cr', e⟩ := n2.1.form
              injection e with i1 i2 i3
              subst i1 i2 i3
              have hlen : (xs ++ [((.slice av j cv, ⟨zs, true, O⟩) : Value × DSt)]).length = k + 1 := by simp [HR.out.1]
              rw [hlen] at n1 n2 n3 ⊢
              refine ⟨rfl, rfl, n2, ?_, n1, n1.lt, ((Kp.below (M := fun g => w1s.heap.size ≤ g) (HB.out.trans (JB.out.mono HLE.out))).trans n3 (fun g e => .inl ?_)).to (Nat.le_refl _) fun g e => e⟩
              · rw [List.map_append, HR.out.2.2, formSs_take (by rw [HG.out.2.1]; exact hlt), ← HY.out.1]
                congr 1
                have hyz : formS k y = ⟨zs, true, O⟩ := by
                  unfold formS
                  rw [HY.out.2.2.1, HO.out, JZ.out.2]
                  have hz : (if k = 0 then [] else y.arcs.map (formA k)) = (y.arcs.take j).map (formA k) := by
                    rcases HJE.out.1 with h | h
                    · split
                      · rename_i h0
                        rw [HJE.out.2 h0]; rfl
                      · rw [h, ← HY.out.2.1, List.take_length]
                    · rw [if_pos h, HJE.out.2 h]; rfl
                  rw [hz]
                  simp
                rw [hyz]
                rfl
              · rcases e with e | e
                · exact (HNX.out.2.1.1.lt g e).1
                · omega
            rcases hdd with d4 | ⟨d4, d5⟩
            · have d6 : decide (j < na) = false := by simp at d4 ⊢; omega
              go_wp2_with (at_builtin
                           go_loud (refine wpList_append_row (w2 := wr) (vs := .slice ar k cr) rfl (.tmp 74) (.tmp 76) rfl rfl Tryd.underlying22 iState rfl (by decide) w1s.heap.size w1s.heap.size 0 (.slice ar k cr) k (stsC xs) [.slice av j cv, .bool true, .int .u64 (O : Int)] wr.heap.size rfl rfl HW.out.1 (below_alloc _ _) HW.out.2.1 HW.out.2.2.1 HW.out.2.2.2.1 rfl HW.out.2.2.2.2.1 HW.out.2.2.2.2.2.1 HW.out.2.2.2.2.2.2.1 HW.out.2.2.2.2.2.2.2.1 HW.out.2.2.2.2.2.2.2.2 ?_)
                           intro a5 n5 c5 w5 hA5 r1 r2
                           obtain ⟨rfl, hz⟩ := hend.out _ _ _ _ hA5
                           have HZ := Lib.hid hz
                           clear hA5 hz i1 i11)
              exact ⟨⟨k + 1, _, a5, c5, by omega, by go_num, Lib.hid ⟨HZ.out.1, HZ.out.2.1, HZ.out.2.2.1⟩, Lib.hid ⟨HZ.out.2.2.2.1, HZ.out.2.2.2.2.1⟩, Lib.hid HZ.out.2.2.2.2.2⟩, by simp [intOf]; omega⟩
            · have d6 : decide (j < na) = true := by simp at d4 ⊢; omega
              have d7 : decide (0 < k) = false := by simp at d5 ⊢; omega
              go_wp2_with (at_builtin
                           go_loud (refine wpList_append_row (w2 := wr) (vs := .slice ar k cr) rfl (.tmp 74) (.tmp 76) rfl rfl Tryd.underlying22 iState rfl (by decide) w1s.heap.size w1s.heap.size 0 (.slice ar k cr) k (stsC xs) [.slice av j cv, .bool true, .int .u64 (O : Int)] wr.heap.size rfl rfl HW.out.1 (below_alloc _ _) HW.out.2.1 HW.out.2.2.1 HW.out.2.2.2.1 rfl HW.out.2.2.2.2.1 HW.out.2.2.2.2.2.1 HW.out.2.2.2.2.2.2.1 HW.out.2.2.2.2.2.2.2.1 HW.out.2.2.2.2.2.2.2.2 ?_)
                           intro a5 n5 c5 w5 hA5 r1 r2
                           obtain ⟨rfl, hz⟩ := hend.out _ _ _ _ hA5
                           have HZ := Lib.hid hz
                           clear hA5 hz i1 i11)
              exact ⟨⟨k + 1, _, a5, c5, by omega, by go_num, Lib.hid ⟨HZ.out.1, HZ.out.2.1, HZ.out.2.2.1⟩, Lib.hid ⟨HZ.out.2.2.2.1, HZ.out.2.2.2.2.1⟩, Lib.hid HZ.out.2.2.2.2.2⟩, by simp [intOf]; omega⟩
    · have hkm : k = m := by omega
      subst hkm
      have f0 := FstB.kp HG.out.2.2.2.2.2.2.1 (Kp.below (M := fun _ => False) HB.out) (fun h => h)
      have f1 := FstB.kp HG.out.2.2.2.2.2.2.2 (Kp.below (M := fun _ => False) HB.out) (fun h => h)
      have d1 : decide (k < k) = false := by simp
      have c0 := f0.at0
      have c1' := HF.out.1.at0
      have c2 := HF.out.1.at1
      have z0 := HF.out.1.free 0
      have y0 := f1.at0
      have y1 := f1.at1
      have y2 := f1.free 0
      have y3 := f1.free 1
      have HFS := Lib.hid (And.intro f0 f1)
      have HLE := Lib.hid HB.out.size
      have HS1 := Lib.hid HR.out.2.1.sts
      have hne1 : ¬ w1s.heap.size = w.heap.size + 1 := by omega
      clear f0 f1 hlt
      by_cases hk0 : k = 0
      · subst hk0
        have i1 := fun ob => FstB.at0 (HF.out.1.kp (Kp.below (M := fun _ => False) (below_alloc wr ob)) (fun h => h))
        have i2 := fun ob => FstB.at1 (HF.out.1.kp (Kp.below (M := fun _ => False) (below_alloc wr ob)) (fun h => h))
        have i3 := fun ob o => FstB.free (HF.out.1.kp (Kp.below (M := fun _ => False) (below_alloc wr ob)) (fun h => h)) o
        have i4 := fun ob => FstB.at0 (HFS.out.2.kp (Kp.below (M := fun _ => False) (below_alloc wr ob)) (fun h => h))
        have i5 := fun ob => FstB.at1 (HFS.out.2.kp (Kp.below (M := fun _ => False) (below_alloc wr ob)) (fun h => h))
        have i6 := fun ob o => FstB.free (HFS.out.2.kp (Kp.below (M := fun _ => False) (below_alloc wr ob)) (fun h => h)) o
        go_wp2
        have hn0 : n = 0 := HG.out.2.2.2.1.2.1 HG.out.2.1
        have hform : formedT l = [⟨[], false, 0⟩] := by rw [HG.out.2.2.1, if_pos hn0]
        have hft := HF.out.1.kp (Kp.below (M := fun _ => False) (below_alloc wr (.cells #[.slice none 0 0, .bool false, .int .u64 0] 64))) (fun h => h)
        have hfr := HFS.out.2.kp (Kp.below (M := fun _ => False) (below_alloc wr (.cells #[.slice none 0 0, .bool false, .int .u64 0] 64))) (fun h => h)
        have hs0 : Sts (wr.alloc (.cells #[.slice none 0 0, .bool false, .int .u64 0] 64)) (.slice (some ⟨wr.heap.size, 0, none⟩) 1 1) [⟨[], false, 0⟩] := sts_lit [(_, ⟨[], false, 0⟩)] (by simp) rfl (List.forall_mem_cons.2 ⟨arcs_nil _, List.forall_mem_nil _⟩)
        have hkq := kp_set (wr.alloc (.cells #[.slice none 0 0, .bool false, .int .u64 0] 64)) w1s.heap.size 0 (.slice (some ⟨wr.heap.size, 0, none⟩) 1 1)
        have hs1 := hs0.set hft rfl hkq
        have hfr1 := hfr.kp hkq (by omega)
        obtain ⟨W, hW⟩ : ∃ W, W = (((wr.alloc (.cells #[.slice none 0 0, .bool false, .int .u64 0] 64)).setCell ⟨w1s.heap.size, 0, none⟩ (.slice (some ⟨wr.heap.size, 0, none⟩) 1 1)).setCell ⟨w.heap.size + 1, 0, none⟩ (.slice (some ⟨wr.heap.size, 0, none⟩) 1 1)).setCell ⟨w.heap.size + 1, 1, none⟩ (.int .u64 (init : Int)) := ⟨_, rfl⟩
        obtain ⟨o1, o2, o3⟩ := fst_out hfr1 hs1 rfl hW
        rw [← hW]
        clear hW hfr1 hs1 hs0 i1 i2 i3 i4 i5 i6
        have q1 := o1.at0
        have q2 := o1.at1
        rw [hform]
        simp [bodyPost, results, Tryd.results10, go_sem, q1, q2]
        refine ⟨_, 1, ⟨rfl, rfl⟩, o2, ?_⟩
        have hbw : Below w.heap.size w wr := HG.out.2.2.2.2.2.1.trans (HB.out.mono HG.out.2.2.2.2.2.1.size)
        exact ((((Kp.below (M := fun g => w.heap.size ≤ g) hbw).trans (Kp.below (M := fun g => w.heap.size ≤ g) (below_alloc wr _)) (fun g e => .inl e)).trans hkq (fun g e => .inl (by have := HG.out.2.2.2.2.2.1.size; omega))).trans o3 (fun g e => .inl (by omega))).to (Nat.le_refl _) fun g e => e
      · have d2 : ((k : Int) == 0) = false := by rw [beq_eq_false_iff_ne]; omega
        go_wp2
        have hFk : F.length = k := HG.out.2.1
        have hn0 : ¬ n = 0 := fun h => hk0 (by rw [← hFk]; exact HG.out.2.2.2.1.2.2 h)
        have hform : formedT l = formSs 0 F := by rw [HG.out.2.2.1, if_neg hn0]
        have hsx : Sts wr (.slice ar k cr) (formSs 0 F) := by
          have := HS1.out
          rwa [HR.out.2.2, ← hFk, List.take_length, hFk] at this
        obtain ⟨W, hW⟩ : ∃ W, W = (wr.setCell ⟨w.heap.size + 1, 0, none⟩ (.slice ar k cr)).setCell ⟨w.heap.size + 1, 1, none⟩ (.int .u64 (init : Int)) := ⟨_, rfl⟩
        obtain ⟨o1, o2, o3⟩ := fst_out HFS.out.2 hsx rfl hW
        rw [← hW]
        clear hW hsx
        have q1 := o1.at0
        have q2 := o1.at1
        have hlF : (formSs 0 F).length = k := by rw [formSs_length, hFk]
        rw [hform]
        simp [bodyPost, results, Tryd.results10, go_sem, q1, q2]
        refine ⟨ar, cr, ⟨rfl, hlF.symm, rfl⟩, by rw [hlF]; exact o2, ?_⟩
        have hbw : Below w.heap.size w wr := HG.out.2.2.2.2.2.1.trans (HB.out.mono HG.out.2.2.2.2.2.1.size)
        exact ((Kp.below (M := fun g => w.heap.size ≤ g) hbw).trans o3 (fun g e => .inl (by omega))).to (Nat.le_refl _) fun g e => e
end Go.Proofs.YtjiilmiikejnhaaDoor
namespace Go.Proofs.YtjiilmiikejnhaaDoor
open Go.RowKit Go.Shelf Chain Ch

namespace Two
def dep (ops : Array Oper) (i j : Nat) : Bool := match ops[i]? with
  | none => false
  | some o => o.after.any fun e => e.on == j && Region.binds .any e
def low (ops : Array Oper) : Bool := (List.range ops.size).all fun i => match ops[i]? with
  | none => false
  | some o => o.after.all fun e => decide (e.on < i)

structure In where
  w : World
  a0 : Act
  S : Nat → Tmp
  x1 : Value
  x2 : Value
  n1 : Nat
  n2 : Nat
  i1 : Nat
  i2 : Nat
  F1 : List DSt
  F2 : List DSt

def Ans (W : World) (n i : Nat) (F : List DSt) (v : Value) : Prop := ∃ ad c, v = .agg #[.slice ad n c, .int .u64 (i : Int)] ∧ Sts W (.slice ad n c) F
theorem Ans.below {W W' : World} {n i : Nat} {F : List DSt} {v : Value} (h : Ans W n i F v) (hb : Below W.heap.size W W') : Ans W' n i F v := by
  obtain ⟨ad, c, e, h⟩ := h
  exact ⟨ad, c, e, h.below hb⟩
/-- A box, filled (with that value) or not. -/
def Bx (W : World) (base : Nat) (f : Bool) (n i : Nat) (r : Option Value) (v : Value) : Prop :=
  ∃ b ad k c m, v = .pointer (some ⟨b, 0, none⟩) ∧ base ≤ b ∧ FstB W b (.slice ad k c) m ∧ (f = true → r = some (.agg #[.slice ad n c, .int .u64 (i : Int)]) ∧ k = n ∧ m = i)
theorem Bx.below {W W' : World} {base : Nat} {f : Bool} {n i : Nat} {r : Option Value} {v : Value} (h : Bx W base f n i r v) (hb : Below W.heap.size W W') : Bx W' base f n i r v := by
  obtain ⟨b, ad, k, c, m, h1, h2, h3, h4⟩ := h
  exact ⟨b, ad, k, c, m, h1, h2, FstB.kp h3 (Kp.below (M := fun _ => False) hb) (fun h => h), h4⟩

structure St (E : In) (L : Array Bool) (a : Act) (W : World) : Prop where
  size : L.size = 8
  below : Below E.w.heap.size E.w W
  out : ∀ t, (∀ j, j < 6 → E.S j ≠ t) → a.tmps[t]? = E.a0.tmps[t]?
  tz : a.tmps.size = E.a0.tmps.size
  df : a.defers = E.a0.defers
  q0 : L.getD 0 false = true → a.tmps[E.S 0]? = some E.x1
  q2 : L.getD 2 false = true → a.tmps[E.S 2]? = some E.x2
  q1 : L.getD 1 false = true → ∃ v, a.tmps[E.S 1]? = some v ∧ Ans W E.n1 E.i1 E.F1 v
  q3 : L.getD 3 false = true → ∃ v, a.tmps[E.S 3]? = some v ∧ Ans W E.n2 E.i2 E.F2 v
  q4 : L.getD 4 false = true → ∃ v, a.tmps[E.S 4]? = some v ∧ Bx W E.w.heap.size (L.getD 6 false) E.n1 E.i1 a.tmps[E.S 1]? v
  q5 : L.getD 5 false = true → ∃ v, a.tmps[E.S 5]? = some v ∧ Bx W E.w.heap.size (L.getD 7 false) E.n2 E.i2 a.tmps[E.S 3]? v
  ap : L.getD 4 false = true → L.getD 5 false = true → a.tmps[E.S 4]? ≠ a.tmps[E.S 5]?

variable {E : In} {L : Array Bool} {a : Act} {W : World}

/-- A value for the slot i (one of the first six), which none has yet; nothing that stood is changed. -/
theorem St.step (h : St E L a W) {i : Nat} (hi : i < 6) (hS : ∀ i, i < 6 → ∀ j, j < 6 → E.S i = E.S j → i = j) (hz : ∀ i, i < 6 → E.S i < E.a0.tmps.size) (hun : L.getD i true = false) (h6 : L.getD 6 false = true → L.getD 1 false = true ∧ L.getD 4 false = true) (h7 : L.getD 7 false = true → L.getD 3 false = true ∧ L.getD 5 false = true) {v : Value} {W' : World} (hb : Below W.heap.size W W')
    (hv : (i = 0 → v = E.x1) ∧ (i = 2 → v = E.x2) ∧ (i = 1 → Ans W' E.n1 E.i1 E.F1 v) ∧ (i = 3 → Ans W' E.n2 E.i2 E.F2 v) ∧ (i = 4 ∨ i = 5 → ∃ b, v = .pointer (some ⟨b, 0, none⟩) ∧ E.w.heap.size ≤ b ∧ W.heap.size ≤ b ∧ FstB W' b (.slice none 0 0) 0)) :
    St E (L.setIfInBounds i true) (a.put (some (E.S i)) v) W' := by
  have hun' : L.getD i false = false := by
    rw [Array.getD_eq_getD_getElem?] at hun ⊢
    cases hl : L[i]? with
    | none => rfl
    | some b => rw [hl] at hun; exact hun
  have hLi : (L.setIfInBounds i true).getD i false = true := listed_self (by rw [h.size]; omega)
  have hLj : ∀ j, i ≠ j → (L.setIfInBounds i true).getD j false = L.getD j false := fun j hj => listed_ne hj false
  have hsi : (a.put (some (E.S i)) v).tmps[E.S i]? = some v := put_eq (by rw [h.tz]; exact hz i hi)
  have hsj : ∀ j, j < 6 → i ≠ j → (a.put (some (E.S i)) v).tmps[E.S j]? = a.tmps[E.S j]? := fun j hj hn => put_ne (fun e => hn (hS i hi j hj e))
  obtain ⟨v0, v2, v1, v3, v45⟩ := hv
  have c6 : (L.setIfInBounds i true).getD 6 false = L.getD 6 false := hLj 6 (by omega)
  have c7 : (L.setIfInBounds i true).getD 7 false = L.getD 7 false := hLj 7 (by omega)
  refine ⟨by simpa using h.size, h.below.trans (hb.mono h.below.size), fun t ht => ?_, by rw [put_size]; exact h.tz, by rw [put_defers]; exact h.df, fun g => ?_, fun g => ?_, fun g => ?_, fun g => ?_, fun g => ?_, fun g => ?_, fun g g' => ?_⟩
  · rw [put_ne (ht i hi)]; exact h.out t ht
  · by_cases e : i = 0
    · subst e; rw [hsi, v0 rfl]
    · rw [hsj 0 (by omega) e]; exact h.q0 (by rwa [hLj 0 e] at g)
  · by_cases e : i = 2
    · subst e; rw [hsi, v2 rfl]
    · rw [hsj 2 (by omega) e]; exact h.q2 (by rwa [hLj 2 e] at g)
  · by_cases e : i = 1
    · subst e; exact ⟨v, hsi, v1 rfl⟩
    · rw [hsj 1 (by omega) e]
      obtain ⟨u, e1, e2⟩ := h.q1 (by rwa [hLj 1 e] at g)
      exact ⟨u, e1, e2.below hb⟩
  · by_cases e : i = 3
    · subst e; exact ⟨v, hsi, v3 rfl⟩
    · rw [hsj 3 (by omega) e]
      obtain ⟨u, e1, e2⟩ := h.q3 (by rwa [hLj 3 e] at g)
      exact ⟨u, e1, e2.below hb⟩
  · rw [c6]
    by_cases e : i = 4
    · subst e
      obtain ⟨b, e1, e2, e3, e4⟩ := v45 (.inl rfl)
      refine ⟨v, hsi, b, none, 0, 0, 0, e1, e2, e4, fun hf => ?_⟩
      have := (h6 hf).2
      rw [hun'] at this
      cases this
    · obtain ⟨u, e1, e2⟩ := h.q4 (by rwa [hLj 4 e] at g)
      refine ⟨u, by rw [hsj 4 (by omega) e]; exact e1, ?_⟩
      obtain ⟨b, ad, k, c, m, p1, p2, p3, p4⟩ := e2.below hb
      refine ⟨b, ad, k, c, m, p1, p2, p3, fun hf => ?_⟩
      have h1 : i ≠ 1 := fun e1 => by
        subst e1
        have := (h6 hf).1
        rw [hun'] at this
        cases this
      rw [hsj 1 (by omega) h1]
      exact p4 hf
  · rw [c7]
    by_cases e : i = 5
    · subst e
      obtain ⟨b, e1, e2, e3, e4⟩ := v45 (.inr rfl)
      refine ⟨v, hsi, b, none, 0, 0, 0, e1, e2, e4, fun hf => ?_⟩
      have := (h7 hf).2
      rw [hun'] at this
      cases this
    · obtain ⟨u, e1, e2⟩ := h.q5 (by rwa [hLj 5 e] at g)
      refine ⟨u, by rw [hsj 5 (by omega) e]; exact e1, ?_⟩
      obtain ⟨b, ad, k, c, m, p1, p2, p3, p4⟩ := e2.below hb
      refine ⟨b, ad, k, c, m, p1, p2, p3, fun hf => ?_⟩
      have h1 : i ≠ 3 := fun e1 => by
        subst e1
        have := (h7 hf).1
        rw [hun'] at this
        cases this
      rw [hsj 3 (by omega) h1]
      exact p4 hf
  · by_cases e : i = 4
    · subst e
      rw [hsi, hsj 5 (by omega) (by omega)]
      obtain ⟨u, e1, b', ad, k, c, m, p1, p2, p3, p4⟩ := h.q5 (by rwa [hLj 5 (by omega)] at g')
      obtain ⟨b, f1, f2, f3, f4⟩ := v45 (.inl rfl)
      rw [e1, f1, p1]
      intro hh
      cases hh
      have := p3.lt
      omega
    · by_cases e' : i = 5
      · subst e'
        rw [hsi, hsj 4 (by omega) (by omega)]
        obtain ⟨u, e1, b', ad, k, c, m, p1, p2, p3, p4⟩ := h.q4 (by rwa [hLj 4 (by omega)] at g)
        obtain ⟨b, f1, f2, f3, f4⟩ := v45 (.inr rfl)
        rw [e1, f1, p1]
        intro hh
        cases hh
        have := p3.lt
        omega
      · rw [hsj 4 (by omega) e, hsj 5 (by omega) e']
        exact h.ap (by rwa [hLj 4 e] at g) (by rwa [hLj 5 e'] at g')

/-- The first store. -/
theorem St.fill1 (h : St E L a W) (h1 : L.getD 1 false = true) (h4 : L.getD 4 false = true) : ∃ b ad c, a.tmps[E.S 4]? = some (.pointer (some ⟨b, 0, none⟩)) ∧ a.tmps[E.S 1]? = some (.agg #[.slice ad E.n1 c, .int .u64 (E.i1 : Int)]) ∧ (∃ u m, FstB W b u m) ∧
    St E (L.setIfInBounds 6 true) a ((W.setCell ⟨b, 0, none⟩ (.slice ad E.n1 c)).setCell ⟨b, 1, none⟩ (.int .u64 (E.i1 : Int))) := by
  obtain ⟨v, e1, ad, c, rfl, e2⟩ := h.q1 h1
  obtain ⟨u, f1, b, ad', k, c', m, rfl, f2, f3, f4⟩ := h.q4 h4
  refine ⟨b, ad, c, f1, e1, ⟨_, _, f3⟩, ?_⟩
  obtain ⟨W', hW⟩ : ∃ W', W' = (W.setCell ⟨b, 0, none⟩ (.slice ad E.n1 c)).setCell ⟨b, 1, none⟩ (.int .u64 (E.i1 : Int)) := ⟨_, rfl⟩
  have hf : FstB W' b (.slice ad E.n1 c) E.i1 := by rw [hW]; exact (f3.set0 _).set1 _
  have hk := (kp_set W b 0 (.slice ad E.n1 c)).trans (kp_set _ b 1 (.int .u64 (E.i1 : Int))) (fun g e => .inl e)
  rw [← hW] at hk ⊢
  have hLj : ∀ j, 6 ≠ j → (L.setIfInBounds 6 true).getD j false = L.getD j false := fun j hj => listed_ne hj false
  refine ⟨by simpa using h.size, ((Kp.below (M := fun g => E.w.heap.size ≤ g) h.below).trans hk (fun g e => .inl (by omega))).to (Nat.le_refl _) fun g e => e, h.out, h.tz, h.df, fun g => h.q0 (by rwa [hLj 0 (by omega)] at g), fun g => h.q2 (by rwa [hLj 2 (by omega)] at g), fun _ => ⟨_, e1, ad, c, rfl, e2.set f3 rfl hk⟩, fun g => ?_, fun _ => ⟨_, f1, b, ad, E.n1, c, E.i1, rfl, f2, hf, fun _ => ⟨e1, rfl, rfl⟩⟩, fun g => ?_, fun g g' => h.ap (by rwa [hLj 4 (by omega)] at g) (by rwa [hLj 5 (by omega)] at g')⟩
  · obtain ⟨x, g1, ad2, c2, rfl, g2⟩ := h.q3 (by rwa [hLj 3 (by omega)] at g)
    exact ⟨_, g1, ad2, c2, rfl, g2.set f3 rfl hk⟩
  · rw [hLj 7 (by omega)]
    rw [hLj 5 (by omega)] at g
    obtain ⟨x, g1, b2, ad2, k2, c2, m2, rfl, g2, g3, g4⟩ := h.q5 g
    have hne := h.ap h4 g
    rw [f1, g1] at hne
    exact ⟨_, g1, b2, ad2, k2, c2, m2, rfl, g2, g3.kp hk (fun e => hne (by rw [e])), g4⟩
theorem St.fill2 (h : St E L a W) (h1 : L.getD 3 false = true) (h4 : L.getD 5 false = true) : ∃ b ad c, a.tmps[E.S 5]? = some (.pointer (some ⟨b, 0, none⟩)) ∧ a.tmps[E.S 3]? = some (.agg #[.slice ad E.n2 c, .int .u64 (E.i2 : Int)]) ∧ (∃ u m, FstB W b u m) ∧
    St E (L.setIfInBounds 7 true) a ((W.setCell ⟨b, 0, none⟩ (.slice ad E.n2 c)).setCell ⟨b, 1, none⟩ (.int .u64 (E.i2 : Int))) := by
  obtain ⟨v, e1, ad, c, rfl, e2⟩ := h.q3 h1
  obtain ⟨u, f1, b, ad', k, c', m, rfl, f2, f3, f4⟩ := h.q5 h4
  refine ⟨b, ad, c, f1, e1, ⟨_, _, f3⟩, ?_⟩
  obtain ⟨W', hW⟩ : ∃ W', W' = (W.setCell ⟨b, 0, none⟩ (.slice ad E.n2 c)).setCell ⟨b, 1, none⟩ (.int .u64 (E.i2 : Int)) := ⟨_, rfl⟩
  have hf : FstB W' b (.slice ad E.n2 c) E.i2 := by rw [hW]; exact (f3.set0 _).set1 _
  have hk := (kp_set W b 0 (.slice ad E.n2 c)).trans (kp_set _ b 1 (.int .u64 (E.i2 : Int))) (fun g e => .inl e)
  rw [← hW] at hk ⊢
  have hLj : ∀ j, 7 ≠ j → (L.setIfInBounds 7 true).getD j false = L.getD j false := fun j hj => listed_ne hj false
  refine ⟨by simpa using h.size, ((Kp.below (M := fun g => E.w.heap.size ≤ g) h.below).trans hk (fun g e => .inl (by omega))).to (Nat.le_refl _) fun g e => e, h.out, h.tz, h.df, fun g => h.q0 (by rwa [hLj 0 (by omega)] at g), fun g => h.q2 (by rwa [hLj 2 (by omega)] at g), fun g => ?_, fun _ => ⟨_, e1, ad, c, rfl, e2.set f3 rfl hk⟩, fun g => ?_, fun _ => ⟨_, f1, b, ad, E.n2, c, E.i2, rfl, f2, hf, fun _ => ⟨e1, rfl, rfl⟩⟩, fun g g' => h.ap (by rwa [hLj 4 (by omega)] at g) (by rwa [hLj 5 (by omega)] at g')⟩
  · obtain ⟨x, g1, ad2, c2, rfl, g2⟩ := h.q1 (by rwa [hLj 1 (by omega)] at g)
    exact ⟨_, g1, ad2, c2, rfl, g2.set f3 rfl hk⟩
  · rw [hLj 6 (by omega)]
    rw [hLj 4 (by omega)] at g
    obtain ⟨x, g1, b2, ad2, k2, c2, m2, rfl, g2, g3, g4⟩ := h.q4 g
    have hne := h.ap g h4
    rw [f1, g1] at hne
    exact ⟨_, g1, b2, ad2, k2, c2, m2, rfl, g2, g3.kp hk (fun e => hne (by rw [e])), g4⟩

theorem dep_listed {ops : Array Oper} {i j : Nat} {o : Oper} (ho : ops[i]? = some o) (hd : dep ops i j = true) (hr : ∀ e ∈ o.after, Region.binds .any e = true → L.getD e.on false = true) : L.getD j false = true := by
  unfold dep at hd
  rw [ho] at hd
  dsimp only at hd
  rw [← Array.any_toList] at hd
  obtain ⟨e, he0, h⟩ := List.any_eq_true.1 hd
  have he : e ∈ o.after := by simpa using he0
  simp only [Bool.and_eq_true, beq_iff_eq] at h
  have := hr e he h.2
  rwa [h.1] at this
theorem all_listed {ops : Array Oper} (hlow : low ops = true) (hs : L.size = ops.size) (hr : Region.ready .any ops L = []) : ∀ j, j < ops.size → L.getD j false = true := by
  intro j
  induction j using Nat.strongRecOn with
  | _ j ih =>
    intro hj
    cases hl : L.getD j false with
    | true => rfl
    | false =>
      exfalso
      have ho : ops[j]? = some (ops[j]'hj) := Array.getElem?_eq_getElem hj
      have hlj := List.all_eq_true.1 hlow j (List.mem_range.2 hj)
      rw [ho] at hlj
      have hl' : L.getD j true = false := by
        rw [Array.getD_eq_getD_getElem?, Array.getElem?_eq_getElem (by rw [hs]; exact hj)] at hl ⊢
        exact hl
      have : j ∈ Region.ready .any ops L := mem_ready'.2 ⟨hl', _, ho, fun e he _ => by
        have h := of_decide_eq_true (Array.all_eq_true_iff_forall_mem.1 hlj e he)
        exact ih e.on h (by omega)⟩
      rw [hr] at this
      cases this

theorem ex_load {w : World} {a : Act} {o : Oper} {t : Tmp} {g n : Nat} {v : Value} (ho : o.op = .load 25 (.tmp t)) (ht : a.tmps[t]? = some (.pointer (some ⟨g, 0, none⟩))) (h : FstB w g v n) : (execOp a.eval o).run Tryd.prog w = .ok (.value (.agg #[v, .int .u64 (n : Int)])) w := by
  have h0 := h.at0
  have h1 := h.at1
  have ht := eval_at ht
  unfold execOp
  simp only [ho, ht]
  go_simp
theorem ex_alloc {w : World} {a : Act} {o : Oper} (ho : o.op = .alloc 25) : (execOp a.eval o).run Tryd.prog w = .ok (.value (.pointer (some ⟨w.heap.size, 0, none⟩))) (w.alloc (.cells #[.slice none 0 0, .int .u64 0] 25)) := by
  unfold execOp
  simp only [ho]
  go_simp
theorem ex_store {w : World} {a : Act} {o : Oper} {t u : Tmp} {g n : Nat} {v v0 : Value} {m : Nat} (ho : o.op = .store 25 (.tmp t) (.tmp u)) (ht : a.tmps[t]? = some (.pointer (some ⟨g, 0, none⟩))) (hu : a.tmps[u]? = some (.agg #[v, .int .u64 (n : Int)])) {ad : Option Addr} {k c : Nat} (hv : v = .slice ad k c) (h : FstB w g v0 m) :
    (execOp a.eval o).run Tryd.prog w = .ok .skip ((w.setCell ⟨g, 0, none⟩ v).setCell ⟨g, 1, none⟩ (.int .u64 (n : Int))) := by
  have h0 := h.at0
  have h1 := h.at1
  have f0 := h.free 0
  have f1 := h.free 1
  have ht := eval_at ht
  have hu := eval_at hu
  subst hv
  unfold execOp
  simp only [ho, ht, hu]
  go_simp
theorem ex_call {w : World} {a : Act} {o : Oper} {t : Tmp} {x : Value} {f : Nat} (hf : ∀ (c : Array Value) (W : World), Sem.run Tryd.prog (callFunc f c) W = .ok (.enter f c) W) (ho : o.op = .call { callee := .value (.func f), args := #[.tmp t], argTypes := #[25] }) (ht : a.tmps[t]? = some x) : (execOp a.eval o).run Tryd.prog w = .ok (.enter f #[x]) w := by
  have ht := eval_at ht
  unfold execOp
  simp only [ho, ht, resolve, invoke, List.map_toArray, List.map_cons, List.map_nil]
  simp [go_sem, hf, ht]

theorem op3 {ops : Array Oper} {i : Nat} {p : Op} {d : Option Tmp} (h : (ops[i]?).map (fun o => (o.op, o.dst, o.guard)) = some (p, d, none)) {o : Oper} (ho : ops[i]? = some o) : o.op = p ∧ o.dst = d ∧ o.guard = none := by
  rw [ho] at h
  simpa using h
theorem step_op' {ops : Array Oper} {Q : Exit → Act → World → Prop} {a : Act} {i : Nat} {o : Oper} {K : Act → World → Prop} {w : World} (ho : ops[i]? = some o) (hg : o.guard = none) (h : o.wp Tryd.prog a w K Q) : wpOp Tryd.prog ops Q i K a w := by
  unfold wpOp
  simp only [ho]
  rw [if_pos (by simp [Region.wanted, hg])]
  exact .inl h

theorem region_two (E : In) {id : Nat} {ops : Array Oper} {Q : Exit → Act → World → Prop} {f : Nat} (t3 t4 p3 p4 : Nat) (v1 v2 : Value) (hm : Tryd.prog.follows .mixedOrders = true) (hn : ops.size = 8) (hlow : low ops = true)
    (hS : ∀ i, i < 6 → ∀ j, j < 6 → E.S i = E.S j → i = j) (hz : ∀ i, i < 6 → E.S i < E.a0.tmps.size)
    (o0 : (ops[0]?).map (fun o => (o.op, o.dst, o.guard)) = some (.load 25 (.tmp t3), some (E.S 0), none))
    (o1 : (ops[1]?).map (fun o => (o.op, o.dst, o.guard)) = some (.call { callee := .value (.func f), args := #[.tmp (E.S 0)], argTypes := #[25] }, some (E.S 1), none))
    (o2 : (ops[2]?).map (fun o => (o.op, o.dst, o.guard)) = some (.load 25 (.tmp t4), some (E.S 2), none))
    (o3 : (ops[3]?).map (fun o => (o.op, o.dst, o.guard)) = some (.call { callee := .value (.func f), args := #[.tmp (E.S 2)], argTypes := #[25] }, some (E.S 3), none))
    (o4 : (ops[4]?).map (fun o => (o.op, o.dst, o.guard)) = some (.alloc 25, some (E.S 4), none))
    (o5 : (ops[5]?).map (fun o => (o.op, o.dst, o.guard)) = some (.alloc 25, some (E.S 5), none))
    (o6 : (ops[6]?).map (fun o => (o.op, o.dst, o.guard)) = some (.store 25 (.tmp (E.S 4)) (.tmp (E.S 1)), none, none))
    (o7 : (ops[7]?).map (fun o => (o.op, o.dst, o.guard)) = some (.store 25 (.tmp (E.S 5)) (.tmp (E.S 3)), none, none))
    (d10 : dep ops 1 0 = true) (d32 : dep ops 3 2 = true) (d64 : dep ops 6 4 = true) (d61 : dep ops 6 1 = true) (d75 : dep ops 7 5 = true) (d73 : dep ops 7 3 = true)
    (x1 : E.x1 = .agg #[v1, .int .u64 (E.i1 : Int)]) (x2 : E.x2 = .agg #[v2, .int .u64 (E.i2 : Int)]) (b1 : FstB E.w p3 v1 E.i1) (b2 : FstB E.w p4 v2 E.i2)
    (t1 : E.a0.tmps[t3]? = some (.pointer (some ⟨p3, 0, none⟩))) (t2 : E.a0.tmps[t4]? = some (.pointer (some ⟨p4, 0, none⟩))) (u1 : ∀ j, j < 6 → E.S j ≠ t3) (u2 : ∀ j, j < 6 → E.S j ≠ t4)
    (hf : ∀ (c : Array Value) (W : World), Sem.run Tryd.prog (callFunc f c) W = .ok (.enter f c) W)
    (c1 : ∀ W, Below E.w.heap.size E.w W → Calls Tryd.prog f #[E.x1] W fun e w' => ∃ ad c, e = .returned (.agg #[.slice ad E.n1 c, .int .u64 (E.i1 : Int)]) ∧ Sts w' (.slice ad E.n1 c) E.F1 ∧ Below W.heap.size W w')
    (c2 : ∀ W, Below E.w.heap.size E.w W → Calls Tryd.prog f #[E.x2] W fun e w' => ∃ ad c, e = .returned (.agg #[.slice ad E.n2 c, .int .u64 (E.i2 : Int)]) ∧ Sts w' (.slice ad E.n2 c) E.F2 ∧ Below W.heap.size W w')
    (hQ : ∀ W b7 b8 ad c ad' c', Below E.w.heap.size E.w W → b7 ≠ b8 → FstB W b7 (.slice ad E.n1 c) E.i1 → FstB W b8 (.slice ad' E.n2 c') E.i2 → Sts W (.slice ad E.n1 c) E.F1 → Sts W (.slice ad' E.n2 c') E.F2 →
      Q .normal ((((((E.a0.put (some (E.S 0)) E.x1).put (some (E.S 1)) (.agg #[.slice ad E.n1 c, .int .u64 (E.i1 : Int)])).put (some (E.S 2)) E.x2).put (some (E.S 3)) (.agg #[.slice ad' E.n2 c', .int .u64 (E.i2 : Int)])).put (some (E.S 4)) (.pointer (some ⟨b7, 0, none⟩))).put (some (E.S 5)) (.pointer (some ⟨b8, 0, none⟩))) W) :
    (Code.region id ops true).wp Tryd.prog Q E.a0 E.w := by
  refine wp_region_inv hm (fun L a W => St E L a W ∧ (L.getD 6 false = true → L.getD 1 false = true ∧ L.getD 4 false = true) ∧ (L.getD 7 false = true → L.getD 3 false = true ∧ L.getD 5 false = true)) (fun L a W h => by rw [hn]; exact h.1.size) ?_ ?_ ?_
  · have hno : ∀ j, (Array.replicate ops.size false).getD j false = false := fun j => by
      rw [Array.getD_eq_getD_getElem?, Array.getElem?_replicate]
      split <;> rfl
    have no : ∀ {p : Prop} j, (Array.replicate ops.size false).getD j false = true → p := fun j h => by rw [hno j] at h; cases h
    exact ⟨⟨by simp [hn], (Below.refl _ _).drew, fun _ _ => rfl, rfl, rfl, no 0, no 2, no 1, no 3, no 4, no 5, no 4⟩, no 6, no 7⟩
  · intro L a W ⟨h, h6, h7⟩ i hi K hK
    obtain ⟨hun, o, ho, hr⟩ := mem_ready'.1 hi
    have hi8 : i < 8 := by rw [← hn]; exact (Array.getElem?_eq_some_iff.1 ho).1
    have keep : ∀ j k, L.getD j false = true → (L.setIfInBounds k true).getD j false = true := fun j k hj => by
      by_cases e : k = j
      · subst e; exact listed_self (by rw [h.size]; exact (by
          rcases Nat.lt_or_ge k 8 with g | g
          · exact g
          · rw [Array.getD_eq_getD_getElem?, Array.getElem?_eq_none (by rw [h.size]; exact g)] at hj; cases hj))
      · rw [listed_ne e]; exact hj
    have k6 : i < 6 → ((L.setIfInBounds i true).getD 6 false = true → (L.setIfInBounds i true).getD 1 false = true ∧ (L.setIfInBounds i true).getD 4 false = true) ∧ ((L.setIfInBounds i true).getD 7 false = true → (L.setIfInBounds i true).getD 3 false = true ∧ (L.setIfInBounds i true).getD 5 false = true) := fun hi6 =>
      ⟨fun g => by rw [listed_ne (by omega)] at g; exact ⟨keep _ _ (h6 g).1, keep _ _ (h6 g).2⟩, fun g => by rw [listed_ne (by omega)] at g; exact ⟨keep _ _ (h7 g).1, keep _ _ (h7 g).2⟩⟩
    rcases (show i = 0 ∨ i = 1 ∨ i = 2 ∨ i = 3 ∨ i = 4 ∨ i = 5 ∨ i = 6 ∨ i = 7 by omega) with rfl | rfl | rfl | rfl | rfl | rfl | rfl | rfl
    · obtain ⟨e1, e2, e3⟩ := op3 o0 ho
      have hb := FstB.kp b1 (Kp.below (M := fun _ => False) h.below) (fun h => h)
      refine step_op' ho e3 (upon_value (ex_load e1 ((h.out t3 u1).trans t1) hb) (hK _ _ ⟨?_, k6 (by omega)⟩))
      rw [e2, ← x1]
      exact h.step (by omega) hS hz hun h6 h7 (Below.refl _ _) ⟨fun _ => rfl, fun g => by omega, fun g => by omega, fun g => by omega, fun g => by omega⟩
    · obtain ⟨e1, e2, e3⟩ := op3 o1 ho
      refine step_op' ho e3 ?_
      unfold Oper.wp
      rw [ex_call hf e1 (h.q0 (dep_listed ho d10 hr)), Oper.upon_enter]
      refine (c1 W h.below).mono ?_
      rintro e w' ⟨ad, c, rfl, r1, r2⟩
      rw [e2]
      exact hK _ _ ⟨h.step (by omega) hS hz hun h6 h7 r2 ⟨fun g => by omega, fun g => by omega, fun _ => ⟨ad, c, rfl, r1⟩, fun g => by omega, fun g => by omega⟩, k6 (by omega)⟩
    · obtain ⟨e1, e2, e3⟩ := op3 o2 ho
      have hb := FstB.kp b2 (Kp.below (M := fun _ => False) h.below) (fun h => h)
      refine step_op' ho e3 (upon_value (ex_load e1 ((h.out t4 u2).trans t2) hb) (hK _ _ ⟨?_, k6 (by omega)⟩))
      rw [e2, ← x2]
      exact h.step (by omega) hS hz hun h6 h7 (Below.refl _ _) ⟨fun g => by omega, fun _ => rfl, fun g => by omega, fun g => by omega, fun g => by omega⟩
    · obtain ⟨e1, e2, e3⟩ := op3 o3 ho
      refine step_op' ho e3 ?_
      unfold Oper.wp
      rw [ex_call hf e1 (h.q2 (dep_listed ho d32 hr)), Oper.upon_enter]
      refine (c2 W h.below).mono ?_
      rintro e w' ⟨ad, c, rfl, r1, r2⟩
      rw [e2]
      exact hK _ _ ⟨h.step (by omega) hS hz hun h6 h7 r2 ⟨fun g => by omega, fun g => by omega, fun g => by omega, fun _ => ⟨ad, c, rfl, r1⟩, fun g => by omega⟩, k6 (by omega)⟩
    · obtain ⟨e1, e2, e3⟩ := op3 o4 ho
      refine step_op' ho e3 (upon_value (ex_alloc e1) (hK _ _ ⟨?_, k6 (by omega)⟩))
      rw [e2]
      exact h.step (by omega) hS hz hun h6 h7 (below_alloc _ _) ⟨fun g => by omega, fun g => by omega, fun g => by omega, fun g => by omega, fun _ => ⟨W.heap.size, rfl, h.below.size, Nat.le_refl _, alloc_at _ _ rfl⟩⟩
    · obtain ⟨e1, e2, e3⟩ := op3 o5 ho
      refine step_op' ho e3 (upon_value (ex_alloc e1) (hK _ _ ⟨?_, k6 (by omega)⟩))
      rw [e2]
      exact h.step (by omega) hS hz hun h6 h7 (below_alloc _ _) ⟨fun g => by omega, fun g => by omega, fun g => by omega, fun g => by omega, fun _ => ⟨W.heap.size, rfl, h.below.size, Nat.le_refl _, alloc_at _ _ rfl⟩⟩
    · obtain ⟨e1, e2, e3⟩ := op3 o6 ho
      have l4 := dep_listed ho d64 hr
      have l1 := dep_listed ho d61 hr
      obtain ⟨b, ad, c, g1, g2, ⟨u, m, g3⟩, g4⟩ := h.fill1 l1 l4
      refine step_op' ho e3 ?_
      unfold Oper.wp
      rw [ex_store e1 g1 g2 rfl g3]
      refine hK _ _ ⟨by rw [e2]; exact g4, fun _ => ⟨keep _ _ l1, keep _ _ l4⟩, fun g => ?_⟩
      rw [listed_ne (by omega)] at g
      exact ⟨keep _ _ (h7 g).1, keep _ _ (h7 g).2⟩
    · obtain ⟨e1, e2, e3⟩ := op3 o7 ho
      have l4 := dep_listed ho d75 hr
      have l1 := dep_listed ho d73 hr
      obtain ⟨b, ad, c, g1, g2, ⟨u, m, g3⟩, g4⟩ := h.fill2 l1 l4
      refine step_op' ho e3 ?_
      unfold Oper.wp
      rw [ex_store e1 g1 g2 rfl g3]
      refine hK _ _ ⟨by rw [e2]; exact g4, fun g => ?_, fun _ => ⟨keep _ _ l1, keep _ _ l4⟩⟩
      rw [listed_ne (by omega)] at g
      exact ⟨keep _ _ (h6 g).1, keep _ _ (h6 g).2⟩
  · intro L a W ⟨h, h6, h7⟩ hr
    have hl := all_listed hlow (by rw [h.size, hn]) hr
    have q0 := h.q0 (hl 0 (by omega))
    have q2 := h.q2 (hl 2 (by omega))
    obtain ⟨_, q1, a1, k1, rfl, s1⟩ := h.q1 (hl 1 (by omega))
    obtain ⟨_, q3, a2, k2, rfl, s2⟩ := h.q3 (hl 3 (by omega))
    obtain ⟨_, q4, b7, ad, k, c, m, rfl, g2, g3, g4⟩ := h.q4 (hl 4 (by omega))
    obtain ⟨_, q5, b8, ad', k', c', m', rfl, g2', g3', g4'⟩ := h.q5 (hl 5 (by omega))
    obtain ⟨r1, rfl, rfl⟩ := g4 (hl 6 (by omega))
    obtain ⟨r2, rfl, rfl⟩ := g4' (hl 7 (by omega))
    rw [r1] at q1
    rw [r2] at q3
    have hne : b7 ≠ b8 := fun e => h.ap (hl 4 (by omega)) (hl 5 (by omega)) (by rw [q4, q5, e])
    have key := hQ W b7 b8 ad c ad' c' h.below hne g3 g3' (by cases q1; exact s1) (by cases q3; exact s2)
    have ha : a = ((((((E.a0.put (some (E.S 0)) E.x1).put (some (E.S 1)) (.agg #[.slice ad E.n1 c, .int .u64 (E.i1 : Int)])).put (some (E.S 2)) E.x2).put (some (E.S 3)) (.agg #[.slice ad' E.n2 c', .int .u64 (E.i2 : Int)])).put (some (E.S 4)) (.pointer (some ⟨b7, 0, none⟩))).put (some (E.S 5)) (.pointer (some ⟨b8, 0, none⟩))) := by
      have hne' : ∀ i j, i < 6 → j < 6 → i ≠ j → E.S i ≠ E.S j := fun i j hi hj hn e => hn (hS i hi j hj e)
      refine Said.act_ext ?_ ?_ fun t _ => ?_
      · simp only [put_defers]; exact h.df
      · simp only [put_size]; exact h.tz
      · by_cases ht : ∀ j, j < 6 → E.S j ≠ t
        · rw [h.out t ht, put_ne (ht 5 (by omega)), put_ne (ht 4 (by omega)), put_ne (ht 3 (by omega)), put_ne (ht 2 (by omega)), put_ne (ht 1 (by omega)), put_ne (ht 0 (by omega))]
        · obtain ⟨j, hj⟩ := Classical.not_forall.1 ht
          obtain ⟨hjn, hjt⟩ := Classical.not_imp.1 hj
          have hjt := Classical.not_not.1 hjt
          subst hjt
          rcases (show j = 0 ∨ j = 1 ∨ j = 2 ∨ j = 3 ∨ j = 4 ∨ j = 5 by omega) with rfl | rfl | rfl | rfl | rfl | rfl
          · rw [q0, put_ne (hne' 5 0 (by omega) (by omega) (by omega)), put_ne (hne' 4 0 (by omega) (by omega) (by omega)), put_ne (hne' 3 0 (by omega) (by omega) (by omega)), put_ne (hne' 2 0 (by omega) (by omega) (by omega)), put_ne (hne' 1 0 (by omega) (by omega) (by omega)), put_eq (hz 0 (by omega))]
          · rw [r1, put_ne (hne' 5 1 (by omega) (by omega) (by omega)), put_ne (hne' 4 1 (by omega) (by omega) (by omega)), put_ne (hne' 3 1 (by omega) (by omega) (by omega)), put_ne (hne' 2 1 (by omega) (by omega) (by omega)), put_eq (by simp only [put_size]; exact hz 1 (by omega))]
          · rw [q2, put_ne (hne' 5 2 (by omega) (by omega) (by omega)), put_ne (hne' 4 2 (by omega) (by omega) (by omega)), put_ne (hne' 3 2 (by omega) (by omega) (by omega)), put_eq (by simp only [put_size]; exact hz 2 (by omega))]
          · rw [r2, put_ne (hne' 5 3 (by omega) (by omega) (by omega)), put_ne (hne' 4 3 (by omega) (by omega) (by omega)), put_eq (by simp only [put_size]; exact hz 3 (by omega))]
          · rw [q4, put_ne (hne' 5 4 (by omega) (by omega) (by omega)), put_eq (by simp only [put_size]; exact hz 4 (by omega))]
          · rw [q5, put_eq (by simp only [put_size]; exact hz 5 (by omega))]
    rw [ha]
    exact key
end Two
end Go.Proofs.YtjiilmiikejnhaaDoor
